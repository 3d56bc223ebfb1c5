/- Laid together of: RefRatio, RefRText, RefNormal. -/
import Derived.Test.YteghlbhpaaocmaaGreatDoorRefB
import Derived.Test.YteghlbhpaaocmaaGreatDoorAll8
import Derived.Test.YteghlbhpaaocmaaGreatDoorRefA
/- ==== RefRatio ==== -/
namespace Go.Proofs.YteghlbhpaaocmaaGreatDoor
open Go.RowKit
set_option linter.unusedVariables false
/-- A rational of the document's. -/
def RR (w : World) (v : Value) (neg : Bool) (n d : Nat) : Prop :=
  ∃ (na : Option Addr) (nl nc : Nat) (da : Option Addr) (dl dc : Nat), v = .agg #[.bool neg, .slice na nl nc, .slice da dl dc] ∧ RN w (.slice na nl nc) n ∧ RN w (.slice da dl dc) d
theorem RR.below {w w' : World} {v : Value} {neg : Bool} {n d : Nat} (h : RR w v neg n d) (q : Below w.heap.size w w') : RR w' v neg n d := by
  obtain ⟨na, nl, nc, da, dl, dc, rfl, h1, h2⟩ := h
  exact ⟨na, nl, nc, da, dl, dc, rfl, h1.below q, h2.below q⟩
theorem box3 {w : World} {g : Nat} {x y z : Value} {t : TypeId} (h : w.heap[g]? = some (.cells #[x, y, z] t (0, 0))) :
    w.cell? ⟨g, 0, none⟩ = some x ∧ w.cell? ⟨g, 1, none⟩ = some y ∧ w.cell? ⟨g, 2, none⟩ = some z ∧ w.frozen? ⟨g, 0, none⟩ = false ∧ w.frozen? ⟨g, 1, none⟩ = false ∧ w.frozen? ⟨g, 2, none⟩ = false := by
  refine ⟨(cell_of_row w g 0 _ t (0, 0) h).trans rfl, (cell_of_row w g 1 _ t (0, 0) h).trans rfl, (cell_of_row w g 2 _ t (0, 0) h).trans rfl, ?_, ?_, ?_⟩ <;> simp [World.frozen?, h]
theorem set3 (w : World) (g : Nat) (a b c : Value) : w.grownBy (((w.setCell ⟨g, 0, none⟩ a).setCell ⟨g, 1, none⟩ b).setCell ⟨g, 2, none⟩ c) (some g) :=
  grown_trans (grown_trans (grown_set _ _ _ _) (grown_set _ _ _ _)) (grown_set _ _ _ _)
/-- A list of ints does not lie where a rational lies. -/
theorem RN.past {w w' : World} {v : Value} {n g : Nat} {x : Bool} {ya : Option Addr} {yl yc : Nat} {za : Option Addr} {zl zc : Nat} {t : TypeId} (h : RN w v n) (hg : w.heap[g]? = some (.cells #[.bool x, .slice ya yl yc, .slice za zl zc] t (0, 0))) (q : w.grownBy w' (some g)) : RN w' v n := by
  obtain ⟨l, hr, hd⟩ := h
  refine ⟨l, hr.kept q (fun g' e => ?_), hd⟩
  cases e
  obtain ⟨ao, cap, rfl, h1, h2, h3, h4⟩ := hr
  intro hl a m c e
  obtain ⟨b, off, rfl, hc⟩ := h4 hl
  cases e
  intro hbg
  have h0 := hc 0 (List.length_pos_iff.2 hl)
  have hbg' : b = g := hbg
  subst hbg'
  rw [cell_of_row w b (off + 0) _ t (0, 0) hg] at h0
  match hoff : off + 0, h0 with
  | 0, h0 => simp at h0
  | 1, h0 => simp at h0
  | 2, h0 => simp at h0
  | k + 3, h0 => simp at h0
set_option maxRecDepth 100000 in
set_option maxHeartbeats 3200000 in
theorem ratio_calls (w : World) (neg : Bool) (vn vd : Value) (n d K : Nat) (hn : RN w vn n) (hd : RN w vd d) (hd0 : 0 < d) (kn : (n : Int) < M.NB ^ K) (kd : (d : Int) < M.NB ^ K) (hK : K ≤ 1099511627776) (hK1 : 1 ≤ K) :
    Calls Tryz.prog 42 #[.bool neg, vn, vd] w fun e w' => (∃ v, e = .returned v ∧ RR w' v (neg && !decide (n = 0)) (n / Nat.gcd n d) (d / Nat.gcd n d)) ∧ Below w.heap.size w w' := by
  obtain ⟨na, nl, nc, rfl, en, n1, n2⟩ := hn.form
  obtain ⟨da, dl, dc, rfl, ed, d1, d2⟩ := hd.form
  have HN := hide hn
  have HD := hide hd
  have KN := hide kn
  have KD := hide kd
  clear hn hd kn kd
  obtain ⟨W0, hW0⟩ : ∃ W0, w.alloc (.cells #[.bool false, .slice none 0 0, .slice none 0 0] 56) = W0 := ⟨_, rfl⟩
  have B0 : Hid (Below w.heap.size w W0) := by rw [← hW0]; exact (Below.refl _ w).alloc (Nat.le_refl _) _
  have A0 : Hid (W0.heap[w.heap.size]? = some (.cells #[.bool false, .slice none 0 0, .slice none 0 0] 56 (0, 0))) := by rw [← hW0]; exact heap_alloc_new w _
  by_cases h0 : nl = 0
  · subst h0
    have hn0 : n = 0 := en.1 rfl
    have hX : Hid ((neg && !decide (n = 0)) = false ∧ n / Nat.gcd n d = 0 ∧ d / Nat.gcd n d = 1) := by
      subst hn0
      exact ⟨by simp, by simp, by rw [Nat.gcd_zero_left]; exact Nat.div_self hd0⟩
    have HN0 : Hid (RN w (.slice na 0 nc) 0) := by have h := HN.out; rw [hn0] at h; exact h
    rw [hX.out.1, hX.out.2.1, hX.out.2.2]
    have q1 := hide (natInt_calls W0 1 (by decide) (by decide))
    clear en ed hn0 HN KN
    go_enter Tryz.func42, Tryz.ntmps42
    go_wp2_with (go_at_call 80; refine q1.out.mono ?_; rintro e w1 ⟨⟨v1, rfl, m1⟩, b1⟩; obtain ⟨xa, xl, xc, rfl, -, -, -⟩ := m1.form; have A1 := hide (kept_block A0.out b1); obtain ⟨z0, z1, z2, f0, f1, f2⟩ := box3 A1.out; replace m1 := hide m1; replace b1 := hide b1)
    refine bodyPost_ret (v := .agg #[.bool false, .slice na 0 nc, .slice xa xl xc]) (by simp [results, Tryz.results42, go_sem, z0, z1, z2]) rfl ?_
    have q := set3 w1 w.heap.size (.bool false) (.slice na 0 nc) (.slice xa xl xc)
    exact ⟨⟨_, rfl, na, 0, nc, xa, xl, xc, rfl, (HN0.out.below (B0.out.then_below b1.out)).past A1.out q, m1.out.past A1.out q⟩, (B0.out.then_below b1.out).then_grown q (by rintro g ⟨⟩; exact Nat.le_refl _)⟩
  · have hn0 : 0 < n := by
      rcases Nat.eq_zero_or_pos n with h | h
      · exact absurd (en.2 h) h0
      · exact h
    have hnl : 0 < nl := by omega
    have hneg : Hid ((neg && !decide (n = 0)) = neg) := by show _ = _; rw [decide_eq_false (by omega)]; simp
    rw [hneg.out]
    have hg0 : 0 < Nat.gcd n d := Nat.gcd_pos_of_pos_left _ hn0
    have kg : Hid ((Nat.gcd n d : Int) < M.NB ^ K) := Int.lt_of_le_of_lt (by have := Nat.gcd_le_left d hn0; omega) KN.out
    have q1 := hide (rgcd_calls W0 _ _ n d K (HN.out.below B0.out) (HD.out.below B0.out) KN.out KD.out hK hK1)
    have hd1 : Hid (Nat.gcd n d = 1 → n / Nat.gcd n d = n ∧ d / Nat.gcd n d = d) := fun h => by rw [h]; exact ⟨Nat.div_one _, Nat.div_one _⟩
    clear en ed h0
    generalize Nat.gcd n d = G at *
    by_cases hG : G = 1
    · subst hG
      rw [(hd1.out rfl).1, (hd1.out rfl).2]
      have hc : Hid (M.cmp ((1 : Nat) : Int) ((Int.toNat 1 : Nat) : Int) = 0) := hide (by decide)
      go_enter Tryz.func42, Tryz.ntmps42
      go_wp2_with (first
        | (go_at_call 81; refine q1.out.mono ?_; rintro e w1 ⟨⟨v1, rfl, m1⟩, b1⟩; have q2 := hide (natInt_calls w1 1 (by decide) (by decide)); replace m1 := hide m1; replace b1 := hide b1)
        | (go_at_call 80; refine q2.out.mono ?_; rintro e w2 ⟨⟨v2, rfl, m2⟩, b2⟩; have q3 := hide (cmpRN w2 _ _ _ _ (m1.out.below b2) m2); rw [hc.out] at q3; replace m2 := hide m2; replace b2 := hide b2)
        | (go_at_call 79; refine q3.out.mono ?_; rintro e w3 ⟨rfl, b3⟩; have A1 := hide (kept_block (kept_block (kept_block A0.out b1.out) b2.out) b3); obtain ⟨z0, z1, z2, f0, f1, f2⟩ := box3 A1.out; have B3 : Hid (Below w.heap.size w w3) := ((B0.out.then_below b1.out).then_below b2.out).then_below b3; replace b3 := hide b3))
      refine bodyPost_ret (v := .agg #[.bool neg, .slice na nl nc, .slice da dl dc]) (by simp [results, Tryz.results42, go_sem, z0, z1, z2]) rfl ?_
      have q := set3 w3 w.heap.size (.bool neg) (.slice na nl nc) (.slice da dl dc)
      exact ⟨⟨_, rfl, na, nl, nc, da, dl, dc, rfl, (HN.out.below B3.out).past A1.out q, (HD.out.below B3.out).past A1.out q⟩, B3.out.then_grown q (by rintro g ⟨⟩; exact Nat.le_refl _)⟩
    · have hc : M.cmp (G : Int) ((Int.toNat 1 : Nat) : Int) ≠ 0 := by
        have e : ((Int.toNat 1 : Nat) : Int) = 1 := by decide
        rw [e]
        unfold M.cmp
        split <;> (try split) <;> omega
      obtain ⟨c, hceq⟩ : ∃ c, M.cmp (G : Int) ((Int.toNat 1 : Nat) : Int) = c := ⟨_, rfl⟩
      rw [hceq] at hc
      have hcb : ((c : Int) != 0) = true := by simpa using hc
      replace hceq := hide hceq
      clear hc
      go_enter Tryz.func42, Tryz.ntmps42
      go_wp2_with (first
        | (go_at_call 81; refine q1.out.mono ?_; rintro e w1 ⟨⟨v1, rfl, m1⟩, b1⟩; have q2 := hide (natInt_calls w1 1 (by decide) (by decide)); replace m1 := hide m1; replace b1 := hide b1)
        | (go_at_call 80; refine q2.out.mono ?_; rintro e w2 ⟨⟨v2, rfl, m2⟩, b2⟩; have q3 := hide (cmpRN w2 _ _ _ _ (m1.out.below b2) m2); rw [hceq.out] at q3; replace m2 := hide m2; replace b2 := hide b2)
        | (go_at_call 79; refine q3.out.mono ?_; rintro e w3 ⟨rfl, b3⟩; have B3 : Hid (Below w.heap.size w w3) := ((B0.out.then_below b1.out).then_below b2.out).then_below b3; have M3 := hide ((m1.out.below b2.out).below b3); have q4 := hide (rdiv_calls w3 _ _ n G K (HN.out.below B3.out) M3.out hg0 KN.out kg.out hK hK1); replace b3 := hide b3)
        | (go_at_call 82; (with_reducible refine q4.out.mono ?_); rintro e w4 ⟨⟨x4, y4, rfl, m4, -⟩, b4⟩; obtain ⟨pa, pl, pc, rfl, -, -, -⟩ := m4.form; have q5 := hide (rdiv_calls w4 _ _ d G K (HD.out.below (B3.out.then_below b4)) (M3.out.below b4) hg0 KD.out kg.out hK hK1); replace m4 := hide m4; replace b4 := hide b4)
        | (go_at_call 82; (with_reducible refine q5.out.mono ?_); rintro e w5 ⟨⟨x5, y5, rfl, m5, -⟩, b5⟩; obtain ⟨ra, rl, rc, rfl, -, -, -⟩ := m5.form; have A1 := hide (kept_block (kept_block (kept_block (kept_block (kept_block A0.out b1.out) b2.out) b3.out) b4.out) b5); obtain ⟨z0, z1, z2, f0, f1, f2⟩ := box3 A1.out; have B5 : Hid (Below w.heap.size w w5) := (B3.out.then_below b4.out).then_below b5; replace m5 := hide m5; replace b5 := hide b5))
      refine bodyPost_ret (v := .agg #[.bool neg, .slice pa pl pc, .slice ra rl rc]) (by simp [results, Tryz.results42, go_sem, z0, z1, z2]) rfl ?_
      have q := set3 w5 w.heap.size (.bool neg) (.slice pa pl pc) (.slice ra rl rc)
      exact ⟨⟨_, rfl, pa, pl, pc, ra, rl, rc, rfl, (m4.out.below b5.out).past A1.out q, m5.out.past A1.out q⟩, B5.out.then_grown q (by rintro g ⟨⟩; exact Nat.le_refl _)⟩
end Go.Proofs.YteghlbhpaaocmaaGreatDoor
/- ==== RefRText ==== -/
namespace Go.Proofs.YteghlbhpaaocmaaGreatDoor
open Go.RowKit
set_option linter.unusedVariables false
def rText (neg : Bool) (n d : Nat) : List UInt8 := if d = 1 then ratText neg n 0 else ratText neg n d
theorem keep3 {w W W2 : World} {a : Addr} {v : Value} (h : W.cell? a = some v ∧ Below w.heap.size w W) (b : Below W.heap.size W W2) : W2.cell? a = some v ∧ Below w.heap.size w W2 := by
  obtain ⟨h1, h5⟩ := h
  exact ⟨by rw [b.cell (World.block_lt_of_cell? W _ h1)]; exact h1, h5.then_below b⟩
theorem rdig_len {n K : Nat} (hn : (n : Int) < M.NB ^ K) : (Lib.decDigits n).length ≤ 9 * K + 1 := by
  refine M.decDigits_len_le ?_ (by omega)
  rw [M.NB_pow] at hn
  have h5 : n < 10 ^ (9 * K) := by exact_mod_cast hn
  have h3 : 10 ^ (9 * K) ≤ 10 ^ (9 * K + 1) := Nat.pow_le_pow_right (by decide) (by omega)
  omega
set_option maxRecDepth 100000 in
set_option maxHeartbeats 3200000 in
theorem rtext_calls (w : World) (v : Value) (neg : Bool) (n d K : Nat) (h : RR w v neg n d) (hd0 : 0 < d) (kn : (n : Int) < M.NB ^ K) (kd : (d : Int) < M.NB ^ K) (hK : K ≤ 1099511627776) :
    Calls Tryz.prog 41 #[v] w fun e w' => e = .returned (.string ⟨(rText neg n d).toArray⟩) ∧ Below w.heap.size w w' := by
  obtain ⟨na, nl, nc, da, dl, dc, rfl, hn, hd⟩ := h
  have HN := hide hn
  have HD := hide hd
  clear hn hd
  have ln := rdig_len kn
  have ld := rdig_len kd
  obtain ⟨SN, hSN⟩ : ∃ S : ByteArray, S = ⟨(Lib.decDigits n).toArray⟩ := ⟨_, rfl⟩
  obtain ⟨SD, hSD⟩ : ∃ S : ByteArray, S = ⟨(Lib.decDigits d).toArray⟩ := ⟨_, rfl⟩
  have zn : SN.size ≤ 9 * K + 1 := by rw [hSN]; exact ln
  have zd : SD.size ≤ 9 * K + 1 := by rw [hSD]; exact ld
  have m0 : SN.size ≤ 11000000000000 := by omega
  have m0' : SD.size ≤ 11000000000000 := by omega
  have m1 : ¬ 9223372036854775807 < 1 + SN.size := by omega
  have m5 : ¬ 9223372036854775807 < SN.size + 1 := by omega
  have m2 : ¬ 9223372036854775807 < SN.size + 1 + SD.size := by omega
  have m4 : ¬ 9223372036854775807 < 1 + SN.size + 1 := by omega
  have m6 : ¬ 9223372036854775807 < 1 + SN.size + 1 + SD.size := by omega
  have HSN := hide hSN
  have HSD := hide hSD
  clear ln ld zn zd
  obtain ⟨W0, hW0⟩ : ∃ W0, w.alloc (.cells #[.bool neg, .slice na nl nc, .slice da dl dc] 56) = W0 := ⟨_, rfl⟩
  have B0 : Hid (Below w.heap.size w W0) := by rw [← hW0]; exact (Below.refl _ w).alloc (Nat.le_refl _) _
  have A0 : Hid (W0.heap[w.heap.size]? = some (.cells #[.bool neg, .slice na nl nc, .slice da dl dc] 56 (0, 0))) := by rw [← hW0]; exact heap_alloc_new w _
  obtain ⟨z0, z1, z2, -, -, -⟩ := box3 A0.out
  have q1 := hide (rnatText_calls W0 _ n K (HN.out.below B0.out) kn hK)
  rw [← hSN] at q1
  clear hSN hSD
  obtain ⟨c, hceq⟩ : ∃ c, M.cmp (d : Int) ((Int.toNat 1 : Nat) : Int) = c := ⟨_, rfl⟩
  have e1 : ((Int.toNat 1 : Nat) : Int) = 1 := by decide
  by_cases hd1 : d = 1
  · have hT : Hid (rText neg n d = (if neg then [45] else []) ++ Lib.decDigits n) := by show _ = _; unfold rText; rw [if_pos hd1, ratText_whole _ _ _ rfl]
    have hc0 : c = 0 := by rw [← hceq, e1, hd1]; decide
    subst hc0
    replace hceq := hide hceq
    replace hd1 := hide hd1
    cases neg
    · have hneg := trivial
      go_enter Tryz.func41, Tryz.ntmps41
      go_wp2_with (go_at_call 78; refine q1.out.mono ?_; rintro e w1 ⟨rfl, b1⟩; have A1 := hide (kept_block A0.out b1); obtain ⟨y0, y1, y2, -, -, -⟩ := box3 A1.out; replace b1 := hide b1)
      have B1 := hide (B0.out.then_below b1.out)
      have D1 : Below w1.heap.size w1 w1.drew := (Below.refl _ _).drew
      have S0 : Hid (w1.cell? ⟨w.heap.size, 2, none⟩ = some (.slice da dl dc) ∧ Below w1.heap.size w1 w1) := ⟨y2, Below.refl _ _⟩
      have S1 : Hid (w1.drew.cell? ⟨w.heap.size, 2, none⟩ = some (.slice da dl dc) ∧ Below w1.heap.size w1 w1.drew) := ⟨y2, D1⟩
      have HD1 := hide (HD.out.below (B1.out.then_below D1))
      go_region_held3
        (fun w' => w'.cell? ⟨w.heap.size, 2, none⟩ = some (.slice da dl dc) ∧ Below w1.heap.size w1 w')
        (first
          | with_reducible exact S0.out
          | with_reducible exact S1.out
          | with_reducible exact keep3 S1.out ba
          | with_reducible exact keep3 S1.out (ba.then_below bb))
        (first
          | (go_at_call 80; refine (natInt_calls _ 1 (by decide) (by decide)).mono ?_; rintro e wa ⟨⟨va, rfl, ma⟩, ba⟩; have q3 := cmpRN wa _ _ d _ (HD1.out.below ba) ma; rw [hceq.out] at q3)
          | (go_at_call 79; refine q3.mono ?_; rintro e wb ⟨rfl, bb⟩))
      obtain ⟨yb, BB⟩ := keep3 S1.out (ba.then_below bb)
      have BF := hide (B1.out.then_below BB)
      clear q3 ma ba bb S0 S1 D1 y0 y1 y2
      go_wp2
      go_ret
      refine ⟨?_, BF.out⟩
      rw [hT.out]
      exact str_eq (by (try rw [HSN.out]); simp)
    · have hneg := trivial
      go_enter Tryz.func41, Tryz.ntmps41
      go_wp2_with (go_at_call 78; refine q1.out.mono ?_; rintro e w1 ⟨rfl, b1⟩; have A1 := hide (kept_block A0.out b1); obtain ⟨y0, y1, y2, -, -, -⟩ := box3 A1.out; replace b1 := hide b1)
      have B1 := hide (B0.out.then_below b1.out)
      have D1 : Below w1.heap.size w1 w1.drew := (Below.refl _ _).drew
      have S0 : Hid (w1.cell? ⟨w.heap.size, 2, none⟩ = some (.slice da dl dc) ∧ Below w1.heap.size w1 w1) := ⟨y2, Below.refl _ _⟩
      have S1 : Hid (w1.drew.cell? ⟨w.heap.size, 2, none⟩ = some (.slice da dl dc) ∧ Below w1.heap.size w1 w1.drew) := ⟨y2, D1⟩
      have HD1 := hide (HD.out.below (B1.out.then_below D1))
      go_region_held3
        (fun w' => w'.cell? ⟨w.heap.size, 2, none⟩ = some (.slice da dl dc) ∧ Below w1.heap.size w1 w')
        (first
          | with_reducible exact S0.out
          | with_reducible exact S1.out
          | with_reducible exact keep3 S1.out ba
          | with_reducible exact keep3 S1.out (ba.then_below bb))
        (first
          | (go_at_call 80; refine (natInt_calls _ 1 (by decide) (by decide)).mono ?_; rintro e wa ⟨⟨va, rfl, ma⟩, ba⟩; have q3 := cmpRN wa _ _ d _ (HD1.out.below ba) ma; rw [hceq.out] at q3)
          | (go_at_call 79; refine q3.mono ?_; rintro e wb ⟨rfl, bb⟩))
      obtain ⟨yb, BB⟩ := keep3 S1.out (ba.then_below bb)
      have BF := hide (B1.out.then_below BB)
      clear q3 ma ba bb S0 S1 D1 y0 y1 y2
      go_wp2
      go_ret
      refine ⟨?_, BF.out⟩
      rw [hT.out]
      exact str_eq (by (try rw [HSN.out]); simp)
  · have hT : Hid (rText neg n d = (if neg then [45] else []) ++ Lib.decDigits n ++ 47 :: Lib.decDigits d) := by show _ = _; unfold rText; rw [if_neg hd1, ratText_frac _ _ _ (by omega)]
    have hc0 : c ≠ 0 := by
      rw [← hceq, e1]
      unfold M.cmp
      split <;> (try split) <;> omega
    have hcb : ((c : Int) != 0) = true := by simpa using hc0
    replace hceq := hide hceq
    replace hd1 := hide hd1
    cases neg
    · have hneg := trivial
      go_enter Tryz.func41, Tryz.ntmps41
      go_wp2_with (go_at_call 78; refine q1.out.mono ?_; rintro e w1 ⟨rfl, b1⟩; have A1 := hide (kept_block A0.out b1); obtain ⟨y0, y1, y2, -, -, -⟩ := box3 A1.out; replace b1 := hide b1)
      have B1 := hide (B0.out.then_below b1.out)
      have D1 : Below w1.heap.size w1 w1.drew := (Below.refl _ _).drew
      have S0 : Hid (w1.cell? ⟨w.heap.size, 2, none⟩ = some (.slice da dl dc) ∧ Below w1.heap.size w1 w1) := ⟨y2, Below.refl _ _⟩
      have S1 : Hid (w1.drew.cell? ⟨w.heap.size, 2, none⟩ = some (.slice da dl dc) ∧ Below w1.heap.size w1 w1.drew) := ⟨y2, D1⟩
      have HD1 := hide (HD.out.below (B1.out.then_below D1))
      go_region_held3
        (fun w' => w'.cell? ⟨w.heap.size, 2, none⟩ = some (.slice da dl dc) ∧ Below w1.heap.size w1 w')
        (first
          | with_reducible exact S0.out
          | with_reducible exact S1.out
          | with_reducible exact keep3 S1.out ba
          | with_reducible exact keep3 S1.out (ba.then_below bb))
        (first
          | (go_at_call 80; refine (natInt_calls _ 1 (by decide) (by decide)).mono ?_; rintro e wa ⟨⟨va, rfl, ma⟩, ba⟩; have q3 := cmpRN wa _ _ d _ (HD1.out.below ba) ma; rw [hceq.out] at q3)
          | (go_at_call 79; refine q3.mono ?_; rintro e wb ⟨rfl, bb⟩))
      obtain ⟨yb, BB⟩ := keep3 S1.out (ba.then_below bb)
      have BF := hide (B1.out.then_below BB)
      have q4 := hide (rnatText_calls wb _ d K (HD.out.below BF.out) kd hK)
      rw [← HSD.out] at q4
      clear q3 ma ba bb S0 S1 D1 y0 y1 y2
      go_wp2_with (go_at_call 78; refine q4.out.mono ?_; rintro e w5 ⟨rfl, b5⟩; replace b5 := hide b5)
      go_ret
      refine ⟨?_, BF.out.then_below b5.out⟩
      rw [hT.out]
      exact str_eq (by (try rw [HSN.out]); (try rw [HSD.out]); simp)
    · have hneg := trivial
      go_enter Tryz.func41, Tryz.ntmps41
      go_wp2_with (go_at_call 78; refine q1.out.mono ?_; rintro e w1 ⟨rfl, b1⟩; have A1 := hide (kept_block A0.out b1); obtain ⟨y0, y1, y2, -, -, -⟩ := box3 A1.out; replace b1 := hide b1)
      have B1 := hide (B0.out.then_below b1.out)
      have D1 : Below w1.heap.size w1 w1.drew := (Below.refl _ _).drew
      have S0 : Hid (w1.cell? ⟨w.heap.size, 2, none⟩ = some (.slice da dl dc) ∧ Below w1.heap.size w1 w1) := ⟨y2, Below.refl _ _⟩
      have S1 : Hid (w1.drew.cell? ⟨w.heap.size, 2, none⟩ = some (.slice da dl dc) ∧ Below w1.heap.size w1 w1.drew) := ⟨y2, D1⟩
      have HD1 := hide (HD.out.below (B1.out.then_below D1))
      go_region_held3
        (fun w' => w'.cell? ⟨w.heap.size, 2, none⟩ = some (.slice da dl dc) ∧ Below w1.heap.size w1 w')
        (first
          | with_reducible exact S0.out
          | with_reducible exact S1.out
          | with_reducible exact keep3 S1.out ba
          | with_reducible exact keep3 S1.out (ba.then_below bb))
        (first
          | (go_at_call 80; refine (natInt_calls _ 1 (by decide) (by decide)).mono ?_; rintro e wa ⟨⟨va, rfl, ma⟩, ba⟩; have q3 := cmpRN wa _ _ d _ (HD1.out.below ba) ma; rw [hceq.out] at q3)
          | (go_at_call 79; refine q3.mono ?_; rintro e wb ⟨rfl, bb⟩))
      obtain ⟨yb, BB⟩ := keep3 S1.out (ba.then_below bb)
      have BF := hide (B1.out.then_below BB)
      have q4 := hide (rnatText_calls wb _ d K (HD.out.below BF.out) kd hK)
      rw [← HSD.out] at q4
      clear q3 ma ba bb S0 S1 D1 y0 y1 y2
      go_wp2_with (go_at_call 78; refine q4.out.mono ?_; rintro e w5 ⟨rfl, b5⟩; replace b5 := hide b5)
      go_ret
      refine ⟨?_, BF.out.then_below b5.out⟩
      rw [hT.out]
      exact str_eq (by (try rw [HSN.out]); (try rw [HSD.out]); simp)
end Go.Proofs.YteghlbhpaaocmaaGreatDoor
/- ==== RefNormal ==== -/
namespace Go.Proofs.YteghlbhpaaocmaaGreatDoor
open Go.RowKit
set_option linter.unusedVariables false
theorem dec_NB {u : List UInt8} (h : M.Digs u) {K : Nat} (hK : u.length ≤ K) : ((M.dec u : Nat) : Int) < M.NB ^ K := by
  rw [M.NB_pow]
  have h1 := M.dec_lt h
  have h2 : 10 ^ u.length ≤ 10 ^ (9 * K) := Nat.pow_le_pow_right (by decide) (by omega)
  exact_mod_cast Nat.lt_of_lt_of_le h1 h2
theorem text_same (neg : Bool) (n d : Nat) (hd : 0 < d) : rText (neg && !decide (n = 0)) (n / Nat.gcd n d) (d / Nat.gcd n d) = lowText neg (n / Nat.gcd n d) (d / Nat.gcd n d) := by
  unfold rText lowText
  by_cases hn : n = 0
  · subst hn
    rw [Nat.gcd_zero_left, Nat.div_self hd]
    simp
  · have hg : 0 < Nat.gcd n d := Nat.gcd_pos_of_pos_right _ hd
    have h1 : n / Nat.gcd n d ≠ 0 := by
      have := Nat.div_pos (Nat.gcd_le_left d (by omega)) hg
      omega
    rw [decide_eq_false hn]
    by_cases hd1 : d / Nat.gcd n d = 1
    · rw [if_pos hd1, if_pos (.inr hd1), decide_eq_false h1]
    · rw [if_neg hd1, if_neg (by omega)]
      simp
theorem canon_one {l u lo : List UInt8} (hu : cup l = u) (hl : clow l = lo) (h : ¬ (Good u ∧ Good lo)) : canonText l = ([], 1) := by
  unfold canonText
  rw [hu, hl, if_neg h]
theorem canon_two {l u lo : List UInt8} (hu : cup l = u) (hl : clow l = lo) (h1 : Good u) (h2 : Good lo) (hz : M.dec lo = 0) : canonText l = ([], 2) := by
  unfold canonText
  rw [hu, hl, if_pos ⟨h1, h2⟩, if_pos hz]
theorem canon_ok {l u lo : List UInt8} {neg : Bool} (hu : cup l = u) (hl : clow l = lo) (hn : cneg l = neg) (h1 : Good u) (h2 : Good lo) (hz : M.dec lo ≠ 0) :
    canonText l = (rText (neg && !decide (M.dec u = 0)) (M.dec u / Nat.gcd (M.dec u) (M.dec lo)) (M.dec lo / Nat.gcd (M.dec u) (M.dec lo)), 0) := by
  unfold canonText
  rw [hu, hl, hn, if_pos ⟨h1, h2⟩, if_neg hz, text_same neg (M.dec u) (M.dec lo) (by omega)]
set_option maxRecDepth 100000 in
set_option maxHeartbeats 6400000 in
theorem normal_plain (w : World) (s : ByteArray) (l : List UInt8) (hs : s.data.toList = l) (hl : l.length ≤ 1073741824) (hm : ∀ t, l ≠ 45 :: t) :
    Calls Tryz.prog 10 #[.string s] w fun e w' => e = .returned (.tuple #[.string ⟨(canonText l).1.toArray⟩, .int .i64 (canonText l).2]) ∧ Below w.heap.size w w' := by
  have hRz := size_of s l hs
  have HT := hide hs
  clear hs
  have hfirst : Hid (0 < l.length → (l.getD 0 0).toNat ≠ 45) := fun h e => by
    cases l with
    | nil => simp at h
    | cons b t => exact hm t (by simp at e; rw [show b = 45 from UInt8.toNat_inj.1 (by simpa using e)])
  have hTl : Hid (Lib.trimPrefix l [45] = l) := by
    show _ = _
    cases l with
    | nil => exact minus_nil
    | cons b t => exact minus_no b t (fun e => hm t (by rw [e]))
  have hcn : Hid (cneg l = false) := by show _ = _; unfold cneg; rw [hTl.out]; exact decide_eq_false (by omega)
  clear hm
  by_cases h0 : 0 < l.length
  · have hb0 := byteAt s l HT.out 0 (by omega)
    have hb1 := hfirst.out h0
    generalize l.getD 0 0 = b0 at *
    go_enter Tryz.func10, Tryz.ntmps10
    go_wp2
    go_loopw [5, 6, 7] (fun a b j wr => ∃ q : Nat, q ≤ l.length ∧ a = .string s ∧ b = .string ⟨#[49]⟩ ∧ j = .int .i64 q ∧ Hid (∀ k, k < q → l.getD k 0 ≠ 47) ∧ wr = w) (fun _ _ j _ => l.length - (intOf j).toNat)
    case atStart => exact ⟨0, Nat.zero_le _, rfl, rfl, rfl, fun k hk => absurd hk (Nat.not_lt_zero k), rfl⟩
    case round =>
      obtain ⟨q, hq, rfl, rfl, rfl, hno, hw⟩ := hrel
      subst hw
      by_cases hlt : q < l.length
      · have hqs : q < s.size := by omega
        have hb := byteAt s l HT.out q hqs
        have hcut := hide (fun h => cut_at l q hno.out hlt h)
        have hstep : Hid (l.getD q 0 ≠ 47 → ∀ k, k < q + 1 → l.getD k 0 ≠ 47) := fun h k hk => by
          rcases Nat.lt_or_ge k q with h2 | h2
          · exact hno.out k h2
          · obtain rfl : k = q := by omega
            exact h
        generalize l.getD q 0 = b at *
        by_cases h47 : b.toNat = 47
        · have hb47 : b = 47 := UInt8.toNat_inj.1 (by simpa using h47)
          have hc2 := hide (hcut.out hb47)
          clear hb47 hcut hstep hno
          obtain ⟨U, eU⟩ : ∃ U, s.extract 0 q = U := ⟨_, rfl⟩
          obtain ⟨L, eL⟩ : ∃ L, s.extract (q + 1) l.length = L := ⟨_, rfl⟩
          have hU : Hid (U.data.toList = l.take q) := by rw [← eU]; exact extract_take HT.out q
          have hLo : Hid (L.data.toList = l.drop (q + 1)) := by rw [← eL]; exact extract_drop' HT.out hRz (q + 1)
          have hcu : Hid (cup l = l.take q) := by show _ = _; unfold cup; rw [hTl.out, hc2.out]
          have hcl : Hid (clow l = l.drop (q + 1)) := by show _ = _; unfold clow; rw [hTl.out, hc2.out]; rfl
          have hu1 : (l.take q).length ≤ l.length := by rw [List.length_take]; omega
          have hu2 : (l.drop (q + 1)).length ≤ l.length := by rw [List.length_drop]; omega
          have hUz := size_of U _ hU.out
          have hLz := size_of L _ hLo.out
          generalize l.take q = u at *
          generalize l.drop (q + 1) = lo at *
          have qU := hide (run_calls wr U u hU.out (by omega))
          have qL := hide (run_calls wr L lo hLo.out (by omega))
          by_cases hGu : Good u
          · by_cases hGl : Good lo
            · rw [decide_eq_true hGu] at qU
              rw [decide_eq_true hGl] at qL
              have qN := hide (rnatOf_calls wr L lo hLo.out hGl.2 (by omega))
              by_cases hz : M.dec lo = 0
              · have hR := hide (canon_two hcu.out hcl.out hGu hGl hz)
                have HZ := hide hz
                clear hz hGu hGl
                go_wp2_with (first
                  | (go_at_call 39; (with_reducible refine qU.out.mono ?_); rintro e wx ⟨rfl, hwx⟩; rw [hwx])
                  | (go_at_call 39; (with_reducible refine qL.out.mono ?_); rintro e wx ⟨rfl, hwx⟩; rw [hwx])
                  | (go_at_call 40; (with_reducible refine qN.out.mono ?_); rintro e w5 ⟨⟨v5, rfl, n5⟩, b5⟩; obtain ⟨xa, xl, xc, rfl, ex, -, -⟩ := n5.form; obtain rfl : xl = 0 := ex.2 HZ.out; clear ex; replace n5 := hide n5; replace b5 := hide b5))
                go_ret2
                exact ⟨by rw [hR.out]; rfl, b5.out⟩
              · have hR := hide (canon_ok hcu.out hcl.out hcn.out hGu hGl hz)
                have hz0 : 0 < M.dec lo := by omega
                have kU := hide (dec_NB (K := l.length + 1) hGu.2 (by omega))
                have kL := hide (dec_NB (K := l.length + 1) hGl.2 (by omega))
                have gU := hide hGu.2
                have HZ := hide hz
                clear hz hGu hGl
                have kq : Hid (∀ a b : Nat, (a : Int) < M.NB ^ (l.length + 1) → ((a / b : Nat) : Int) < M.NB ^ (l.length + 1)) := fun a b h => Int.lt_of_le_of_lt (by have := Nat.div_le_self a b; omega) h
                have hdg : Hid (0 < M.dec lo / Nat.gcd (M.dec u) (M.dec lo)) := Nat.div_pos (Nat.gcd_le_right _ hz0) (Nat.gcd_pos_of_pos_right _ hz0)
                go_wp2_with (first
                  | (go_at_call 39; (with_reducible refine qU.out.mono ?_); rintro e wx ⟨rfl, hwx⟩; rw [hwx])
                  | (go_at_call 39; (with_reducible refine qL.out.mono ?_); rintro e wx ⟨rfl, hwx⟩; rw [hwx])
                  | (go_at_call 40; (with_reducible refine qN.out.mono ?_); rintro e w5 ⟨⟨v5, rfl, n5⟩, b5⟩; obtain ⟨xa, xl, xc, rfl, ex, -, -⟩ := n5.form; have hxl : 0 < xl := Nat.pos_of_ne_zero (fun h => HZ.out (ex.1 h)); clear ex; have qO := hide (rnatOf_calls w5 U u hU.out gU.out (by omega)); replace n5 := hide n5; replace b5 := hide b5)
                  | (go_at_call 40; (with_reducible refine qO.out.mono ?_); rintro e w6 ⟨⟨v6, rfl, n6⟩, b6⟩; have q7 := hide (fun neg => ratio_calls w6 neg _ _ (M.dec u) (M.dec lo) (l.length + 1) n6 (n5.out.below b6) hz0 kU.out kL.out (by omega) (by omega)); replace n6 := hide n6; replace b6 := hide b6)
                  | (go_at_call 42; (with_reducible refine (q7.out _).mono ?_); rintro e w7 ⟨⟨v7, rfl, n7⟩, b7⟩; have q8 := hide (rtext_calls w7 _ _ _ _ (l.length + 1) n7 hdg.out (kq.out _ _ kU.out) (kq.out _ _ kL.out) (by omega)); replace n7 := hide n7; replace b7 := hide b7)
                  | (go_at_call 41; (with_reducible refine q8.out.mono ?_); rintro e w8 ⟨rfl, b8⟩; replace b8 := hide b8))
                go_ret2
                exact ⟨by rw [hR.out]; rfl, ((b5.out.then_below b6.out).then_below b7.out).then_below b8.out⟩
            · rw [decide_eq_true hGu] at qU
              rw [decide_eq_false hGl] at qL
              have hR := hide (canon_one hcu.out hcl.out (fun h => hGl h.2))
              clear hGu hGl
              go_wp2_with (first
                | (go_at_call 39; (with_reducible refine qU.out.mono ?_); rintro e wx ⟨rfl, hwx⟩; rw [hwx])
                | (go_at_call 39; (with_reducible refine qL.out.mono ?_); rintro e wx ⟨rfl, hwx⟩; rw [hwx]))
              go_ret2
              exact ⟨by rw [hR.out]; rfl, Below.refl _ _⟩
          · rw [decide_eq_false hGu] at qU
            have hR := hide (canon_one hcu.out hcl.out (fun h => hGu h.1))
            clear hGu
            go_wp2_with (go_at_call 39; (with_reducible refine qU.out.mono ?_); rintro e wx ⟨rfl, hwx⟩; rw [hwx])
            go_ret2
            exact ⟨by rw [hR.out]; rfl, Below.refl _ _⟩
        · have hb47 : b ≠ 47 := fun e => h47 (by rw [e]; rfl)
          have hn2 := hide (hstep.out hb47)
          clear hb47 hcut hstep
          go_wp2
          go_roundw
          case rel => exact ⟨q + 1, by omega, rfl, rfl, by simp, hn2, trivial⟩
          case measure => simp [intOf]; omega
      · obtain rfl : q = l.length := by omega
        have hc2 := hide (cut_none l hno.out)
        obtain ⟨u, hut⟩ : ∃ u, l = u := ⟨_, rfl⟩
        obtain ⟨U, eU⟩ : ∃ U, s = U := ⟨_, rfl⟩
        have hU : Hid (s.data.toList = l) := HT.out
        obtain ⟨L, eL⟩ : ∃ L : ByteArray, (⟨#[49]⟩ : ByteArray) = L := ⟨_, rfl⟩
        have hLo : Hid (L.data.toList = [49]) := by rw [← eL]; exact hide rfl
        have hcu : Hid (cup l = l) := by show _ = _; unfold cup; rw [hTl.out, hc2.out]
        have hcl : Hid (clow l = [49]) := by show _ = _; unfold clow; rw [hTl.out, hc2.out]; rfl
        obtain ⟨lo, hlo⟩ : ∃ lo : List UInt8, ([49] : List UInt8) = lo := ⟨_, rfl⟩
        have hloz : lo.length = 1 := by rw [← hlo]; rfl
        rw [hlo] at hLo hcl
        have hLz := size_of L lo hLo.out
        clear hlo hno eU hut
        have qU := hide (run_calls wr s l hU.out (by omega))
        have qL := hide (run_calls wr L lo hLo.out (by omega))
        by_cases hGu : Good l
        · by_cases hGl : Good lo
          · rw [decide_eq_true hGu] at qU
            rw [decide_eq_true hGl] at qL
            have qN := hide (rnatOf_calls wr L lo hLo.out hGl.2 (by omega))
            by_cases hz : M.dec lo = 0
            · have hR := hide (canon_two hcu.out hcl.out hGu hGl hz)
              have HZ := hide hz
              clear hz hGu hGl
              go_wp2_with (first
                | (go_at_call 39; (with_reducible refine qU.out.mono ?_); rintro e wx ⟨rfl, hwx⟩; rw [hwx])
                | (go_at_call 39; (with_reducible refine qL.out.mono ?_); rintro e wx ⟨rfl, hwx⟩; rw [hwx])
                | (go_at_call 40; (with_reducible refine qN.out.mono ?_); rintro e w5 ⟨⟨v5, rfl, n5⟩, b5⟩; obtain ⟨xa, xl, xc, rfl, ex, -, -⟩ := n5.form; obtain rfl : xl = 0 := ex.2 HZ.out; clear ex; replace n5 := hide n5; replace b5 := hide b5))
              go_ret2
              exact ⟨by rw [hR.out]; rfl, b5.out⟩
            · have hR := hide (canon_ok hcu.out hcl.out hcn.out hGu hGl hz)
              have hz0 : 0 < M.dec lo := by omega
              have kU := hide (dec_NB (K := l.length + 1) hGu.2 (by omega))
              have kL := hide (dec_NB (K := l.length + 1) hGl.2 (by omega))
              have gU := hide hGu.2
              have HZ := hide hz
              clear hz hGu hGl
              have kq : Hid (∀ a b : Nat, (a : Int) < M.NB ^ (l.length + 1) → ((a / b : Nat) : Int) < M.NB ^ (l.length + 1)) := fun a b h => Int.lt_of_le_of_lt (by have := Nat.div_le_self a b; omega) h
              have hdg : Hid (0 < M.dec lo / Nat.gcd (M.dec l) (M.dec lo)) := Nat.div_pos (Nat.gcd_le_right _ hz0) (Nat.gcd_pos_of_pos_right _ hz0)
              go_wp2_with (first
                | (go_at_call 39; (with_reducible refine qU.out.mono ?_); rintro e wx ⟨rfl, hwx⟩; rw [hwx])
                | (go_at_call 39; (with_reducible refine qL.out.mono ?_); rintro e wx ⟨rfl, hwx⟩; rw [hwx])
                | (go_at_call 40; (with_reducible refine qN.out.mono ?_); rintro e w5 ⟨⟨v5, rfl, n5⟩, b5⟩; obtain ⟨xa, xl, xc, rfl, ex, -, -⟩ := n5.form; have hxl : 0 < xl := Nat.pos_of_ne_zero (fun h => HZ.out (ex.1 h)); clear ex; have qO := hide (rnatOf_calls w5 s l hU.out gU.out (by omega)); replace n5 := hide n5; replace b5 := hide b5)
                | (go_at_call 40; (with_reducible refine qO.out.mono ?_); rintro e w6 ⟨⟨v6, rfl, n6⟩, b6⟩; have q7 := hide (fun neg => ratio_calls w6 neg _ _ (M.dec l) (M.dec lo) (l.length + 1) n6 (n5.out.below b6) hz0 kU.out kL.out (by omega) (by omega)); replace n6 := hide n6; replace b6 := hide b6)
                | (go_at_call 42; (with_reducible refine (q7.out _).mono ?_); rintro e w7 ⟨⟨v7, rfl, n7⟩, b7⟩; have q8 := hide (rtext_calls w7 _ _ _ _ (l.length + 1) n7 hdg.out (kq.out _ _ kU.out) (kq.out _ _ kL.out) (by omega)); replace n7 := hide n7; replace b7 := hide b7)
                | (go_at_call 41; (with_reducible refine q8.out.mono ?_); rintro e w8 ⟨rfl, b8⟩; replace b8 := hide b8))
              go_ret2
              exact ⟨by rw [hR.out]; rfl, ((b5.out.then_below b6.out).then_below b7.out).then_below b8.out⟩
          · rw [decide_eq_true hGu] at qU
            rw [decide_eq_false hGl] at qL
            have hR := hide (canon_one hcu.out hcl.out (fun h => hGl h.2))
            clear hGu hGl
            go_wp2_with (first
              | (go_at_call 39; (with_reducible refine qU.out.mono ?_); rintro e wx ⟨rfl, hwx⟩; rw [hwx])
              | (go_at_call 39; (with_reducible refine qL.out.mono ?_); rintro e wx ⟨rfl, hwx⟩; rw [hwx]))
            go_ret2
            exact ⟨by rw [hR.out]; rfl, Below.refl _ _⟩
        · rw [decide_eq_false hGu] at qU
          have hR := hide (canon_one hcu.out hcl.out (fun h => hGu h.1))
          clear hGu
          go_wp2_with (go_at_call 39; (with_reducible refine qU.out.mono ?_); rintro e wx ⟨rfl, hwx⟩; rw [hwx])
          go_ret2
          exact ⟨by rw [hR.out]; rfl, Below.refl _ _⟩
  · have h00 : l.length = 0 := by omega
    have hnil : l = [] := List.length_eq_zero_iff.1 h00
    have hR : Hid (canonText l = ([], 1)) := by
      rw [hnil]
      exact hide (canon_one rfl rfl (fun h => h.1.1 (by decide)))
    have qU := hide (run_calls w s l HT.out (by omega))
    rw [decide_eq_false (fun h : Good l => h.1 hnil)] at qU
    clear hnil
    go_enter Tryz.func10, Tryz.ntmps10
    go_wp2
    go_loopw [5, 6, 7] (fun a b j wr => a = .string s ∧ b = .string ⟨#[49]⟩ ∧ j = .int .i64 0 ∧ wr = w) (fun _ _ _ _ => 0)
    case atStart => exact ⟨rfl, rfl, rfl, rfl⟩
    case round =>
      obtain ⟨rfl, rfl, rfl, hw⟩ := hrel
      subst hw
      go_wp2_with (go_at_call 39; (with_reducible refine qU.out.mono ?_); rintro e wx ⟨rfl, hwx⟩; rw [hwx])
      go_ret2
      exact ⟨by rw [hR.out]; rfl, Below.refl _ _⟩
set_option maxRecDepth 100000 in
set_option maxHeartbeats 6400000 in
theorem normal_minus (w : World) (s : ByteArray) (l t : List UInt8) (hs : s.data.toList = l) (hl : l.length ≤ 1073741824) (hm : l = 45 :: t) :
    Calls Tryz.prog 10 #[.string s] w fun e w' => e = .returned (.tuple #[.string ⟨(canonText l).1.toArray⟩, .int .i64 (canonText l).2]) ∧ Below w.heap.size w w' := by
  have hll : l.length = t.length + 1 := by rw [hm]; rfl
  have hsz := size_of s l hs
  have hb0 := byteAt s l hs 0 (by omega)
  have hb1 : l.getD 0 0 = 45 := by rw [hm]; rfl
  rw [hb1] at hb0
  rw [hll] at hsz
  obtain ⟨R, eR⟩ : ∃ R, s.extract 1 (t.length + 1) = R := ⟨_, rfl⟩
  have HT : Hid (R.data.toList = t) := by
    show _ = _
    rw [← eR, ← hsz, extract_drop hs 1, hm]
    rfl
  have hRz := size_of R t HT.out
  have hTl : Hid (Lib.trimPrefix l [45] = t) := by rw [hm]; exact hide (minus_yes t)
  have hcn : Hid (cneg l = true) := by show _ = _; unfold cneg; rw [hTl.out]; exact decide_eq_true (by omega)
  clear hm hs hb1
  replace hll := hide hll
  have hl2 : t.length ≤ l.length := by have := hll.out; omega
  have hdt : decide ((t.length : Int) < (t.length : Int) + 1) = true := decide_eq_true (by omega)
  · go_enter Tryz.func10, Tryz.ntmps10
    go_wp2
    go_loopw [5, 6, 7] (fun a b j wr => ∃ q : Nat, q ≤ t.length ∧ a = .string R ∧ b = .string ⟨#[49]⟩ ∧ j = .int .i64 q ∧ Hid (∀ k, k < q → t.getD k 0 ≠ 47) ∧ wr = w) (fun _ _ j _ => t.length - (intOf j).toNat)
    case atStart => exact ⟨0, Nat.zero_le _, rfl, rfl, rfl, fun k hk => absurd hk (Nat.not_lt_zero k), rfl⟩
    case round =>
      obtain ⟨q, hq, rfl, rfl, rfl, hno, hw⟩ := hrel
      subst hw
      by_cases hlt : q < t.length
      · have hqs : q < R.size := by omega
        have hb := byteAt R t HT.out q hqs
        have hcut := hide (fun h => cut_at t q hno.out hlt h)
        have hstep : Hid (t.getD q 0 ≠ 47 → ∀ k, k < q + 1 → t.getD k 0 ≠ 47) := fun h k hk => by
          rcases Nat.lt_or_ge k q with h2 | h2
          · exact hno.out k h2
          · obtain rfl : k = q := by omega
            exact h
        generalize t.getD q 0 = b at *
        by_cases h47 : b.toNat = 47
        · have hb47 : b = 47 := UInt8.toNat_inj.1 (by simpa using h47)
          have hc2 := hide (hcut.out hb47)
          clear hb47 hcut hstep hno
          obtain ⟨U, eU⟩ : ∃ U, R.extract 0 q = U := ⟨_, rfl⟩
          obtain ⟨L, eL⟩ : ∃ L, R.extract (q + 1) t.length = L := ⟨_, rfl⟩
          have hU : Hid (U.data.toList = t.take q) := by rw [← eU]; exact extract_take HT.out q
          have hLo : Hid (L.data.toList = t.drop (q + 1)) := by rw [← eL]; exact extract_drop' HT.out hRz (q + 1)
          have hcu : Hid (cup l = t.take q) := by show _ = _; unfold cup; rw [hTl.out, hc2.out]
          have hcl : Hid (clow l = t.drop (q + 1)) := by show _ = _; unfold clow; rw [hTl.out, hc2.out]; rfl
          have hu1 : (t.take q).length ≤ t.length := by rw [List.length_take]; omega
          have hu2 : (t.drop (q + 1)).length ≤ t.length := by rw [List.length_drop]; omega
          have hUz := size_of U _ hU.out
          have hLz := size_of L _ hLo.out
          generalize t.take q = u at *
          generalize t.drop (q + 1) = lo at *
          have qU := hide (run_calls wr U u hU.out (by omega))
          have qL := hide (run_calls wr L lo hLo.out (by omega))
          by_cases hGu : Good u
          · by_cases hGl : Good lo
            · rw [decide_eq_true hGu] at qU
              rw [decide_eq_true hGl] at qL
              have qN := hide (rnatOf_calls wr L lo hLo.out hGl.2 (by omega))
              by_cases hz : M.dec lo = 0
              · have hR := hide (canon_two hcu.out hcl.out hGu hGl hz)
                have HZ := hide hz
                clear hz hGu hGl
                go_wp2_with (first
                  | (go_at_call 39; (with_reducible refine qU.out.mono ?_); rintro e wx ⟨rfl, hwx⟩; rw [hwx])
                  | (go_at_call 39; (with_reducible refine qL.out.mono ?_); rintro e wx ⟨rfl, hwx⟩; rw [hwx])
                  | (go_at_call 40; (with_reducible refine qN.out.mono ?_); rintro e w5 ⟨⟨v5, rfl, n5⟩, b5⟩; obtain ⟨xa, xl, xc, rfl, ex, -, -⟩ := n5.form; obtain rfl : xl = 0 := ex.2 HZ.out; clear ex; replace n5 := hide n5; replace b5 := hide b5))
                go_ret2
                exact ⟨by rw [hR.out]; rfl, b5.out⟩
              · have hR := hide (canon_ok hcu.out hcl.out hcn.out hGu hGl hz)
                have hz0 : 0 < M.dec lo := by omega
                have kU := hide (dec_NB (K := l.length + 1) hGu.2 (by omega))
                have kL := hide (dec_NB (K := l.length + 1) hGl.2 (by omega))
                have gU := hide hGu.2
                have HZ := hide hz
                clear hz hGu hGl
                have kq : Hid (∀ a b : Nat, (a : Int) < M.NB ^ (l.length + 1) → ((a / b : Nat) : Int) < M.NB ^ (l.length + 1)) := fun a b h => Int.lt_of_le_of_lt (by have := Nat.div_le_self a b; omega) h
                have hdg : Hid (0 < M.dec lo / Nat.gcd (M.dec u) (M.dec lo)) := Nat.div_pos (Nat.gcd_le_right _ hz0) (Nat.gcd_pos_of_pos_right _ hz0)
                go_wp2_with (first
                  | (go_at_call 39; (with_reducible refine qU.out.mono ?_); rintro e wx ⟨rfl, hwx⟩; rw [hwx])
                  | (go_at_call 39; (with_reducible refine qL.out.mono ?_); rintro e wx ⟨rfl, hwx⟩; rw [hwx])
                  | (go_at_call 40; (with_reducible refine qN.out.mono ?_); rintro e w5 ⟨⟨v5, rfl, n5⟩, b5⟩; obtain ⟨xa, xl, xc, rfl, ex, -, -⟩ := n5.form; have hxl : 0 < xl := Nat.pos_of_ne_zero (fun h => HZ.out (ex.1 h)); clear ex; have qO := hide (rnatOf_calls w5 U u hU.out gU.out (by omega)); replace n5 := hide n5; replace b5 := hide b5)
                  | (go_at_call 40; (with_reducible refine qO.out.mono ?_); rintro e w6 ⟨⟨v6, rfl, n6⟩, b6⟩; have q7 := hide (fun neg => ratio_calls w6 neg _ _ (M.dec u) (M.dec lo) (l.length + 1) n6 (n5.out.below b6) hz0 kU.out kL.out (by omega) (by omega)); replace n6 := hide n6; replace b6 := hide b6)
                  | (go_at_call 42; (with_reducible refine (q7.out _).mono ?_); rintro e w7 ⟨⟨v7, rfl, n7⟩, b7⟩; have q8 := hide (rtext_calls w7 _ _ _ _ (l.length + 1) n7 hdg.out (kq.out _ _ kU.out) (kq.out _ _ kL.out) (by omega)); replace n7 := hide n7; replace b7 := hide b7)
                  | (go_at_call 41; (with_reducible refine q8.out.mono ?_); rintro e w8 ⟨rfl, b8⟩; replace b8 := hide b8))
                go_ret2
                exact ⟨by rw [hR.out]; rfl, ((b5.out.then_below b6.out).then_below b7.out).then_below b8.out⟩
            · rw [decide_eq_true hGu] at qU
              rw [decide_eq_false hGl] at qL
              have hR := hide (canon_one hcu.out hcl.out (fun h => hGl h.2))
              clear hGu hGl
              go_wp2_with (first
                | (go_at_call 39; (with_reducible refine qU.out.mono ?_); rintro e wx ⟨rfl, hwx⟩; rw [hwx])
                | (go_at_call 39; (with_reducible refine qL.out.mono ?_); rintro e wx ⟨rfl, hwx⟩; rw [hwx]))
              go_ret2
              exact ⟨by rw [hR.out]; rfl, Below.refl _ _⟩
          · rw [decide_eq_false hGu] at qU
            have hR := hide (canon_one hcu.out hcl.out (fun h => hGu h.1))
            clear hGu
            go_wp2_with (go_at_call 39; (with_reducible refine qU.out.mono ?_); rintro e wx ⟨rfl, hwx⟩; rw [hwx])
            go_ret2
            exact ⟨by rw [hR.out]; rfl, Below.refl _ _⟩
        · have hb47 : b ≠ 47 := fun e => h47 (by rw [e]; rfl)
          have hn2 := hide (hstep.out hb47)
          clear hb47 hcut hstep
          go_wp2
          go_roundw
          case rel => exact ⟨q + 1, by omega, rfl, rfl, by simp, hn2, trivial⟩
          case measure => simp [intOf]; omega
      · obtain rfl : q = t.length := by omega
        have hc2 := hide (cut_none t hno.out)
        obtain ⟨u, hut⟩ : ∃ u, t = u := ⟨_, rfl⟩
        obtain ⟨U, eU⟩ : ∃ U, R = U := ⟨_, rfl⟩
        have hU : Hid (R.data.toList = t) := HT.out
        obtain ⟨L, eL⟩ : ∃ L : ByteArray, (⟨#[49]⟩ : ByteArray) = L := ⟨_, rfl⟩
        have hLo : Hid (L.data.toList = [49]) := by rw [← eL]; exact hide rfl
        have hcu : Hid (cup l = t) := by show _ = _; unfold cup; rw [hTl.out, hc2.out]
        have hcl : Hid (clow l = [49]) := by show _ = _; unfold clow; rw [hTl.out, hc2.out]; rfl
        obtain ⟨lo, hlo⟩ : ∃ lo : List UInt8, ([49] : List UInt8) = lo := ⟨_, rfl⟩
        have hloz : lo.length = 1 := by rw [← hlo]; rfl
        rw [hlo] at hLo hcl
        have hLz := size_of L lo hLo.out
        clear hlo hno eU hut
        have qU := hide (run_calls wr R t hU.out (by omega))
        have qL := hide (run_calls wr L lo hLo.out (by omega))
        by_cases hGu : Good t
        · by_cases hGl : Good lo
          · rw [decide_eq_true hGu] at qU
            rw [decide_eq_true hGl] at qL
            have qN := hide (rnatOf_calls wr L lo hLo.out hGl.2 (by omega))
            by_cases hz : M.dec lo = 0
            · have hR := hide (canon_two hcu.out hcl.out hGu hGl hz)
              have HZ := hide hz
              clear hz hGu hGl
              go_wp2_with (first
                | (go_at_call 39; (with_reducible refine qU.out.mono ?_); rintro e wx ⟨rfl, hwx⟩; rw [hwx])
                | (go_at_call 39; (with_reducible refine qL.out.mono ?_); rintro e wx ⟨rfl, hwx⟩; rw [hwx])
                | (go_at_call 40; (with_reducible refine qN.out.mono ?_); rintro e w5 ⟨⟨v5, rfl, n5⟩, b5⟩; obtain ⟨xa, xl, xc, rfl, ex, -, -⟩ := n5.form; obtain rfl : xl = 0 := ex.2 HZ.out; clear ex; replace n5 := hide n5; replace b5 := hide b5))
              go_ret2
              exact ⟨by rw [hR.out]; rfl, b5.out⟩
            · have hR := hide (canon_ok hcu.out hcl.out hcn.out hGu hGl hz)
              have hz0 : 0 < M.dec lo := by omega
              have kU := hide (dec_NB (K := l.length + 1) hGu.2 (by omega))
              have kL := hide (dec_NB (K := l.length + 1) hGl.2 (by omega))
              have gU := hide hGu.2
              have HZ := hide hz
              clear hz hGu hGl
              have kq : Hid (∀ a b : Nat, (a : Int) < M.NB ^ (l.length + 1) → ((a / b : Nat) : Int) < M.NB ^ (l.length + 1)) := fun a b h => Int.lt_of_le_of_lt (by have := Nat.div_le_self a b; omega) h
              have hdg : Hid (0 < M.dec lo / Nat.gcd (M.dec t) (M.dec lo)) := Nat.div_pos (Nat.gcd_le_right _ hz0) (Nat.gcd_pos_of_pos_right _ hz0)
              go_wp2_with (first
                | (go_at_call 39; (with_reducible refine qU.out.mono ?_); rintro e wx ⟨rfl, hwx⟩; rw [hwx])
                | (go_at_call 39; (with_reducible refine qL.out.mono ?_); rintro e wx ⟨rfl, hwx⟩; rw [hwx])
                | (go_at_call 40; (with_reducible refine qN.out.mono ?_); rintro e w5 ⟨⟨v5, rfl, n5⟩, b5⟩; obtain ⟨xa, xl, xc, rfl, ex, -, -⟩ := n5.form; have hxl : 0 < xl := Nat.pos_of_ne_zero (fun h => HZ.out (ex.1 h)); clear ex; have qO := hide (rnatOf_calls w5 R t hU.out gU.out (by omega)); replace n5 := hide n5; replace b5 := hide b5)
                | (go_at_call 40; (with_reducible refine qO.out.mono ?_); rintro e w6 ⟨⟨v6, rfl, n6⟩, b6⟩; have q7 := hide (fun neg => ratio_calls w6 neg _ _ (M.dec t) (M.dec lo) (l.length + 1) n6 (n5.out.below b6) hz0 kU.out kL.out (by omega) (by omega)); replace n6 := hide n6; replace b6 := hide b6)
                | (go_at_call 42; (with_reducible refine (q7.out _).mono ?_); rintro e w7 ⟨⟨v7, rfl, n7⟩, b7⟩; have q8 := hide (rtext_calls w7 _ _ _ _ (l.length + 1) n7 hdg.out (kq.out _ _ kU.out) (kq.out _ _ kL.out) (by omega)); replace n7 := hide n7; replace b7 := hide b7)
                | (go_at_call 41; (with_reducible refine q8.out.mono ?_); rintro e w8 ⟨rfl, b8⟩; replace b8 := hide b8))
              go_ret2
              exact ⟨by rw [hR.out]; rfl, ((b5.out.then_below b6.out).then_below b7.out).then_below b8.out⟩
          · rw [decide_eq_true hGu] at qU
            rw [decide_eq_false hGl] at qL
            have hR := hide (canon_one hcu.out hcl.out (fun h => hGl h.2))
            clear hGu hGl
            go_wp2_with (first
              | (go_at_call 39; (with_reducible refine qU.out.mono ?_); rintro e wx ⟨rfl, hwx⟩; rw [hwx])
              | (go_at_call 39; (with_reducible refine qL.out.mono ?_); rintro e wx ⟨rfl, hwx⟩; rw [hwx]))
            go_ret2
            exact ⟨by rw [hR.out]; rfl, Below.refl _ _⟩
        · rw [decide_eq_false hGu] at qU
          have hR := hide (canon_one hcu.out hcl.out (fun h => hGu h.1))
          clear hGu
          go_wp2_with (go_at_call 39; (with_reducible refine qU.out.mono ?_); rintro e wx ⟨rfl, hwx⟩; rw [hwx])
          go_ret2
          exact ⟨by rw [hR.out]; rfl, Below.refl _ _⟩
theorem normal_calls (w : World) (s : ByteArray) (l : List UInt8) (hs : s.data.toList = l) (hl : l.length ≤ 1073741824) :
    Calls Tryz.prog 10 #[.string s] w fun e w' => e = .returned (.tuple #[.string ⟨(canonText l).1.toArray⟩, .int .i64 (canonText l).2]) ∧ Below w.heap.size w w' := by
  by_cases h : ∃ t, l = 45 :: t
  · obtain ⟨t, ht⟩ := h
    exact normal_minus w s l t hs hl ht
  · exact normal_plain w s l hs hl (fun t e => h ⟨t, e⟩)
end Go.Proofs.YteghlbhpaaocmaaGreatDoor
