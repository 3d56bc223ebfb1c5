/- Laid together of: RefRatio, RefRText, RefNormal. -/
import Derived.Test.YtlepicdpelkmlaaGreatDoorRefB
import Derived.Test.YtlepicdpelkmlaaGreatDoorAll8
import Derived.Test.YtlepicdpelkmlaaGreatDoorRefA
/- ==== RefRatio ==== -/
namespace Go.Proofs.YtlepicdpelkmlaaGreatDoor
open Go.RowKit
set_option linter.unusedVariables false
/-- A rational of the document's. -/
def RR (w : World) (v : Value) (neg : Bool) (n d : Nat) : Prop :=
  ∃ (na : Option Addr) (nl nc : Nat) (da : Option Addr) (dl dc : Nat), v = .agg #[.bool neg, .slice na nl nc, .slice da dl dc] ∧ RN w (.slice na nl nc) n ∧ RN w (.slice da dl dc) d
theorem RR.below {w w' : World} {v : Value} {neg : Bool} {n d : Nat} (h : RR w v neg n d) (q : Below w.heap.size w w') : RR w' v neg n d := by
  obtain ⟨na, nl, nc, da, dl, dc, rfl, h1, h2⟩ := h
  exact ⟨na, nl, nc, da, dl, dc, rfl, h1.below q, h2.below q⟩
theorem box3 {w : World} {g : Nat} {x y z : Value} {t : TypeId} (h : w.heap[g]? = some (.cells #[x, y, z] t (0, 0))) :
    w.cell? ⟨g, 0, none⟩ = some x ∧ w.cell? ⟨g, 1, none⟩ = some y ∧ w.cell? ⟨g, 2, none⟩ = some z ∧ w.frozen? ⟨g, 0, none⟩ = false ∧ w.frozen? ⟨g, 1, none⟩ = false ∧ w.frozen? ⟨g, 2, none⟩ = false := by
  refine ⟨(cell_of_row w g 0 _ t (0, 0) h).trans rfl, (cell_of_row w g 1 _ t (0, 0) h).trans rfl, (cell_of_row w g 2 _ t (0, 0) h).trans rfl, ?_, ?_, ?_⟩ <;> simp [World.frozen?, h]
theorem set3 (w : World) (g : Nat) (a b c : Value) : w.grownBy (((w.setCell ⟨g, 0, none⟩ a).setCell ⟨g, 1, none⟩ b).setCell ⟨g, 2, none⟩ c) (some g) :=
  grown_trans (grown_trans (grown_set _ _ _ _) (grown_set _ _ _ _)) (grown_set _ _ _ _)
/-- A list of ints does not lie where a rational lies. -/
theorem RN.past {w w' : World} {v : Value} {n g : Nat} {x : Bool} {ya : Option Addr} {yl yc : Nat} {za : Option Addr} {zl zc : Nat} {t : TypeId} (h : RN w v n) (hg : w.heap[g]? = some (.cells #[.bool x, .slice ya yl yc, .slice za zl zc] t (0, 0))) (q : w.grownBy w' (some g)) : RN w' v n := by
  obtain ⟨l, hr, hd⟩ := h
  refine ⟨l, hr.kept q (fun g' e => ?_), hd⟩
  cases e
  obtain ⟨ao, cap, rfl, h1, h2, h3, h4⟩ := hr
  intro hl a m c e
  obtain ⟨b, off, rfl, hc⟩ := h4 hl
  cases e
  intro hbg
  have h0 := hc 0 (List.length_pos_iff.2 hl)
  have hbg' : b = g := hbg
  subst hbg'
  rw [cell_of_row w b (off + 0) _ t (0, 0) hg] at h0
  match hoff : off + 0, h0 with
  | 0, h0 => simp at h0
  | 1, h0 => simp at h0
  | 2, h0 => simp at h0
  | k + 3, h0 => simp at h0
set_option maxRecDepth 100000 in
set_option maxHeartbeats 3200000 in
theorem ratio_calls (w : World) (neg : Bool) (vn vd : Value) (n d K : Nat) (hn : RN w vn n) (hd : RN w vd d) (hd0 : 0 < d) (kn : (n : Int) < M.NB ^ K) (kd : (d : Int) < M.NB ^ K) (hK : K ≤ 1099511627776) (hK1 : 1 ≤ K) :
    Calls Tryz.prog 52 #[.bool neg, vn, vd] w fun e w' => (∃ v, e = .returned v ∧ RR w' v (neg && !decide (n = 0)) (n / Nat.gcd n d) (d / Nat.gcd n d)) ∧ Below w.heap.size w w' := by
  obtain ⟨na, nl, nc, rfl, en, n1, n2⟩ := hn.form
  obtain ⟨da, dl, dc, rfl, ed, d1, d2⟩ := hd.form
  have HN := hide hn
  have HD := hide hd
  have KN := hide kn
  have KD := hide kd
  clear hn hd kn kd
  obtain ⟨W0, hW0⟩ : ∃ W0, w.alloc (.cells #[.bool false, .slice none 0 0, .slice none 0 0] 77) = W0 := ⟨_, rfl⟩
  have B0 : Hid (Below w.heap.size w W0) := by rw [← hW0]; exact (Below.refl _ w).alloc (Nat.le_refl _) _
  have A0 : Hid (W0.heap[w.heap.size]? = some (.cells #[.bool false, .slice none 0 0, .slice none 0 0] 77 (0, 0))) := by rw [← hW0]; exact heap_alloc_new w _
  by_cases h0 : nl = 0
  · subst h0
    have hn0 : n = 0 := en.1 rfl
    have hX : Hid ((neg && !decide (n = 0)) = false ∧ n / Nat.gcd n d = 0 ∧ d / Nat.gcd n d = 1) := by
      subst hn0
      exact ⟨by simp, by simp, by rw [Nat.gcd_zero_left]; exact Nat.div_self hd0⟩
    have HN0 : Hid (RN w (.slice na 0 nc) 0) := by have h := HN.out; rw [hn0] at h; exact h
    rw [hX.out.1, hX.out.2.1, hX.out.2.2]
    have q1 := hide (natInt_calls W0 1 (by decide) (by decide))
    clear en ed hn0 HN KN
    go_enter Tryz.func52, Tryz.ntmps52
    go_wp2_with (go_at_call 47; refine q1.out.mono ?_; rintro e w1 ⟨⟨v1, rfl, m1⟩, b1⟩; obtain ⟨xa, xl, xc, rfl, -, -, -⟩ := m1.form; have A1 := hide (kept_block A0.out b1); obtain ⟨z0, z1, z2, f0, f1, f2⟩ := box3 A1.out; replace m1 := hide m1; replace b1 := hide b1)
    refine bodyPost_ret (v := .agg #[.bool false, .slice na 0 nc, .slice xa xl xc]) (by simp [results, Tryz.results52, go_sem, z0, z1, z2]) rfl ?_
    have q := set3 w1 w.heap.size (.bool false) (.slice na 0 nc) (.slice xa xl xc)
    exact ⟨⟨_, rfl, na, 0, nc, xa, xl, xc, rfl, (HN0.out.below (B0.out.then_below b1.out)).past A1.out q, m1.out.past A1.out q⟩, (B0.out.then_below b1.out).then_grown q (by rintro g ⟨⟩; exact Nat.le_refl _)⟩
  · have hn0 : 0 < n := by
      rcases Nat.eq_zero_or_pos n with h | h
      · exact absurd (en.2 h) h0
      · exact h
    have hnl : 0 < nl := by omega
    have hneg : Hid ((neg && !decide (n = 0)) = neg) := by show _ = _; rw [decide_eq_false (by omega)]; simp
    rw [hneg.out]
    have hg0 : 0 < Nat.gcd n d := Nat.gcd_pos_of_pos_left _ hn0
    have kg : Hid ((Nat.gcd n d : Int) < M.NB ^ K) := Int.lt_of_le_of_lt (by have := Nat.gcd_le_left d hn0; omega) KN.out
    have q1 := hide (rgcd_calls W0 _ _ n d K (HN.out.below B0.out) (HD.out.below B0.out) KN.out KD.out hK hK1)
    have hd1 : Hid (Nat.gcd n d = 1 → n / Nat.gcd n d = n ∧ d / Nat.gcd n d = d) := fun h => by rw [h]; exact ⟨Nat.div_one _, Nat.div_one _⟩
    clear en ed h0
    generalize Nat.gcd n d = G at *
    by_cases hG : G = 1
    · subst hG
      rw [(hd1.out rfl).1, (hd1.out rfl).2]
      have hc : Hid (M.cmp ((1 : Nat) : Int) ((Int.toNat 1 : Nat) : Int) = 0) := hide (by decide)
      go_enter Tryz.func52, Tryz.ntmps52
      go_wp2_with (first
        | (go_at_call 68; refine q1.out.mono ?_; rintro e w1 ⟨⟨v1, rfl, m1⟩, b1⟩; have q2 := hide (natInt_calls w1 1 (by decide) (by decide)); replace m1 := hide m1; replace b1 := hide b1)
        | (go_at_call 47; refine q2.out.mono ?_; rintro e w2 ⟨⟨v2, rfl, m2⟩, b2⟩; have q3 := hide (cmpRN w2 _ _ _ _ (m1.out.below b2) m2); rw [hc.out] at q3; replace m2 := hide m2; replace b2 := hide b2)
        | (go_at_call 46; refine q3.out.mono ?_; rintro e w3 ⟨rfl, b3⟩; have A1 := hide (kept_block (kept_block (kept_block A0.out b1.out) b2.out) b3); obtain ⟨z0, z1, z2, f0, f1, f2⟩ := box3 A1.out; have B3 : Hid (Below w.heap.size w w3) := ((B0.out.then_below b1.out).then_below b2.out).then_below b3; replace b3 := hide b3))
      refine bodyPost_ret (v := .agg #[.bool neg, .slice na nl nc, .slice da dl dc]) (by simp [results, Tryz.results52, go_sem, z0, z1, z2]) rfl ?_
      have q := set3 w3 w.heap.size (.bool neg) (.slice na nl nc) (.slice da dl dc)
      exact ⟨⟨_, rfl, na, nl, nc, da, dl, dc, rfl, (HN.out.below B3.out).past A1.out q, (HD.out.below B3.out).past A1.out q⟩, B3.out.then_grown q (by rintro g ⟨⟩; exact Nat.le_refl _)⟩
    · have hc : M.cmp (G : Int) ((Int.toNat 1 : Nat) : Int) ≠ 0 := by
        have e : ((Int.toNat 1 : Nat) : Int) = 1 := by decide
        rw [e]
        unfold M.cmp
        split <;> (try split) <;> omega
      obtain ⟨c, hceq⟩ : ∃ c, M.cmp (G : Int) ((Int.toNat 1 : Nat) : Int) = c := ⟨_, rfl⟩
      rw [hceq] at hc
      have hcb : ((c : Int) != 0) = true := by simpa using hc
      replace hceq := hide hceq
      clear hc
      go_enter Tryz.func52, Tryz.ntmps52
      go_wp2_with (first
        | (go_at_call 68; refine q1.out.mono ?_; rintro e w1 ⟨⟨v1, rfl, m1⟩, b1⟩; have q2 := hide (natInt_calls w1 1 (by decide) (by decide)); replace m1 := hide m1; replace b1 := hide b1)
        | (go_at_call 47; refine q2.out.mono ?_; rintro e w2 ⟨⟨v2, rfl, m2⟩, b2⟩; have q3 := hide (cmpRN w2 _ _ _ _ (m1.out.below b2) m2); rw [hceq.out] at q3; replace m2 := hide m2; replace b2 := hide b2)
        | (go_at_call 46; refine q3.out.mono ?_; rintro e w3 ⟨rfl, b3⟩; have B3 : Hid (Below w.heap.size w w3) := ((B0.out.then_below b1.out).then_below b2.out).then_below b3; have M3 := hide ((m1.out.below b2.out).below b3); have q4 := hide (rdiv_calls w3 _ _ n G K (HN.out.below B3.out) M3.out hg0 KN.out kg.out hK hK1); replace b3 := hide b3)
        | (go_at_call 69; (with_reducible refine q4.out.mono ?_); rintro e w4 ⟨⟨x4, y4, rfl, m4, -⟩, b4⟩; obtain ⟨pa, pl, pc, rfl, -, -, -⟩ := m4.form; have q5 := hide (rdiv_calls w4 _ _ d G K (HD.out.below (B3.out.then_below b4)) (M3.out.below b4) hg0 KD.out kg.out hK hK1); replace m4 := hide m4; replace b4 := hide b4)
        | (go_at_call 69; (with_reducible refine q5.out.mono ?_); rintro e w5 ⟨⟨x5, y5, rfl, m5, -⟩, b5⟩; obtain ⟨ra, rl, rc, rfl, -, -, -⟩ := m5.form; have A1 := hide (kept_block (kept_block (kept_block (kept_block (kept_block A0.out b1.out) b2.out) b3.out) b4.out) b5); obtain ⟨z0, z1, z2, f0, f1, f2⟩ := box3 A1.out; have B5 : Hid (Below w.heap.size w w5) := (B3.out.then_below b4.out).then_below b5; replace m5 := hide m5; replace b5 := hide b5))
      refine bodyPost_ret (v := .agg #[.bool neg, .slice pa pl pc, .slice ra rl rc]) (by simp [results, Tryz.results52, go_sem, z0, z1, z2]) rfl ?_
      have q := set3 w5 w.heap.size (.bool neg) (.slice pa pl pc) (.slice ra rl rc)
      exact ⟨⟨_, rfl, pa, pl, pc, ra, rl, rc, rfl, (m4.out.below b5.out).past A1.out q, m5.out.past A1.out q⟩, B5.out.then_grown q (by rintro g ⟨⟩; exact Nat.le_refl _)⟩
end Go.Proofs.YtlepicdpelkmlaaGreatDoor
/- ==== RefRText ==== -/
namespace Go.Proofs.YtlepicdpelkmlaaGreatDoor
open Go.RowKit
set_option linter.unusedVariables false
def rText (neg : Bool) (n d : Nat) : List UInt8 := if d = 1 then ratText neg n 0 else ratText neg n d
theorem keep3 {w W W2 : World} {a : Addr} {v : Value} (h : W.cell? a = some v ∧ Below w.heap.size w W) (b : Below W.heap.size W W2) : W2.cell? a = some v ∧ Below w.heap.size w W2 := by
  obtain ⟨h1, h5⟩ := h
  exact ⟨by rw [b.cell (World.block_lt_of_cell? W _ h1)]; exact h1, h5.then_below b⟩
theorem rdig_len {n K : Nat} (hn : (n : Int) < M.NB ^ K) : (Lib.decDigits n).length ≤ 9 * K + 1 := by
  refine M.decDigits_len_le ?_ (by omega)
  rw [M.NB_pow] at hn
  have h5 : n < 10 ^ (9 * K) := by exact_mod_cast hn
  have h3 : 10 ^ (9 * K) ≤ 10 ^ (9 * K + 1) := Nat.pow_le_pow_right (by decide) (by omega)
  omega
set_option maxRecDepth 100000 in
set_option maxHeartbeats 3200000 in
theorem rtext_calls (w : World) (v : Value) (neg : Bool) (n d K : Nat) (h : RR w v neg n d) (hd0 : 0 < d) (kn : (n : Int) < M.NB ^ K) (kd : (d : Int) < M.NB ^ K) (hK : K ≤ 1099511627776) :
    Calls Tryz.prog 30 #[v] w fun e w' => e = .returned (.string ⟨(rText neg n d).toArray⟩) ∧ Below w.heap.size w w' := by
  obtain ⟨na, nl, nc, da, dl, dc, rfl, hn, hd⟩ := h
  have HN := hide hn
  have HD := hide hd
  clear hn hd
  have ln := rdig_len kn
  have ld := rdig_len kd
  obtain ⟨SN, hSN⟩ : ∃ S : ByteArray, S = ⟨(Lib.decDigits n).toArray⟩ := ⟨_, rfl⟩
  obtain ⟨SD, hSD⟩ : ∃ S : ByteArray, S = ⟨(Lib.decDigits d).toArray⟩ := ⟨_, rfl⟩
  have zn : SN.size ≤ 9 * K + 1 := by rw [hSN]; exact ln
  have zd : SD.size ≤ 9 * K + 1 := by rw [hSD]; exact ld
  have m0 : SN.size ≤ 11000000000000 := by omega
  have m0' : SD.size ≤ 11000000000000 := by omega
  have m1 : ¬ 9223372036854775807 < 1 + SN.size := by omega
  have m5 : ¬ 9223372036854775807 < SN.size + 1 := by omega
  have m2 : ¬ 9223372036854775807 < SN.size + 1 + SD.size := by omega
  have m4 : ¬ 9223372036854775807 < 1 + SN.size + 1 := by omega
  have m6 : ¬ 9223372036854775807 < 1 + SN.size + 1 + SD.size := by omega
  have HSN := hide hSN
  have HSD := hide hSD
  clear ln ld zn zd
  obtain ⟨W0, hW0⟩ : ∃ W0, w.alloc (.cells #[.bool neg, .slice na nl nc, .slice da dl dc] 77) = W0 := ⟨_, rfl⟩
  have B0 : Hid (Below w.heap.size w W0) := by rw [← hW0]; exact (Below.refl _ w).alloc (Nat.le_refl _) _
  have A0 : Hid (W0.heap[w.heap.size]? = some (.cells #[.bool neg, .slice na nl nc, .slice da dl dc] 77 (0, 0))) := by rw [← hW0]; exact heap_alloc_new w _
  obtain ⟨z0, z1, z2, -, -, -⟩ := box3 A0.out
  have q1 := hide (rnatText_calls W0 _ n K (HN.out.below B0.out) kn hK)
  rw [← hSN] at q1
  clear hSN hSD
  obtain ⟨c, hceq⟩ : ∃ c, M.cmp (d : Int) ((Int.toNat 1 : Nat) : Int) = c := ⟨_, rfl⟩
  have e1 : ((Int.toNat 1 : Nat) : Int) = 1 := by decide
  by_cases hd1 : d = 1
  · have hT : Hid (rText neg n d = (if neg then [45] else []) ++ Lib.decDigits n) := by show _ = _; unfold rText; rw [if_pos hd1, ratText_whole _ _ _ rfl]
    have hc0 : c = 0 := by rw [← hceq, e1, hd1]; decide
    subst hc0
    replace hceq := hide hceq
    replace hd1 := hide hd1
    cases neg
    · have hneg := trivial
      go_enter Tryz.func30, Tryz.ntmps30
      go_wp2_with (go_at_call 45; refine q1.out.mono ?_; rintro e w1 ⟨rfl, b1⟩; have A1 := hide (kept_block A0.out b1); obtain ⟨y0, y1, y2, -, -, -⟩ := box3 A1.out; replace b1 := hide b1)
      have B1 := hide (B0.out.then_below b1.out)
      have D1 : Below w1.heap.size w1 w1.drew := (Below.refl _ _).drew
      have S0 : Hid (w1.cell? ⟨w.heap.size, 2, none⟩ = some (.slice da dl dc) ∧ Below w1.heap.size w1 w1) := ⟨y2, Below.refl _ _⟩
      have S1 : Hid (w1.drew.cell? ⟨w.heap.size, 2, none⟩ = some (.slice da dl dc) ∧ Below w1.heap.size w1 w1.drew) := ⟨y2, D1⟩
      have HD1 := hide (HD.out.below (B1.out.then_below D1))
      go_region_held3
        (fun w' => w'.cell? ⟨w.heap.size, 2, none⟩ = some (.slice da dl dc) ∧ Below w1.heap.size w1 w')
        (first
          | with_reducible exact S0.out
          | with_reducible exact S1.out
          | with_reducible exact keep3 S1.out ba
          | with_reducible exact keep3 S1.out (ba.then_below bb))
        (first
          | (go_at_call 47; refine (natInt_calls _ 1 (by decide) (by decide)).mono ?_; rintro e wa ⟨⟨va, rfl, ma⟩, ba⟩; have q3 := cmpRN wa _ _ d _ (HD1.out.below ba) ma; rw [hceq.out] at q3)
          | (go_at_call 46; refine q3.mono ?_; rintro e wb ⟨rfl, bb⟩))
      obtain ⟨yb, BB⟩ := keep3 S1.out (ba.then_below bb)
      have BF := hide (B1.out.then_below BB)
      clear q3 ma ba bb S0 S1 D1 y0 y1 y2
      go_wp2
      go_ret
      refine ⟨?_, BF.out⟩
      rw [hT.out]
      exact str_eq (by (try rw [HSN.out]); simp)
    · have hneg := trivial
      go_enter Tryz.func30, Tryz.ntmps30
      go_wp2_with (go_at_call 45; refine q1.out.mono ?_; rintro e w1 ⟨rfl, b1⟩; have A1 := hide (kept_block A0.out b1); obtain ⟨y0, y1, y2, -, -, -⟩ := box3 A1.out; replace b1 := hide b1)
      have B1 := hide (B0.out.then_below b1.out)
      have D1 : Below w1.heap.size w1 w1.drew := (Below.refl _ _).drew
      have S0 : Hid (w1.cell? ⟨w.heap.size, 2, none⟩ = some (.slice da dl dc) ∧ Below w1.heap.size w1 w1) := ⟨y2, Below.refl _ _⟩
      have S1 : Hid (w1.drew.cell? ⟨w.heap.size, 2, none⟩ = some (.slice da dl dc) ∧ Below w1.heap.size w1 w1.drew) := ⟨y2, D1⟩
      have HD1 := hide (HD.out.below (B1.out.then_below D1))
      go_region_held3
        (fun w' => w'.cell? ⟨w.heap.size, 2, none⟩ = some (.slice da dl dc) ∧ Below w1.heap.size w1 w')
        (first
          | with_reducible exact S0.out
          | with_reducible exact S1.out
          | with_reducible exact keep3 S1.out ba
          | with_reducible exact keep3 S1.out (ba.then_below bb))
        (first
          | (go_at_call 47; refine (natInt_calls _ 1 (by decide) (by decide)).mono ?_; rintro e wa ⟨⟨va, rfl, ma⟩, ba⟩; have q3 := cmpRN wa _ _ d _ (HD1.out.below ba) ma; rw [hceq.out] at q3)
          | (go_at_call 46; refine q3.mono ?_; rintro e wb ⟨rfl, bb⟩))
      obtain ⟨yb, BB⟩ := keep3 S1.out (ba.then_below bb)
      have BF := hide (B1.out.then_below BB)
      clear q3 ma ba bb S0 S1 D1 y0 y1 y2
      go_wp2
      go_ret
      refine ⟨?_, BF.out⟩
      rw [hT.out]
      exact str_eq (by (try rw [HSN.out]); simp)
  · have hT : Hid (rText neg n d = (if neg then [45] else []) ++ Lib.decDigits n ++ 47 :: Lib.decDigits d) := by show _ = _; unfold rText; rw [if_neg hd1, ratText_frac _ _ _ (by omega)]
    have hc0 : c ≠ 0 := by
      rw [← hceq, e1]
      unfold M.cmp
      split <;> (try split) <;> omega
    have hcb : ((c : Int) != 0) = true := by simpa using hc0
    replace hceq := hide hceq
    replace hd1 := hide hd1
    cases neg
    · have hneg := trivial
      go_enter Tryz.func30, Tryz.ntmps30
      go_wp2_with (go_at_call 45; refine q1.out.mono ?_; rintro e w1 ⟨rfl, b1⟩; have A1 := hide (kept_block A0.out b1); obtain ⟨y0, y1, y2, -, -, -⟩ := box3 A1.out; replace b1 := hide b1)
      have B1 := hide (B0.out.then_below b1.out)
      have D1 : Below w1.heap.size w1 w1.drew := (Below.refl _ _).drew
      have S0 : Hid (w1.cell? ⟨w.heap.size, 2, none⟩ = some (.slice da dl dc) ∧ Below w1.heap.size w1 w1) := ⟨y2, Below.refl _ _⟩
      have S1 : Hid (w1.drew.cell? ⟨w.heap.size, 2, none⟩ = some (.slice da dl dc) ∧ Below w1.heap.size w1 w1.drew) := ⟨y2, D1⟩
      have HD1 := hide (HD.out.below (B1.out.then_below D1))
      go_region_held3
        (fun w' => w'.cell? ⟨w.heap.size, 2, none⟩ = some (.slice da dl dc) ∧ Below w1.heap.size w1 w')
        (first
          | with_reducible exact S0.out
          | with_reducible exact S1.out
          | with_reducible exact keep3 S1.out ba
          | with_reducible exact keep3 S1.out (ba.then_below bb))
        (first
          | (go_at_call 47; refine (natInt_calls _ 1 (by decide) (by decide)).mono ?_; rintro e wa ⟨⟨va, rfl, ma⟩, ba⟩; have q3 := cmpRN wa _ _ d _ (HD1.out.below ba) ma; rw [hceq.out] at q3)
          | (go_at_call 46; refine q3.mono ?_; rintro e wb ⟨rfl, bb⟩))
      obtain ⟨yb, BB⟩ := keep3 S1.out (ba.then_below bb)
      have BF := hide (B1.out.then_below BB)
      have q4 := hide (rnatText_calls wb _ d K (HD.out.below BF.out) kd hK)
      rw [← HSD.out] at q4
      clear q3 ma ba bb S0 S1 D1 y0 y1 y2
      go_wp2_with (go_at_call 45; refine q4.out.mono ?_; rintro e w5 ⟨rfl, b5⟩; replace b5 := hide b5)
      go_ret
      refine ⟨?_, BF.out.then_below b5.out⟩
      rw [hT.out]
      exact str_eq (by (try rw [HSN.out]); (try rw [HSD.out]); simp)
    · have hneg := trivial
      go_enter Tryz.func30, Tryz.ntmps30
      go_wp2_with (go_at_call 45; refine q1.out.mono ?_; rintro e w1 ⟨rfl, b1⟩; have A1 := hide (kept_block A0.out b1); obtain ⟨y0, y1, y2, -, -, -⟩ := box3 A1.out; replace b1 := hide b1)
      have B1 := hide (B0.out.then_below b1.out)
      have D1 : Below w1.heap.size w1 w1.drew := (Below.refl _ _).drew
      have S0 : Hid (w1.cell? ⟨w.heap.size, 2, none⟩ = some (.slice da dl dc) ∧ Below w1.heap.size w1 w1) := ⟨y2, Below.refl _ _⟩
      have S1 : Hid (w1.drew.cell? ⟨w.heap.size, 2, none⟩ = some (.slice da dl dc) ∧ Below w1.heap.size w1 w1.drew) := ⟨y2, D1⟩
      have HD1 := hide (HD.out.below (B1.out.then_below D1))
      go_region_held3
        (fun w' => w'.cell? ⟨w.heap.size, 2, none⟩ = some (.slice da dl dc) ∧ Below w1.heap.size w1 w')
        (first
          | with_reducible exact S0.out
          | with_reducible exact S1.out
          | with_reducible exact keep3 S1.out ba
          | with_reducible exact keep3 S1.out (ba.then_below bb))
        (first
          | (go_at_call 47; refine (natInt_calls _ 1 (by decide) (by decide)).mono ?_; rintro e wa ⟨⟨va, rfl, ma⟩, ba⟩; have q3 := cmpRN wa _ _ d _ (HD1.out.below ba) ma; rw [hceq.out] at q3)
          | (go_at_call 46; refine q3.mono ?_; rintro e wb ⟨rfl, bb⟩))
      obtain ⟨yb, BB⟩ := keep3 S1.out (ba.then_below bb)
      have BF := hide (B1.out.then_below BB)
      have q4 := hide (rnatText_calls wb _ d K (HD.out.below BF.out) kd hK)
      rw [← HSD.out] at q4
      clear q3 ma ba bb S0 S1 D1 y0 y1 y2
      go_wp2_with (go_at_call 45; refine q4.out.mono ?_; rintro e w5 ⟨rfl, b5⟩; replace b5 := hide b5)
      go_ret
      refine ⟨?_, BF.out.then_below b5.out⟩
      rw [hT.out]
      exact str_eq (by (try rw [HSN.out]); (try rw [HSD.out]); simp)
end Go.Proofs.YtlepicdpelkmlaaGreatDoor
/- ==== RefNormal ==== -/
namespace Go.Proofs.YtlepicdpelkmlaaGreatDoor
open Go.RowKit
set_option linter.unusedVariables false
theorem dec_NB {u : List UInt8} (h : M.Digs u) {K : Nat} (hK : u.length ≤ K) : ((M.dec u : Nat) : Int) < M.NB ^ K := by
  rw [M.NB_pow]
  have h1 := M.dec_lt h
  have h2 : 10 ^ u.length ≤ 10 ^ (9 * K) := Nat.pow_le_pow_right (by decide) (by omega)
  exact_mod_cast Nat.lt_of_lt_of_le h1 h2
theorem text_same (neg : Bool) (n d : Nat) (hd : 0 < d) : rText (neg && !decide (n = 0)) (n / Nat.gcd n d) (d / Nat.gcd n d) = lowText neg (n / Nat.gcd n d) (d / Nat.gcd n d) := by
  unfold rText lowText
  by_cases hn : n = 0
  · subst hn
    rw [Nat.gcd_zero_left, Nat.div_self hd]
    simp
  · have hg : 0 < Nat.gcd n d := Nat.gcd_pos_of_pos_right _ hd
    have h1 : n / Nat.gcd n d ≠ 0 := by
      have := Nat.div_pos (Nat.gcd_le_left d (by omega)) hg
      omega
    rw [decide_eq_false hn]
    by_cases hd1 : d / Nat.gcd n d = 1
    · rw [if_pos hd1, if_pos (.inr hd1), decide_eq_false h1]
    · rw [if_neg hd1, if_neg (by omega)]
      simp
theorem canon_one {l u lo : List UInt8} (hu : cup l = u) (hl : clow l = lo) (h : ¬ (Good u ∧ Good lo)) : canonText l = ([], 1) := by
  unfold canonText
  rw [hu, hl, if_neg h]
theorem canon_two {l u lo : List UInt8} (hu : cup l = u) (hl : clow l = lo) (h1 : Good u) (h2 : Good lo) (hz : M.dec lo = 0) : canonText l = ([], 2) := by
  unfold canonText
  rw [hu, hl, if_pos ⟨h1, h2⟩, if_pos hz]
theorem canon_ok {l u lo : List UInt8} {neg : Bool} (hu : cup l = u) (hl : clow l = lo) (hn : cneg l = neg) (h1 : Good u) (h2 : Good lo) (hz : M.dec lo ≠ 0) :
    canonText l = (rText (neg && !decide (M.dec u = 0)) (M.dec u / Nat.gcd (M.dec u) (M.dec lo)) (M.dec lo / Nat.gcd (M.dec u) (M.dec lo)), 0) := by
  unfold canonText
  rw [hu, hl, hn, if_pos ⟨h1, h2⟩, if_neg hz, text_same neg (M.dec u) (M.dec lo) (by omega)]
end Go.Proofs.YtlepicdpelkmlaaGreatDoor
