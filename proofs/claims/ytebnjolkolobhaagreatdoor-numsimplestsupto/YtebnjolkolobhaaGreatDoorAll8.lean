/- Laid together of: RatOf, RatText, NumDigits, Canon. -/
import Derived.Test.YtebnjolkolobhaaGreatDoorAll7
import Derived.Deep.DeepCutAuto
/- ==== RatOf ==== -/
namespace Go.Proofs.YtebnjolkolobhaaGreatDoor
open Go.RowKit
set_option linter.unusedVariables false
/-- Six cells, and the world grown. -/
theorem cells6_keep {w W W2 : World} {a1 a2 a3 a4 a5 a6 : Addr} {v1 v2 v3 v4 v5 v6 : Value} (h : W.cell? a1 = some v1 ∧ W.cell? a2 = some v2 ∧ W.cell? a3 = some v3 ∧ W.cell? a4 = some v4 ∧ W.cell? a5 = some v5 ∧ W.cell? a6 = some v6 ∧ Below w.heap.size w W) (b : Below W.heap.size W W2) :
    W2.cell? a1 = some v1 ∧ W2.cell? a2 = some v2 ∧ W2.cell? a3 = some v3 ∧ W2.cell? a4 = some v4 ∧ W2.cell? a5 = some v5 ∧ W2.cell? a6 = some v6 ∧ Below w.heap.size w W2 := by
  obtain ⟨h1, h2, h3, h4, h5, h6, h7⟩ := h
  exact ⟨by rw [b.cell (World.block_lt_of_cell? W _ h1)]; exact h1, by rw [b.cell (World.block_lt_of_cell? W _ h2)]; exact h2, by rw [b.cell (World.block_lt_of_cell? W _ h3)]; exact h3, by rw [b.cell (World.block_lt_of_cell? W _ h4)]; exact h4, by rw [b.cell (World.block_lt_of_cell? W _ h5)]; exact h5, by rw [b.cell (World.block_lt_of_cell? W _ h6)]; exact h6, h7.then_below b⟩
theorem cells6_set5 {w W W2 : World} {g1 g2 g3 H : Nat} {v1 v2 v3 v4 v5 v6 a b c d e : Value} (h : W.cell? ⟨g1, 0, none⟩ = some v1 ∧ W.cell? ⟨g1, 1, none⟩ = some v2 ∧ W.cell? ⟨g2, 0, none⟩ = some v3 ∧ W.cell? ⟨g2, 1, none⟩ = some v4 ∧ W.cell? ⟨g3, 0, none⟩ = some v5 ∧ W.cell? ⟨g3, 1, none⟩ = some v6 ∧ Below w.heap.size w W) (bl : Below W.heap.size W W2) (n1 : g1 ≠ H) (n2 : g2 ≠ H) (n3 : g3 ≠ H) (hH : w.heap.size ≤ H) :
    let W3 := (((((W2.setCell ⟨H, 0, none⟩ a).setCell ⟨H, 1, none⟩ b).setCell ⟨H, 2, none⟩ c).setCell ⟨H, 3, none⟩ d).setCell ⟨H, 4, none⟩ e)
    W3.cell? ⟨g1, 0, none⟩ = some v1 ∧ W3.cell? ⟨g1, 1, none⟩ = some v2 ∧ W3.cell? ⟨g2, 0, none⟩ = some v3 ∧ W3.cell? ⟨g2, 1, none⟩ = some v4 ∧ W3.cell? ⟨g3, 0, none⟩ = some v5 ∧ W3.cell? ⟨g3, 1, none⟩ = some v6 ∧ Below w.heap.size w W3 := by
  obtain ⟨h1, h2, h3, h4, h5, h6, h7⟩ := cells6_keep h bl
  have q := set5 W2 H a b c d e
  exact ⟨q.cell h1 (by simpa using n1), q.cell h2 (by simpa using n1), q.cell h3 (by simpa using n2), q.cell h4 (by simpa using n2), q.cell h5 (by simpa using n3), q.cell h6 (by simpa using n3), h7.then_grown q (by rintro g ⟨⟩; exact hH)⟩
theorem Low.shape {w : World} {r : Value} {neg : Bool} {n d : Nat} (h : Low w r neg n d) : ∃ ng nn dd, DenR w r ng nn dd ∧ Hid (∀ w' r', DenR w' r' ng nn dd → Low w' r' neg n d) := by
  unfold Low at *
  by_cases c : n = 0 ∨ d = 1
  · rw [if_pos c] at h
    exact ⟨_, _, _, h, fun w' r' h' => by rw [if_pos c]; exact h'⟩
  · rw [if_neg c] at h
    exact ⟨_, _, _, h, fun w' r' h' => by rw [if_neg c]; exact h'⟩
set_option maxRecDepth 100000 in
set_option maxHeartbeats 4000000 in
theorem of_calls (w : World) (neg : Bool) (u v : Value) (n d K : Nat) (hu : Den w u n) (hv : Den w v d) (hd : d ≠ 0) (hn : (n : Int) < M.BB ^ K) (hm : (d : Int) < M.BB ^ K) (hK : K ≤ 4398046511104) (hT : Tab w) :
    Calls Tryz.prog 67 #[.bool neg, u, v] w fun e w' => (∃ r, e = .returned r ∧ Low w' r neg (n / Nat.gcd n d) (d / Nat.gcd n d)) ∧ Below w.heap.size w w' := by
  obtain ⟨x1, x2, x3, x4, rfl⟩ := hu.shape2
  obtain ⟨y1, y2, y3, y4, rfl⟩ := hv.shape2
  have T0 := hide (three_new' w (.cells #[.int .u64 x1, .slice x2 x3 x4] 43) (.cells #[.int .u64 y1, .slice y2 y3 y4] 43) (.cells #[.bool false, .int .u64 0, .slice none 0 0, .int .u64 0, .slice none 0 0] 45))
  have hg0 : Nat.gcd n d ≠ 0 := Nat.ne_of_gt (Nat.gcd_pos_of_pos_right n (Nat.pos_of_ne_zero hd))
  have SH := hide (fun W hW => natGcd_calls W _ _ n d K (hu.below hW) (hv.below hW) hn hm hK (hT.below hW))
  go_enter Tryz.func67, Tryz.ntmps67
  go_wp2_with fail
  obtain ⟨A1, C1, R1, B1⟩ := T0.out
  generalize (((w.alloc (.cells #[.int .u64 x1, .slice x2 x3 x4] 43)).alloc (.cells #[.int .u64 y1, .slice y2 y3 y4] 43)).alloc (.cells #[.bool false, .int .u64 0, .slice none 0 0, .int .u64 0, .slice none 0 0] 45)) = w1 at *
  refine (SH.out _ B1).mono ?_
  rintro e w2 ⟨⟨c, rfl, hc⟩, b2⟩
  obtain ⟨c1, c2, c3, c4, rfl⟩ := hc.shape2
  have bb := b2.then_below (alloc_below w2 (.cells #[.int .u64 c1, .slice c2 c3 c4] 43))
  have P1 := heap_alloc_new w2 (.cells #[.int .u64 c1, .slice c2 c3 c4] 43)
  replace A1 := kept_block A1 bb
  replace C1 := kept_block C1 bb
  replace R1 := kept_block R1 bb
  replace B1 := B1.then_below bb
  replace hc := hc.below (alloc_below w2 (.cells #[.int .u64 c1, .slice c2 c3 c4] 43))
  have hlt : w.heap.size + 1 + 1 < w2.heap.size := by
    have h1 := (Array.getElem?_eq_some_iff.1 R1).1
    have h2 := b2.size
    have h3 : w.heap.size + 1 + 1 < w1.heap.size := (Array.getElem?_eq_some_iff.1 T0.out.2.2.1).1
    omega
  clear T0 SH b2 bb
  go_upto_region 2 with fail
  generalize (w2.alloc (.cells #[.int .u64 c1, .slice c2 c3 c4] 43)) = w3 at *
  generalize w2.heap.size = G at *
  obtain ⟨a0, a1, -, -⟩ := box_facts A1
  obtain ⟨b0, b1, -, -⟩ := box_facts C1
  obtain ⟨p0, p1, -, -⟩ := box_facts P1
  have S0 : Hid (w3.cell? ⟨w.heap.size, 0, none⟩ = some (.int .u64 x1) ∧ w3.cell? ⟨w.heap.size, 1, none⟩ = some (.slice x2 x3 x4) ∧ w3.cell? ⟨w.heap.size + 1, 0, none⟩ = some (.int .u64 y1) ∧ w3.cell? ⟨w.heap.size + 1, 1, none⟩ = some (.slice y2 y3 y4) ∧ w3.cell? ⟨G, 0, none⟩ = some (.int .u64 c1) ∧ w3.cell? ⟨G, 1, none⟩ = some (.slice c2 c3 c4) ∧ Below w.heap.size w w3) := ⟨a0, a1, b0, b1, p0, p1, B1⟩
  have D1 : Below w3.heap.size w3 w3.drew := (Below.refl _ _).drew
  have S1 : Hid (w3.drew.cell? ⟨w.heap.size, 0, none⟩ = some (.int .u64 x1) ∧ w3.drew.cell? ⟨w.heap.size, 1, none⟩ = some (.slice x2 x3 x4) ∧ w3.drew.cell? ⟨w.heap.size + 1, 0, none⟩ = some (.int .u64 y1) ∧ w3.drew.cell? ⟨w.heap.size + 1, 1, none⟩ = some (.slice y2 y3 y4) ∧ w3.drew.cell? ⟨G, 0, none⟩ = some (.int .u64 c1) ∧ w3.drew.cell? ⟨G, 1, none⟩ = some (.slice c2 c3 c4) ∧ Below w.heap.size w w3.drew) := cells6_keep S0.out D1
  have HU := hide (hu.below (B1.then_below D1))
  have HV := hide (hv.below (B1.then_below D1))
  have HC := hide (hc.below D1)
  have n1 : w.heap.size ≠ w.heap.size + 1 + 1 := by omega
  have n2 : w.heap.size + 1 ≠ w.heap.size + 1 + 1 := by omega
  have n3 : G ≠ w.heap.size + 1 + 1 := by omega
  have n4 : w.heap.size ≤ w.heap.size + 1 + 1 := by omega
  replace A1 := hide A1
  replace C1 := hide C1
  replace P1 := hide P1
  replace R1 := hide R1
  clear a0 a1 b0 b1 p0 p1 hc hu hv w1 w2
  go_region_held3
    (fun w' => w'.cell? ⟨w.heap.size, 0, none⟩ = some (.int .u64 x1) ∧ w'.cell? ⟨w.heap.size, 1, none⟩ = some (.slice x2 x3 x4) ∧ w'.cell? ⟨w.heap.size + 1, 0, none⟩ = some (.int .u64 y1) ∧ w'.cell? ⟨w.heap.size + 1, 1, none⟩ = some (.slice y2 y3 y4) ∧ w'.cell? ⟨G, 0, none⟩ = some (.int .u64 c1) ∧ w'.cell? ⟨G, 1, none⟩ = some (.slice c2 c3 c4) ∧ Below w.heap.size w w')
    (first
      | with_reducible exact S0.out
      | with_reducible exact S1.out
      | with_reducible exact cells6_keep S1.out ba
      | with_reducible exact cells6_keep S1.out (ba.then_below bb)
      | with_reducible exact cells6_keep S1.out ((ba.then_below bb).then_below bd)
      | with_reducible exact cells6_set5 S1.out ((ba.then_below bb).then_below bd) n1 n2 n3 n4)
    (first
      | (go_at_call_of 110 (Value.agg #[.int .u64 x1, .slice x2 x3 x4]); refine (over_calls _ _ _ n (Nat.gcd n d) K HU.out HC.out hn hg0 hK).mono ?_; rintro e wa ⟨⟨ra, rfl, hra⟩, ba⟩)
      | (go_at_call_of 110 (Value.agg #[.int .u64 y1, .slice y2 y3 y4]); refine (over_calls _ _ _ d (Nat.gcd n d) K (HV.out.below ba) (HC.out.below ba) hm hg0 hK).mono ?_; rintro e wb ⟨⟨rb, rfl, hrb⟩, bb⟩)
      | (go_at_call 109; refine (lowest_calls _ neg _ _ (n / Nat.gcd n d) (d / Nat.gcd n d) (hra.below bb) hrb).mono ?_; rintro e wd ⟨⟨rd, rfl, hrd⟩, bd⟩; obtain ⟨ng, nn, dd, hrd, hLow⟩ := Low.shape hrd; obtain ⟨p1, p2, p3, p4, q1, q2, q3, q4, rfl, dn, dl⟩ := hrd.shape; have hw : Below w3.heap.size w3 wd := ((D1.then_below ba).then_below bb).then_below bd; have R2 := hide (kept_block R1.out hw); obtain ⟨⟨z0, z1, z2, z3, z4⟩, f0, f1, f2, f3, f4⟩ := ratBox R2.out))
  go_wp2
  refine bodyPost_ret (v := .agg #[.bool ng, .int .u64 p1, .slice p2 p3 p4, .int .u64 q1, .slice q2 q3 q4]) (by simp [results, Tryz.results67, go_sem, z0, z1, z2, z3, z4]) rfl ?_
  have q := set5 wd (w.heap.size + 1 + 1) (.bool ng) (.int .u64 p1) (.slice p2 p3 p4) (.int .u64 q1) (.slice q2 q3 q4)
  exact ⟨⟨_, rfl, hLow.out _ _ (DenR.make dn dl R2.out (nopair5 _ _ _ _ _ _ _ _ _) q)⟩, (B1.then_below hw).then_grown q (by rintro g ⟨⟩; omega)⟩
end Go.Proofs.YtebnjolkolobhaaGreatDoor
/- ==== RatText ==== -/
namespace Go.Proofs.YtebnjolkolobhaaGreatDoor
open Go.RowKit
set_option linter.unusedVariables false
theorem isWhole_calls (w : World) (v : Value) (neg : Bool) (n d : Nat) (h : DenR w v neg n d) :
    Calls Tryz.prog 32 #[v] w fun e w' => e = .returned (.bool (decide (d = 0))) ∧ Below w.heap.size w w' := by
  obtain ⟨x1, x2, x3, x4, y1, y2, y3, y4, rfl, h1, h2⟩ := h
  have B0 := hide (alloc_below w (.cells #[.bool neg, .int .u64 x1, .slice x2 x3 x4, .int .u64 y1, .slice y2 y3 y4] 45))
  have q := hide (isZero_calls _ _ d (h2.below B0.out))
  go_enter Tryz.func32, Tryz.ntmps32
  go_wp2_with fail
  refine q.out.mono ?_
  rintro e w2 ⟨rfl, b2⟩
  go_wp2
  go_ret
  exact ⟨rfl, B0.out.then_below b2⟩
/-- The text of a rational. -/
def ratText (neg : Bool) (n d : Nat) : List UInt8 := (if neg then [45] else []) ++ Lib.decDigits n ++ (if d = 0 then [] else 47 :: Lib.decDigits d)
theorem ratText_whole (neg : Bool) (n d : Nat) (h : d = 0) : ratText neg n d = (if neg then [45] else []) ++ Lib.decDigits n := by
  unfold ratText
  rw [if_pos h, List.append_nil]
theorem ratText_frac (neg : Bool) (n d : Nat) (h : d ≠ 0) : ratText neg n d = (if neg then [45] else []) ++ Lib.decDigits n ++ 47 :: Lib.decDigits d := by
  unfold ratText
  rw [if_neg h]
theorem dig_len {n K : Nat} (hn : (n : Int) < M.BB ^ K) : (Lib.decDigits n).length ≤ 20 * K + 1 := by
  refine M.decDigits_len_le ?_ (by omega)
  have h4 : M.BB ^ K = ((18446744073709551616 ^ K : Nat) : Int) := by rw [Int.natCast_pow]; rfl
  rw [h4] at hn
  have h5 : n < 18446744073709551616 ^ K := by exact_mod_cast hn
  have h2 : 18446744073709551616 ^ K ≤ (10 ^ 20) ^ K := Nat.pow_le_pow_left (by decide) _
  rw [← Nat.pow_mul] at h2
  have h3 : 10 ^ (20 * K) ≤ 10 ^ (20 * K + 1) := Nat.pow_le_pow_right (by decide) (by omega)
  omega
theorem str_eq {s : ByteArray} {l : List UInt8} (h : s.data.toList = l) : Ending.returned (.string s) = .returned (.string ⟨l.toArray⟩) := by
  subst h
  rfl
set_option maxRecDepth 100000 in
set_option maxHeartbeats 4000000 in
theorem ratText_calls (w : World) (v : Value) (neg : Bool) (n d K : Nat) (h : DenR w v neg n d) (hn : (n : Int) < M.BB ^ K) (hd : (d : Int) < M.BB ^ K) (hK : K ≤ 54975581388) (hT : Pows w) :
    Calls Tryz.prog 41 #[v] w fun e w' => e = .returned (.string ⟨(ratText neg n d).toArray⟩) ∧ Below w.heap.size w w' := by
  obtain ⟨x1, x2, x3, x4, y1, y2, y3, y4, rfl, h1, h2⟩ := h
  have ln := dig_len hn
  have ld := dig_len hd
  obtain ⟨SN, hSN⟩ : ∃ S : ByteArray, S = ⟨(Lib.decDigits n).toArray⟩ := ⟨_, rfl⟩
  obtain ⟨SD, hSD⟩ : ∃ S : ByteArray, S = ⟨(Lib.decDigits d).toArray⟩ := ⟨_, rfl⟩
  have zn : SN.size ≤ 20 * K + 1 := by rw [hSN]; exact ln
  have zd : SD.size ≤ 20 * K + 1 := by rw [hSD]; exact ld
  have m0 : SN.size ≤ 1100000000000 := by omega
  have m0' : SD.size ≤ 1100000000000 := by omega
  have m1 : ¬ 9223372036854775807 < 1 + SN.size := by omega
  have m2 : ¬ 9223372036854775807 < 1 + SD.size := by omega
  have m3 : ¬ 9223372036854775807 < SN.size + (1 + SD.size) := by omega
  have m4 : ¬ 9223372036854775807 < 1 + SN.size + (1 + SD.size) := by omega
  have HSN := hide hSN
  have HSD := hide hSD
  clear ln ld zn zd
  have B0 := alloc_below w (.cells #[.bool neg, .int .u64 x1, .slice x2 x3 x4, .int .u64 y1, .slice y2 y3 y4] 45)
  have R0 := heap_alloc_new w (.cells #[.bool neg, .int .u64 x1, .slice x2 x3 x4, .int .u64 y1, .slice y2 y3 y4] 45)
  have q := hide (natText_calls _ _ n K (h1.below B0) hn hK (hT.below B0))
  rw [← hSN] at q
  replace B0 := hide B0
  replace R0 := hide R0
  go_enter Tryz.func41, Tryz.ntmps41
  go_wp2_with fail
  refine q.out.mono ?_
  rintro e w2 ⟨rfl, b2⟩
  have R2 := hide (kept_block R0.out b2)
  have B2 := hide (B0.out.then_below b2)
  obtain ⟨⟨z0, z1, z2, z3, z4⟩, -⟩ := ratBox R2.out
  have q2 := hide (isWhole_calls w2 _ neg n d ⟨x1, x2, x3, x4, y1, y2, y3, y4, rfl, h1.below B2.out, h2.below B2.out⟩)
  clear b2 q B0 R0 hSN hSD
  cases neg with
  | false =>
    go_wp2_with fail
    refine q2.out.mono ?_
    rintro e w3 ⟨rfl, b3⟩
    have R3 := kept_block R2.out b3
    have B3 := hide (B2.out.then_below b3)
    clear z0 z1 z2 z3 z4
    obtain ⟨⟨z0, z1, z2, z3, z4⟩, -⟩ := ratBox R3
    have q3 := hide (natText_calls w3 _ d K (h2.below B3.out) hd hK (hT.below B3.out))
    rw [← HSD.out] at q3
    clear b3 q2
    by_cases h0 : d = 0
    · rw [decide_eq_true h0]
      go_wp2
      go_ret
      refine ⟨?_, B3.out⟩
      rw [ratText_whole _ n d h0]
      exact str_eq (by rw [HSN.out]; simp)
    · rw [decide_eq_false h0]
      go_wp2_with fail
      refine q3.out.mono ?_
      rintro e w4 ⟨rfl, b4⟩
      go_wp2
      go_ret
      refine ⟨?_, B3.out.then_below b4⟩
      rw [ratText_frac _ n d h0]
      exact str_eq (by (try rw [HSN.out]); (try rw [HSD.out]); simp)
  | true =>
    go_wp2_with fail
    refine q2.out.mono ?_
    rintro e w3 ⟨rfl, b3⟩
    have R3 := kept_block R2.out b3
    have B3 := hide (B2.out.then_below b3)
    clear z0 z1 z2 z3 z4
    obtain ⟨⟨z0, z1, z2, z3, z4⟩, -⟩ := ratBox R3
    have q3 := hide (natText_calls w3 _ d K (h2.below B3.out) hd hK (hT.below B3.out))
    rw [← HSD.out] at q3
    clear b3 q2
    by_cases h0 : d = 0
    · rw [decide_eq_true h0]
      go_wp2
      go_ret
      refine ⟨?_, B3.out⟩
      rw [ratText_whole _ n d h0]
      exact str_eq (by (try rw [HSN.out]); (try rw [HSD.out]); simp)
    · rw [decide_eq_false h0]
      go_wp2_with fail
      refine q3.out.mono ?_
      rintro e w4 ⟨rfl, b4⟩
      go_wp2
      go_ret
      refine ⟨?_, B3.out.then_below b4⟩
      rw [ratText_frac _ n d h0]
      exact str_eq (by (try rw [HSN.out]); (try rw [HSD.out]); simp)
end Go.Proofs.YtebnjolkolobhaaGreatDoor
/- ==== NumDigits ==== -/
namespace Go.Proofs.YtebnjolkolobhaaGreatDoor
open Go.RowKit
set_option linter.unusedVariables false
/-- One digit or more, and nothing else. -/
abbrev Good (l : List UInt8) : Prop := l ≠ [] ∧ ∀ b, b ∈ l → 48 ≤ b.toNat ∧ b.toNat ≤ 57
theorem infoStr : (Tryz.prog.info? 9).map (·.size) = some 1 := by kernel_rfl
theorem run_at_str (b o len cap : Nat) (i : Int) (h0 : 0 ≤ i) (h1 : i < len) (w : World) : (Instr.indexAt 92 (.slice (some ⟨b, o, none⟩) len cap) (.int .i64 i)).run Tryz.prog w = .ok (.pointer (some ⟨b, o + i.toNat, none⟩)) w := by
  have he : Tryz.prog.elem 92 = 9 := by kernel_rfl
  have hs : Tryz.prog.underlying 92 = some (.slice 9) := by kernel_rfl
  rw [run_indexAt_slice (h := by rw [he]; exact hs), if_pos ⟨h0, h1⟩]
  simp [he, Addr.add]
theorem str_toList (s : ByteArray) : s.data.toList = s.toList := by
  rw [ByteArray.toList_eq]
theorem digs_take_succ {l : List UInt8} {q : Nat} (h : M.Digs (l.take q)) (hq : q < l.length) (h1 : 48 ≤ (l.getD q 0).toNat) (h2 : (l.getD q 0).toNat ≤ 57) : M.Digs (l.take (q + 1)) := by
  rw [take_succ_getD l 0 q hq]
  intro b hb
  rcases List.mem_append.1 hb with hb | hb
  · exact h b hb
  · simp at hb
    subst hb
    simp only [List.getD_eq_getElem?_getD] at h1 h2
    exact ⟨h1, h2⟩
theorem not_digs {l : List UInt8} {q : Nat} (hq : q < l.length) (h : ¬ (48 ≤ (l.getD q 0).toNat ∧ (l.getD q 0).toNat ≤ 57)) : ¬ M.Digs l := fun hd => h (digit_at hd hq)
set_option maxRecDepth 100000 in
set_option maxHeartbeats 4000000 in
theorem digits_num (w : World) (g cap : Nat) (ts : List ByteArray) (hc : ∀ j, j < ts.length → w.cell? ⟨g, j, none⟩ = some (.string (ts.getD j ByteArray.empty))) (hl : ts.length ≤ 1000) (hz0 : ∀ t, t ∈ ts → t.size ≤ 1099511627776) :
    Calls Tryz.prog 66 #[.slice (some ⟨g, 0, none⟩) ts.length cap] w fun e w' => e = .returned (.bool (decide (∀ t, t ∈ ts → Good t.data.toList))) ∧ w' = w := by
  have HC := hide hc
  have HZ := hide hz0
  clear hz0
  clear hc
  go_enter Tryz.func66, Tryz.ntmps66
  go_wp2
  go_loopw [8] (fun i wr => ∃ k : Nat, k ≤ ts.length ∧ i = .int .i64 k ∧ Hid (∀ t, t ∈ ts.take k → Good t.data.toList) ∧ wr = w) (fun i _ => ts.length - (intOf i).toNat)
  case atStart => exact ⟨0, Nat.zero_le _, rfl, fun t ht => by simp at ht, rfl⟩
  case round =>
    obtain ⟨k, hk, rfl, hg, rfl⟩ := hrel
    by_cases hlt : k < ts.length
    · have c0 := HC.out k hlt
      obtain ⟨s, hs⟩ : ∃ s, s = ts.getD k ByteArray.empty := ⟨_, rfl⟩
      rw [← hs] at c0
      have hmem : Hid (s ∈ ts) := by
        show s ∈ ts
        rw [hs, List.getD_eq_getElem?_getD, List.getElem?_eq_getElem hlt]
        exact List.getElem_mem hlt
      have hstep : Hid (Good s.data.toList → ∀ t, t ∈ ts.take (k + 1) → Good t.data.toList) := by
        intro hG t ht
        rw [take_succ_getD ts ByteArray.empty k hlt, ← hs] at ht
        rcases List.mem_append.1 ht with h | h
        · exact hg.out t h
        · simp at h; subst h; exact hG
      clear hs
      obtain ⟨l, hl'⟩ : ∃ l, s.data.toList = l := ⟨_, rfl⟩
      have hz := size_of s l hl'
      have HL := hide hl'
      have hlen : l.length ≤ 1099511627776 := by rw [← hz]; exact HZ.out s hmem.out
      rw [hl'] at hstep
      clear hl'
      have ix := fun W => run_at_str g 0 ts.length cap k (by omega) (by omega) W
      simp only [Int.toNat_natCast, Nat.zero_add] at ix
      go_wp2
      go_loopw [14] (fun j wr' => ∃ q : Nat, q ≤ l.length ∧ j = .int .i64 q ∧ Hid (M.Digs (l.take q)) ∧ wr' = wr) (fun j _ => l.length - (intOf j).toNat)
      case atStart => exact ⟨0, Nat.zero_le _, rfl, fun b hb => by simp at hb, rfl⟩
      case round =>
        obtain ⟨q, hq, rfl, hd, hw⟩ := hrel
        subst hw
        by_cases hlt2 : q < l.length
        · have hqs : q < s.size := by omega
          have hb := byteAt s l HL.out q hqs
          have hgo := hide (fun h1 h2 => digs_take_succ hd.out hlt2 h1 h2)
          have hno := hide (fun h => not_digs hlt2 h)
          have hbb : (l.getD q 0).toNat < 256 := UInt8.toNat_lt _
          generalize l.getD q 0 = b at *
          have hbad : Hid (¬ (48 ≤ b.toNat ∧ b.toNat ≤ 57) → decide (∀ t, t ∈ ts → Good t.data.toList) = false) := fun h => decide_eq_false (fun hA => hno.out h (by rw [← HL.out]; exact (hA s hmem.out).2))
          by_cases h48 : b.toNat < 48
          · go_wp2
            go_ret
            exact ⟨congrArg (fun b => Ending.returned (.bool b)) (hbad.out (by omega)).symm, rfl⟩
          · by_cases h57 : 57 < b.toNat
            · go_wp2
              go_ret
              exact ⟨congrArg (fun b => Ending.returned (.bool b)) (hbad.out (by omega)).symm, rfl⟩
            · go_wp2
              go_roundw
              case rel => exact ⟨q + 1, by omega, by simp, hgo.out (by omega) (by omega), trivial⟩
              case measure => simp [intOf]; omega
        · obtain rfl : q = l.length := by omega
          rw [List.take_length] at hd
          by_cases he : l = []
          · have hse : s = ⟨#[]⟩ := by
              have := HL.out
              rw [he] at this
              cases s with
              | mk data => simp at this; rw [this]
            have hbad : decide (∀ t, t ∈ ts → Good t.data.toList) = false := decide_eq_false (fun hA => (hA s hmem.out).1 (by rw [HL.out]; exact he))
            have HB := hide hbad
            clear hbad
            subst hse
            go_wp2
            go_ret
            exact ⟨congrArg (fun b => Ending.returned (.bool b)) HB.out.symm, rfl⟩
          · have hG := hide (hstep.out ⟨he, hd.out⟩)
            have hse : (s.toList == []) = false := by
              rw [← str_toList, HL.out]
              cases l with
              | nil => exact absurd rfl he
              | cons a b => rfl
            have hse2 : ¬ s.toList = [] := by rw [← str_toList, HL.out]; exact he
            have hse3 : ¬ s.data.toList = [] := by rw [HL.out]; exact he
            have hse4 : ¬ s = ⟨#[]⟩ := by rintro rfl; exact hse3 rfl
            go_wp2
            go_roundw
            case rel => exact ⟨k + 1, by omega, by simp, hG, trivial⟩
            case measure => simp [intOf]; omega
    · have hk' : k = ts.length := by omega
      subst hk'
      rw [List.take_length] at hg
      go_wp2
      go_ret
      exact ⟨congrArg (fun b => Ending.returned (.bool b)) (decide_eq_true hg.out).symm, rfl⟩
end Go.Proofs.YtebnjolkolobhaaGreatDoor
/- ==== Canon ==== -/
namespace Go.Proofs.YtebnjolkolobhaaGreatDoor
open Go.RowKit
set_option linter.unusedVariables false
/-- The parts of a loose text: its sign, the digits above the stroke, those below it (one, where there is no stroke). -/
def cneg (l : List UInt8) : Bool := decide ((Lib.trimPrefix l [45]).length < l.length)
def cup (l : List UInt8) : List UInt8 := (Lib.cut (Lib.trimPrefix l [45]) [47]).1
def clow (l : List UInt8) : List UInt8 := if (Lib.cut (Lib.trimPrefix l [45]) [47]).2.2 then (Lib.cut (Lib.trimPrefix l [45]) [47]).2.1 else [49]
/-- The text of what lowest makes. -/
def lowText (neg : Bool) (n d : Nat) : List UInt8 := if n = 0 ∨ d = 1 then ratText (neg && !decide (n = 0)) n 0 else ratText neg n d
/-- What Canon answers. -/
def canonText (l : List UInt8) : List UInt8 × Int :=
  if Good (cup l) ∧ Good (clow l) then
    if M.dec (clow l) = 0 then ([], 2)
    else (lowText (cneg l) (M.dec (cup l) / Nat.gcd (M.dec (cup l)) (M.dec (clow l))) (M.dec (clow l) / Nat.gcd (M.dec (cup l)) (M.dec (clow l))), 0)
  else ([], 1)
theorem Low.text {w : World} {r : Value} {neg : Bool} {n d : Nat} (h : Low w r neg n d) : ∃ ng nn dd, DenR w r ng nn dd ∧ nn ≤ n ∧ dd ≤ d ∧ Hid (ratText ng nn dd = lowText neg n d) := by
  unfold Low at h
  unfold lowText
  by_cases c : n = 0 ∨ d = 1
  · rw [if_pos c] at h
    exact ⟨_, _, _, h, Nat.le_refl _, Nat.zero_le _, by rw [if_pos c]; exact hide rfl⟩
  · rw [if_neg c] at h
    exact ⟨_, _, _, h, Nat.le_refl _, Nat.le_refl _, by rw [if_neg c]; exact hide rfl⟩
theorem cut_le1 (t : List UInt8) : (Lib.cut t [47]).1.length ≤ t.length := by
  unfold Lib.cut
  split
  · rw [List.length_take]; omega
  · exact Nat.le_refl _
theorem cut_le2 (t : List UInt8) : (Lib.cut t [47]).2.1.length ≤ t.length := by
  unfold Lib.cut
  split
  · rw [List.length_drop]; omega
  · simp
theorem two_cells (w : World) (x y : Value) (t : TypeId) : (w.alloc (.cells #[x, y] t)).cell? ⟨w.heap.size, 0, none⟩ = some x ∧ (w.alloc (.cells #[x, y] t)).cell? ⟨w.heap.size, 1, none⟩ = some y := by
  have h := box_facts (heap_alloc_new w (.cells #[x, y] t))
  exact ⟨h.1, h.2.1⟩
theorem digits_two (w : World) (a b : ByteArray) (la lb : List UInt8) (ha : a.data.toList = la) (hb : b.data.toList = lb) (za : a.size ≤ 1099511627776) (zb : b.size ≤ 1099511627776) :
    Calls Tryz.prog 66 #[.slice (some ⟨w.heap.size, 0, none⟩) 2 2] (w.alloc (.cells #[.string a, .string b] 9)) fun e w' => e = .returned (.bool (decide (Good la ∧ Good lb))) ∧ w' = (w.alloc (.cells #[.string a, .string b] 9)) := by
  obtain ⟨c0, c1⟩ := two_cells w (.string a) (.string b) 9
  have h := digits_num (w.alloc (.cells #[.string a, .string b] 9)) w.heap.size 2 [a, b] (fun j hj => by
    match j, hj with
    | 0, _ => exact c0
    | 1, _ => exact c1
    | j + 2, hj => exact absurd hj (by simp)) (by simp) (fun t ht => by simp at ht; rcases ht with rfl | rfl <;> assumption)
  have e : decide (∀ t, t ∈ [a, b] → Good t.data.toList) = decide (Good la ∧ Good lb) := by
    refine decide_eq_decide.2 ?_
    constructor
    · intro h
      refine ⟨?_, ?_⟩
      · rw [← ha]; exact h a (by simp)
      · rw [← hb]; exact h b (by simp)
    · rintro ⟨h1, h2⟩ t ht
      simp at ht
      rcases ht with rfl | rfl
      · rw [ha]; exact h1
      · rw [hb]; exact h2
  rw [e] at h
  exact h
set_option maxRecDepth 100000 in
set_option maxHeartbeats 4000000 in
theorem canon_bad_t (w : World) (s : ByteArray) (l t u lo : List UInt8) (hs : s.data.toList = l) (hl : l.length ≤ 1073741824) (m : Int) (hM : w.cell? ⟨0, 0, none⟩ = some (.int .i64 m)) (hT : Tab w) (hP : Pows w) (ht : Lib.trimPrefix l [45] = t)
    (hu : (Lib.cut t [47]).1 = u) (hb : (Lib.cut t [47]).2.2 = true) (hlo : (Lib.cut t [47]).2.1 = lo) (hG : ¬ (Good u ∧ Good lo)) :
    Calls Tryz.prog 35 #[.string s] w fun e w' => e = .returned (.tuple #[.string ⟨#[]⟩, .int .i64 1]) ∧ Below w.heap.size w w' := by
  have q1 := hide (Tryz.strings_TrimPrefix s ⟨#[45]⟩ w)
  rw [hs, show (ByteArray.mk #[45]).data.toList = [45] from rfl, ht] at q1
  have hlt : t.length ≤ l.length := by rw [← ht]; unfold Lib.trimPrefix; split <;> simp
  have hcut1 := cut_le1 t
  have hcut2 := cut_le2 t
  have hts : (ByteArray.mk t.toArray).data.toList = t := by simp
  have hsz := size_of s l hs
  have htz := size_of (ByteArray.mk t.toArray) t hts
  have q2 := hide (Tryz.strings_Cut (ByteArray.mk t.toArray) ⟨#[47]⟩ m w (by omega) hM)
  rw [hts, show (ByteArray.mk #[47]).data.toList = [47] from rfl, hu, hb, hlo] at q2
  rw [hu] at hcut1
  rw [hlo] at hcut2
  generalize ByteArray.mk t.toArray = S at *
  have hus : (ByteArray.mk u.toArray).data.toList = u := by simp
  have huz := size_of (ByteArray.mk u.toArray) u hus
  generalize ByteArray.mk u.toArray = SU at *
  have hls : (ByteArray.mk lo.toArray).data.toList = lo := by simp
  generalize ByteArray.mk lo.toArray = SL at *
  have hlz := size_of SL lo hls
  have hlol : lo.length ≤ 1073741824 := by omega
  go_enter Tryz.func35, Tryz.ntmps35
  go_wp2_with fail
  refine q1.out.mono ?_
  rintro e w1 ⟨rfl, hw1⟩
  rw [hw1]
  clear hw1 w1
  go_wp2_with fail
  refine q2.out.mono ?_
  rintro e w1 ⟨rfl, nd, hw1⟩
  have B1 : Below w.heap.size w w1 := by rw [hw1]; exact drewN_below w nd
  clear hw1 q1 q2
  have q3 := hide (digits_two w1 SU SL u lo hus hls (by omega) (by omega))
  rw [decide_eq_false hG] at q3
  have B2 := B1.then_below (alloc_below w1 (.cells #[.string SU, .string SL] 9))
  skip
  go_wp2_with fail
  refine q3.out.mono ?_
  rintro e w2 ⟨rfl, hw2⟩
  rw [← hw2] at B2
  clear hw2 q3
  go_wp2
  refine bodyPost_ret (v := .tuple #[.string ⟨#[]⟩, .int .i64 1]) (by simp [results, Tryz.results35, go_sem]) rfl ?_
  exact ⟨rfl, B2⟩
set_option maxRecDepth 100000 in
set_option maxHeartbeats 4000000 in
theorem canon_zero_t (w : World) (s : ByteArray) (l t u lo : List UInt8) (hs : s.data.toList = l) (hl : l.length ≤ 1073741824) (m : Int) (hM : w.cell? ⟨0, 0, none⟩ = some (.int .i64 m)) (hT : Tab w) (hP : Pows w) (ht : Lib.trimPrefix l [45] = t)
    (hu : (Lib.cut t [47]).1 = u) (hb : (Lib.cut t [47]).2.2 = true) (hlo : (Lib.cut t [47]).2.1 = lo) (hG : Good u ∧ Good lo) (h0 : M.dec lo = 0) :
    Calls Tryz.prog 35 #[.string s] w fun e w' => e = .returned (.tuple #[.string ⟨#[]⟩, .int .i64 2]) ∧ Below w.heap.size w w' := by
  have q1 := hide (Tryz.strings_TrimPrefix s ⟨#[45]⟩ w)
  rw [hs, show (ByteArray.mk #[45]).data.toList = [45] from rfl, ht] at q1
  have hlt : t.length ≤ l.length := by rw [← ht]; unfold Lib.trimPrefix; split <;> simp
  have hcut1 := cut_le1 t
  have hcut2 := cut_le2 t
  have hts : (ByteArray.mk t.toArray).data.toList = t := by simp
  have hsz := size_of s l hs
  have htz := size_of (ByteArray.mk t.toArray) t hts
  have q2 := hide (Tryz.strings_Cut (ByteArray.mk t.toArray) ⟨#[47]⟩ m w (by omega) hM)
  rw [hts, show (ByteArray.mk #[47]).data.toList = [47] from rfl, hu, hb, hlo] at q2
  rw [hu] at hcut1
  rw [hlo] at hcut2
  generalize ByteArray.mk t.toArray = S at *
  have hus : (ByteArray.mk u.toArray).data.toList = u := by simp
  have huz := size_of (ByteArray.mk u.toArray) u hus
  generalize ByteArray.mk u.toArray = SU at *
  have hls : (ByteArray.mk lo.toArray).data.toList = lo := by simp
  generalize ByteArray.mk lo.toArray = SL at *
  have hlz := size_of SL lo hls
  have hlol : lo.length ≤ 1073741824 := by omega
  go_enter Tryz.func35, Tryz.ntmps35
  go_wp2_with fail
  refine q1.out.mono ?_
  rintro e w1 ⟨rfl, hw1⟩
  rw [hw1]
  clear hw1 w1
  go_wp2_with fail
  refine q2.out.mono ?_
  rintro e w1 ⟨rfl, nd, hw1⟩
  have B1 : Below w.heap.size w w1 := by rw [hw1]; exact drewN_below w nd
  clear hw1 q1 q2
  have q3 := hide (digits_two w1 SU SL u lo hus hls (by omega) (by omega))
  rw [decide_eq_true hG] at q3
  have B2 := B1.then_below (alloc_below w1 (.cells #[.string SU, .string SL] 9))
  skip
  go_wp2_with fail
  refine q3.out.mono ?_
  rintro e w2 ⟨rfl, hw2⟩
  rw [← hw2] at B2
  clear hw2 q3
  have q4 := hide (parseNat_calls w2 SL lo hls hG.2.2 (by omega))
  skip
  go_wp2_with fail
  refine q4.out.mono ?_
  rintro e w3 ⟨⟨r, rfl, hr⟩, b3⟩
  obtain ⟨y1, y2, y3, y4, rfl⟩ := hr.shape2
  have B3 := (B2.then_below b3).then_below (alloc_below w3 (.cells #[.int .u64 y1, .slice y2 y3 y4] 43))
  have A3 := heap_alloc_new w3 (.cells #[.int .u64 y1, .slice y2 y3 y4] 43)
  have D3 := hr.below (alloc_below w3 (.cells #[.int .u64 y1, .slice y2 y3 y4] 43))
  have q5 := hide (isZero_calls _ _ (M.dec lo) D3)
  rw [decide_eq_true h0] at q5
  clear q4 hr b3 B2
  go_wp2_with fail
  refine q5.out.mono ?_
  rintro e w5 ⟨rfl, b5⟩
  go_wp2
  refine bodyPost_ret (v := .tuple #[.string ⟨#[]⟩, .int .i64 2]) (by simp [results, Tryz.results35, go_sem]) rfl ?_
  exact ⟨rfl, B3.then_below b5⟩
set_option maxRecDepth 100000 in
set_option maxHeartbeats 4000000 in
theorem canon_good_t (w : World) (s : ByteArray) (l t u lo : List UInt8) (hs : s.data.toList = l) (hl : l.length ≤ 1073741824) (m : Int) (hM : w.cell? ⟨0, 0, none⟩ = some (.int .i64 m)) (hT : Tab w) (hP : Pows w) (ht : Lib.trimPrefix l [45] = t)
    (hu : (Lib.cut t [47]).1 = u) (hb : (Lib.cut t [47]).2.2 = true) (hlo : (Lib.cut t [47]).2.1 = lo) (hG : Good u ∧ Good lo) (h0 : M.dec lo ≠ 0) :
    Calls Tryz.prog 35 #[.string s] w fun e w' => e = .returned (.tuple #[.string ⟨(lowText (decide (t.length < l.length)) (M.dec u / Nat.gcd (M.dec u) (M.dec lo)) (M.dec lo / Nat.gcd (M.dec u) (M.dec lo))).toArray⟩, .int .i64 0]) ∧ Below w.heap.size w w' := by
  have q1 := hide (Tryz.strings_TrimPrefix s ⟨#[45]⟩ w)
  rw [hs, show (ByteArray.mk #[45]).data.toList = [45] from rfl, ht] at q1
  have hlt : t.length ≤ l.length := by rw [← ht]; unfold Lib.trimPrefix; split <;> simp
  have hcut1 := cut_le1 t
  have hcut2 := cut_le2 t
  have hts : (ByteArray.mk t.toArray).data.toList = t := by simp
  have hsz := size_of s l hs
  have htz := size_of (ByteArray.mk t.toArray) t hts
  have q2 := hide (Tryz.strings_Cut (ByteArray.mk t.toArray) ⟨#[47]⟩ m w (by omega) hM)
  rw [hts, show (ByteArray.mk #[47]).data.toList = [47] from rfl, hu, hb, hlo] at q2
  rw [hu] at hcut1
  rw [hlo] at hcut2
  generalize ByteArray.mk t.toArray = S at *
  have hus : (ByteArray.mk u.toArray).data.toList = u := by simp
  have huz := size_of (ByteArray.mk u.toArray) u hus
  generalize ByteArray.mk u.toArray = SU at *
  have hls : (ByteArray.mk lo.toArray).data.toList = lo := by simp
  generalize ByteArray.mk lo.toArray = SL at *
  have hlz := size_of SL lo hls
  have hlol : lo.length ≤ 1073741824 := by omega
  go_enter Tryz.func35, Tryz.ntmps35
  go_wp2_with fail
  refine q1.out.mono ?_
  rintro e w1 ⟨rfl, hw1⟩
  rw [hw1]
  clear hw1 w1
  go_wp2_with fail
  refine q2.out.mono ?_
  rintro e w1 ⟨rfl, nd, hw1⟩
  have B1 : Below w.heap.size w w1 := by rw [hw1]; exact drewN_below w nd
  clear hw1 q1 q2
  have q3 := hide (digits_two w1 SU SL u lo hus hls (by omega) (by omega))
  rw [decide_eq_true hG] at q3
  have B2 := B1.then_below (alloc_below w1 (.cells #[.string SU, .string SL] 9))
  skip
  go_wp2_with fail
  refine q3.out.mono ?_
  rintro e w2 ⟨rfl, hw2⟩
  rw [← hw2] at B2
  clear hw2 q3
  have q4 := hide (parseNat_calls w2 SL lo hls hG.2.2 (by omega))
  skip
  go_wp2_with fail
  refine q4.out.mono ?_
  rintro e w3 ⟨⟨r, rfl, hr⟩, b3⟩
  obtain ⟨y1, y2, y3, y4, rfl⟩ := hr.shape2
  have B3 := (B2.then_below b3).then_below (alloc_below w3 (.cells #[.int .u64 y1, .slice y2 y3 y4] 43))
  have A3 := heap_alloc_new w3 (.cells #[.int .u64 y1, .slice y2 y3 y4] 43)
  have D3 := hr.below (alloc_below w3 (.cells #[.int .u64 y1, .slice y2 y3 y4] 43))
  have q5 := hide (isZero_calls _ _ (M.dec lo) D3)
  rw [decide_eq_false h0] at q5
  clear q4 hr b3 B2
  go_wp2_with fail
  refine q5.out.mono ?_
  rintro e w5 ⟨rfl, b5⟩
  go_wp2_with fail
  have B5 := B3.then_below b5
  have A5 := kept_block A3 b5
  have D5 := D3.below b5
  clear A3 D3 B3 b5 q5
  generalize w3.heap.size = G at *
  obtain ⟨a0, a1, -, -⟩ := box_facts A5
  have S0 : Hid (w5.cell? ⟨G, 0, none⟩ = some (.int .u64 y1) ∧ w5.cell? ⟨G, 1, none⟩ = some (.slice y2 y3 y4) ∧ Below w.heap.size w w5) := ⟨a0, a1, B5⟩
  have D1 : Below w5.heap.size w5 w5.drew := (Below.refl _ _).drew
  have S1 : Hid (w5.drew.cell? ⟨G, 0, none⟩ = some (.int .u64 y1) ∧ w5.drew.cell? ⟨G, 1, none⟩ = some (.slice y2 y3 y4) ∧ Below w.heap.size w w5.drew) := cells2_keep S0.out D1
  have bu : ((M.dec u : Nat) : Int) < M.BB ^ (l.length + 1) := dec_bb hG.1.2 (by omega)
  have blo : ((M.dec lo : Nat) : Int) < M.BB ^ (l.length + 1) := dec_bb hG.2.2 (by omega)
  have bu' : ∀ x, x ≤ M.dec u → ((x : Nat) : Int) < M.BB ^ (l.length + 1) := fun x hx => Int.lt_of_le_of_lt (by exact_mod_cast hx) bu
  have bl' : ∀ x, x ≤ M.dec lo → ((x : Nat) : Int) < M.BB ^ (l.length + 1) := fun x hx => Int.lt_of_le_of_lt (by exact_mod_cast hx) blo
  have K1 := hide (And.intro bu (And.intro blo (And.intro bu' bl')))
  have HU := hide (fun W => parseNat_calls W SU u hus hG.1.2 (by omega))
  have hK : l.length + 1 ≤ 54975581388 := by omega
  have hK2 : l.length + 1 ≤ 4398046511104 := by omega
  have DD := hide (D5.below D1)
  have TT := hide (hT.below S1.out.2.2)
  have PP := hide (hP.below S1.out.2.2)
  clear a0 a1 A5 D5 B5 bu blo bu' bl' hT hP
  go_region_held3
    (fun w' => w'.cell? ⟨G, 0, none⟩ = some (.int .u64 y1) ∧ w'.cell? ⟨G, 1, none⟩ = some (.slice y2 y3 y4) ∧ Below w.heap.size w w')
    (first
      | with_reducible exact S0.out
      | with_reducible exact S1.out
      | with_reducible exact cells2_keep S1.out ba
      | with_reducible exact cells2_keep S1.out (ba.then_below bb)
      | with_reducible exact cells2_keep S1.out ((ba.then_below bb).then_below bd))
    (first
      | (go_at_call 68; refine (HU.out _).mono ?_; rintro e wa ⟨⟨ra, rfl, hra⟩, ba⟩)
      | (go_at_call 67; refine (of_calls _ (decide (t.length < l.length)) _ _ (M.dec u) (M.dec lo) (l.length + 1) hra (DD.out.below ba) h0 K1.out.1 K1.out.2.1 hK2 (TT.out.below ba)).mono ?_; rintro e wb ⟨⟨rb, rfl, hrb⟩, bb⟩; obtain ⟨ng, nn, dd, hrb, hnn, hdd, hLow⟩ := Low.text hrb)
      | (go_at_call 41; refine (ratText_calls _ _ ng nn dd (l.length + 1) hrb (K1.out.2.2.1 nn (Nat.le_trans hnn (Nat.div_le_self _ _))) (K1.out.2.2.2 dd (Nat.le_trans hdd (Nat.div_le_self _ _))) hK (PP.out.below (ba.then_below bb))).mono ?_; rintro e wd ⟨rfl, bd⟩))
  go_wp2
  rw [hLow.out]
  refine bodyPost_ret (v := .tuple #[.string ⟨(lowText (decide (t.length < l.length)) (M.dec u / Nat.gcd (M.dec u) (M.dec lo)) (M.dec lo / Nat.gcd (M.dec u) (M.dec lo))).toArray⟩, .int .i64 0]) (by simp [results, Tryz.results35, go_sem]) rfl ?_
  exact ⟨rfl, S1.out.2.2.then_below ((ba.then_below bb).then_below bd)⟩
set_option maxRecDepth 100000 in
set_option maxHeartbeats 4000000 in
theorem canon_bad_f (w : World) (s : ByteArray) (l t u lo : List UInt8) (hs : s.data.toList = l) (hl : l.length ≤ 1073741824) (m : Int) (hM : w.cell? ⟨0, 0, none⟩ = some (.int .i64 m)) (hT : Tab w) (hP : Pows w) (ht : Lib.trimPrefix l [45] = t)
    (hu : (Lib.cut t [47]).1 = u) (hb : (Lib.cut t [47]).2.2 = false) (hlo : lo = [49]) (hG : ¬ (Good u ∧ Good lo)) :
    Calls Tryz.prog 35 #[.string s] w fun e w' => e = .returned (.tuple #[.string ⟨#[]⟩, .int .i64 1]) ∧ Below w.heap.size w w' := by
  have q1 := hide (Tryz.strings_TrimPrefix s ⟨#[45]⟩ w)
  rw [hs, show (ByteArray.mk #[45]).data.toList = [45] from rfl, ht] at q1
  have hlt : t.length ≤ l.length := by rw [← ht]; unfold Lib.trimPrefix; split <;> simp
  have hcut1 := cut_le1 t
  have hcut2 := cut_le2 t
  have hts : (ByteArray.mk t.toArray).data.toList = t := by simp
  have hsz := size_of s l hs
  have htz := size_of (ByteArray.mk t.toArray) t hts
  have q2 := hide (Tryz.strings_Cut (ByteArray.mk t.toArray) ⟨#[47]⟩ m w (by omega) hM)
  rw [hts, show (ByteArray.mk #[47]).data.toList = [47] from rfl, hu, hb] at q2
  rw [hu] at hcut1
  skip
  generalize ByteArray.mk t.toArray = S at *
  have hus : (ByteArray.mk u.toArray).data.toList = u := by simp
  have huz := size_of (ByteArray.mk u.toArray) u hus
  generalize ByteArray.mk u.toArray = SU at *
  obtain ⟨SL, hSL⟩ : ∃ S : ByteArray, S = ⟨#[49]⟩ := ⟨_, rfl⟩
  have hls : SL.data.toList = lo := by rw [hSL, hlo]
  
  have hlz := size_of SL lo hls
  have hlol : lo.length ≤ 1073741824 := by rw [hlo]; simp
  go_enter Tryz.func35, Tryz.ntmps35
  go_wp2_with fail
  refine q1.out.mono ?_
  rintro e w1 ⟨rfl, hw1⟩
  rw [hw1]
  clear hw1 w1
  go_wp2_with fail
  refine q2.out.mono ?_
  rintro e w1 ⟨rfl, nd, hw1⟩
  have B1 : Below w.heap.size w w1 := by rw [hw1]; exact drewN_below w nd
  clear hw1 q1 q2
  have q3 := hide (digits_two w1 SU SL u lo hus hls (by omega) (by omega))
  rw [decide_eq_false hG] at q3
  have B2 := B1.then_below (alloc_below w1 (.cells #[.string SU, .string SL] 9))
  rw [hSL] at q3 B2
  go_wp2_with fail
  refine q3.out.mono ?_
  rintro e w2 ⟨rfl, hw2⟩
  rw [← hw2] at B2
  clear hw2 q3
  go_wp2
  refine bodyPost_ret (v := .tuple #[.string ⟨#[]⟩, .int .i64 1]) (by simp [results, Tryz.results35, go_sem]) rfl ?_
  exact ⟨rfl, B2⟩
set_option maxRecDepth 100000 in
set_option maxHeartbeats 4000000 in
theorem canon_zero_f (w : World) (s : ByteArray) (l t u lo : List UInt8) (hs : s.data.toList = l) (hl : l.length ≤ 1073741824) (m : Int) (hM : w.cell? ⟨0, 0, none⟩ = some (.int .i64 m)) (hT : Tab w) (hP : Pows w) (ht : Lib.trimPrefix l [45] = t)
    (hu : (Lib.cut t [47]).1 = u) (hb : (Lib.cut t [47]).2.2 = false) (hlo : lo = [49]) (hG : Good u ∧ Good lo) (h0 : M.dec lo = 0) :
    Calls Tryz.prog 35 #[.string s] w fun e w' => e = .returned (.tuple #[.string ⟨#[]⟩, .int .i64 2]) ∧ Below w.heap.size w w' := by
  have q1 := hide (Tryz.strings_TrimPrefix s ⟨#[45]⟩ w)
  rw [hs, show (ByteArray.mk #[45]).data.toList = [45] from rfl, ht] at q1
  have hlt : t.length ≤ l.length := by rw [← ht]; unfold Lib.trimPrefix; split <;> simp
  have hcut1 := cut_le1 t
  have hcut2 := cut_le2 t
  have hts : (ByteArray.mk t.toArray).data.toList = t := by simp
  have hsz := size_of s l hs
  have htz := size_of (ByteArray.mk t.toArray) t hts
  have q2 := hide (Tryz.strings_Cut (ByteArray.mk t.toArray) ⟨#[47]⟩ m w (by omega) hM)
  rw [hts, show (ByteArray.mk #[47]).data.toList = [47] from rfl, hu, hb] at q2
  rw [hu] at hcut1
  skip
  generalize ByteArray.mk t.toArray = S at *
  have hus : (ByteArray.mk u.toArray).data.toList = u := by simp
  have huz := size_of (ByteArray.mk u.toArray) u hus
  generalize ByteArray.mk u.toArray = SU at *
  obtain ⟨SL, hSL⟩ : ∃ S : ByteArray, S = ⟨#[49]⟩ := ⟨_, rfl⟩
  have hls : SL.data.toList = lo := by rw [hSL, hlo]
  
  have hlz := size_of SL lo hls
  have hlol : lo.length ≤ 1073741824 := by rw [hlo]; simp
  go_enter Tryz.func35, Tryz.ntmps35
  go_wp2_with fail
  refine q1.out.mono ?_
  rintro e w1 ⟨rfl, hw1⟩
  rw [hw1]
  clear hw1 w1
  go_wp2_with fail
  refine q2.out.mono ?_
  rintro e w1 ⟨rfl, nd, hw1⟩
  have B1 : Below w.heap.size w w1 := by rw [hw1]; exact drewN_below w nd
  clear hw1 q1 q2
  have q3 := hide (digits_two w1 SU SL u lo hus hls (by omega) (by omega))
  rw [decide_eq_true hG] at q3
  have B2 := B1.then_below (alloc_below w1 (.cells #[.string SU, .string SL] 9))
  rw [hSL] at q3 B2
  go_wp2_with fail
  refine q3.out.mono ?_
  rintro e w2 ⟨rfl, hw2⟩
  rw [← hw2] at B2
  clear hw2 q3
  have q4 := hide (parseNat_calls w2 SL lo hls hG.2.2 (by omega))
  rw [hSL] at q4
  go_wp2_with fail
  refine q4.out.mono ?_
  rintro e w3 ⟨⟨r, rfl, hr⟩, b3⟩
  obtain ⟨y1, y2, y3, y4, rfl⟩ := hr.shape2
  have B3 := (B2.then_below b3).then_below (alloc_below w3 (.cells #[.int .u64 y1, .slice y2 y3 y4] 43))
  have A3 := heap_alloc_new w3 (.cells #[.int .u64 y1, .slice y2 y3 y4] 43)
  have D3 := hr.below (alloc_below w3 (.cells #[.int .u64 y1, .slice y2 y3 y4] 43))
  have q5 := hide (isZero_calls _ _ (M.dec lo) D3)
  rw [decide_eq_true h0] at q5
  clear q4 hr b3 B2
  go_wp2_with fail
  refine q5.out.mono ?_
  rintro e w5 ⟨rfl, b5⟩
  go_wp2
  refine bodyPost_ret (v := .tuple #[.string ⟨#[]⟩, .int .i64 2]) (by simp [results, Tryz.results35, go_sem]) rfl ?_
  exact ⟨rfl, B3.then_below b5⟩
set_option maxRecDepth 100000 in
set_option maxHeartbeats 4000000 in
theorem canon_good_f (w : World) (s : ByteArray) (l t u lo : List UInt8) (hs : s.data.toList = l) (hl : l.length ≤ 1073741824) (m : Int) (hM : w.cell? ⟨0, 0, none⟩ = some (.int .i64 m)) (hT : Tab w) (hP : Pows w) (ht : Lib.trimPrefix l [45] = t)
    (hu : (Lib.cut t [47]).1 = u) (hb : (Lib.cut t [47]).2.2 = false) (hlo : lo = [49]) (hG : Good u ∧ Good lo) (h0 : M.dec lo ≠ 0) :
    Calls Tryz.prog 35 #[.string s] w fun e w' => e = .returned (.tuple #[.string ⟨(lowText (decide (t.length < l.length)) (M.dec u / Nat.gcd (M.dec u) (M.dec lo)) (M.dec lo / Nat.gcd (M.dec u) (M.dec lo))).toArray⟩, .int .i64 0]) ∧ Below w.heap.size w w' := by
  have q1 := hide (Tryz.strings_TrimPrefix s ⟨#[45]⟩ w)
  rw [hs, show (ByteArray.mk #[45]).data.toList = [45] from rfl, ht] at q1
  have hlt : t.length ≤ l.length := by rw [← ht]; unfold Lib.trimPrefix; split <;> simp
  have hcut1 := cut_le1 t
  have hcut2 := cut_le2 t
  have hts : (ByteArray.mk t.toArray).data.toList = t := by simp
  have hsz := size_of s l hs
  have htz := size_of (ByteArray.mk t.toArray) t hts
  have q2 := hide (Tryz.strings_Cut (ByteArray.mk t.toArray) ⟨#[47]⟩ m w (by omega) hM)
  rw [hts, show (ByteArray.mk #[47]).data.toList = [47] from rfl, hu, hb] at q2
  rw [hu] at hcut1
  skip
  generalize ByteArray.mk t.toArray = S at *
  have hus : (ByteArray.mk u.toArray).data.toList = u := by simp
  have huz := size_of (ByteArray.mk u.toArray) u hus
  generalize ByteArray.mk u.toArray = SU at *
  obtain ⟨SL, hSL⟩ : ∃ S : ByteArray, S = ⟨#[49]⟩ := ⟨_, rfl⟩
  have hls : SL.data.toList = lo := by rw [hSL, hlo]
  
  have hlz := size_of SL lo hls
  have hlol : lo.length ≤ 1073741824 := by rw [hlo]; simp
  go_enter Tryz.func35, Tryz.ntmps35
  go_wp2_with fail
  refine q1.out.mono ?_
  rintro e w1 ⟨rfl, hw1⟩
  rw [hw1]
  clear hw1 w1
  go_wp2_with fail
  refine q2.out.mono ?_
  rintro e w1 ⟨rfl, nd, hw1⟩
  have B1 : Below w.heap.size w w1 := by rw [hw1]; exact drewN_below w nd
  clear hw1 q1 q2
  have q3 := hide (digits_two w1 SU SL u lo hus hls (by omega) (by omega))
  rw [decide_eq_true hG] at q3
  have B2 := B1.then_below (alloc_below w1 (.cells #[.string SU, .string SL] 9))
  rw [hSL] at q3 B2
  go_wp2_with fail
  refine q3.out.mono ?_
  rintro e w2 ⟨rfl, hw2⟩
  rw [← hw2] at B2
  clear hw2 q3
  have q4 := hide (parseNat_calls w2 SL lo hls hG.2.2 (by omega))
  rw [hSL] at q4
  go_wp2_with fail
  refine q4.out.mono ?_
  rintro e w3 ⟨⟨r, rfl, hr⟩, b3⟩
  obtain ⟨y1, y2, y3, y4, rfl⟩ := hr.shape2
  have B3 := (B2.then_below b3).then_below (alloc_below w3 (.cells #[.int .u64 y1, .slice y2 y3 y4] 43))
  have A3 := heap_alloc_new w3 (.cells #[.int .u64 y1, .slice y2 y3 y4] 43)
  have D3 := hr.below (alloc_below w3 (.cells #[.int .u64 y1, .slice y2 y3 y4] 43))
  have q5 := hide (isZero_calls _ _ (M.dec lo) D3)
  rw [decide_eq_false h0] at q5
  clear q4 hr b3 B2
  go_wp2_with fail
  refine q5.out.mono ?_
  rintro e w5 ⟨rfl, b5⟩
  go_wp2_with fail
  have B5 := B3.then_below b5
  have A5 := kept_block A3 b5
  have D5 := D3.below b5
  clear A3 D3 B3 b5 q5
  generalize w3.heap.size = G at *
  obtain ⟨a0, a1, -, -⟩ := box_facts A5
  have S0 : Hid (w5.cell? ⟨G, 0, none⟩ = some (.int .u64 y1) ∧ w5.cell? ⟨G, 1, none⟩ = some (.slice y2 y3 y4) ∧ Below w.heap.size w w5) := ⟨a0, a1, B5⟩
  have D1 : Below w5.heap.size w5 w5.drew := (Below.refl _ _).drew
  have S1 : Hid (w5.drew.cell? ⟨G, 0, none⟩ = some (.int .u64 y1) ∧ w5.drew.cell? ⟨G, 1, none⟩ = some (.slice y2 y3 y4) ∧ Below w.heap.size w w5.drew) := cells2_keep S0.out D1
  have bu : ((M.dec u : Nat) : Int) < M.BB ^ (l.length + 1) := dec_bb hG.1.2 (by omega)
  have blo : ((M.dec lo : Nat) : Int) < M.BB ^ (l.length + 1) := dec_bb hG.2.2 (by rw [hlo]; simp)
  have bu' : ∀ x, x ≤ M.dec u → ((x : Nat) : Int) < M.BB ^ (l.length + 1) := fun x hx => Int.lt_of_le_of_lt (by exact_mod_cast hx) bu
  have bl' : ∀ x, x ≤ M.dec lo → ((x : Nat) : Int) < M.BB ^ (l.length + 1) := fun x hx => Int.lt_of_le_of_lt (by exact_mod_cast hx) blo
  have K1 := hide (And.intro bu (And.intro blo (And.intro bu' bl')))
  have HU := hide (fun W => parseNat_calls W SU u hus hG.1.2 (by omega))
  have hK : l.length + 1 ≤ 54975581388 := by omega
  have hK2 : l.length + 1 ≤ 4398046511104 := by omega
  have DD := hide (D5.below D1)
  have TT := hide (hT.below S1.out.2.2)
  have PP := hide (hP.below S1.out.2.2)
  clear a0 a1 A5 D5 B5 bu blo bu' bl' hT hP
  go_region_held3
    (fun w' => w'.cell? ⟨G, 0, none⟩ = some (.int .u64 y1) ∧ w'.cell? ⟨G, 1, none⟩ = some (.slice y2 y3 y4) ∧ Below w.heap.size w w')
    (first
      | with_reducible exact S0.out
      | with_reducible exact S1.out
      | with_reducible exact cells2_keep S1.out ba
      | with_reducible exact cells2_keep S1.out (ba.then_below bb)
      | with_reducible exact cells2_keep S1.out ((ba.then_below bb).then_below bd))
    (first
      | (go_at_call 68; refine (HU.out _).mono ?_; rintro e wa ⟨⟨ra, rfl, hra⟩, ba⟩)
      | (go_at_call 67; refine (of_calls _ (decide (t.length < l.length)) _ _ (M.dec u) (M.dec lo) (l.length + 1) hra (DD.out.below ba) h0 K1.out.1 K1.out.2.1 hK2 (TT.out.below ba)).mono ?_; rintro e wb ⟨⟨rb, rfl, hrb⟩, bb⟩; obtain ⟨ng, nn, dd, hrb, hnn, hdd, hLow⟩ := Low.text hrb)
      | (go_at_call 41; refine (ratText_calls _ _ ng nn dd (l.length + 1) hrb (K1.out.2.2.1 nn (Nat.le_trans hnn (Nat.div_le_self _ _))) (K1.out.2.2.2 dd (Nat.le_trans hdd (Nat.div_le_self _ _))) hK (PP.out.below (ba.then_below bb))).mono ?_; rintro e wd ⟨rfl, bd⟩))
  go_wp2
  rw [hLow.out]
  refine bodyPost_ret (v := .tuple #[.string ⟨(lowText (decide (t.length < l.length)) (M.dec u / Nat.gcd (M.dec u) (M.dec lo)) (M.dec lo / Nat.gcd (M.dec u) (M.dec lo))).toArray⟩, .int .i64 0]) (by simp [results, Tryz.results35, go_sem]) rfl ?_
  exact ⟨rfl, S1.out.2.2.then_below ((ba.then_below bb).then_below bd)⟩
theorem canon_calls (w : World) (s : ByteArray) (l : List UInt8) (hs : s.data.toList = l) (hl : l.length ≤ 1073741824) (m : Int) (hM : w.cell? ⟨0, 0, none⟩ = some (.int .i64 m)) (hT : Tab w) (hP : Pows w) :
    Calls Tryz.prog 35 #[.string s] w fun e w' => e = .returned (.tuple #[.string ⟨(canonText l).1.toArray⟩, .int .i64 (canonText l).2]) ∧ Below w.heap.size w w' := by
  unfold canonText
  by_cases hb : (Lib.cut (Lib.trimPrefix l [45]) [47]).2.2 = true
  · have hlo : (Lib.cut (Lib.trimPrefix l [45]) [47]).2.1 = clow l := by unfold clow; rw [if_pos hb]
    by_cases hG : Good (cup l) ∧ Good (clow l)
    · rw [if_pos hG]
      by_cases h0 : M.dec (clow l) = 0
      · rw [if_pos h0]
        exact canon_zero_t w s l _ (cup l) (clow l) hs hl m hM hT hP rfl rfl hb hlo hG h0
      · rw [if_neg h0]
        exact canon_good_t w s l _ (cup l) (clow l) hs hl m hM hT hP rfl rfl hb hlo hG h0
    · rw [if_neg hG]
      exact canon_bad_t w s l _ (cup l) (clow l) hs hl m hM hT hP rfl rfl hb hlo hG
  · have hb' : (Lib.cut (Lib.trimPrefix l [45]) [47]).2.2 = false := by simpa using hb
    have hlo : clow l = [49] := by unfold clow; rw [if_neg hb]
    by_cases hG : Good (cup l) ∧ Good (clow l)
    · rw [if_pos hG]
      by_cases h0 : M.dec (clow l) = 0
      · rw [if_pos h0]
        exact canon_zero_f w s l _ (cup l) (clow l) hs hl m hM hT hP rfl rfl hb' hlo hG h0
      · rw [if_neg h0]
        exact canon_good_f w s l _ (cup l) (clow l) hs hl m hM hT hP rfl rfl hb' hlo hG h0
    · rw [if_neg hG]
      exact canon_bad_f w s l _ (cup l) (clow l) hs hl m hM hT hP rfl rfl hb' hlo hG
end Go.Proofs.YtebnjolkolobhaaGreatDoor
