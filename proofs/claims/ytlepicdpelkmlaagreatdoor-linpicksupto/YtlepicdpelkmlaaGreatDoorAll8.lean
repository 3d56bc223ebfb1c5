/- Laid together of: RatOf, RatText, NumDigits, Canon. -/
import Derived.Test.YtlepicdpelkmlaaGreatDoorAll7
import Derived.Deep.DeepCutAuto
/- ==== RatOf ==== -/
namespace Go.Proofs.YtlepicdpelkmlaaGreatDoor
open Go.RowKit
set_option linter.unusedVariables false
/-- Six cells, and the world grown. -/
theorem cells6_keep {w W W2 : World} {a1 a2 a3 a4 a5 a6 : Addr} {v1 v2 v3 v4 v5 v6 : Value} (h : W.cell? a1 = some v1 ∧ W.cell? a2 = some v2 ∧ W.cell? a3 = some v3 ∧ W.cell? a4 = some v4 ∧ W.cell? a5 = some v5 ∧ W.cell? a6 = some v6 ∧ Below w.heap.size w W) (b : Below W.heap.size W W2) :
    W2.cell? a1 = some v1 ∧ W2.cell? a2 = some v2 ∧ W2.cell? a3 = some v3 ∧ W2.cell? a4 = some v4 ∧ W2.cell? a5 = some v5 ∧ W2.cell? a6 = some v6 ∧ Below w.heap.size w W2 := by
  obtain ⟨h1, h2, h3, h4, h5, h6, h7⟩ := h
  exact ⟨by rw [b.cell (World.block_lt_of_cell? W _ h1)]; exact h1, by rw [b.cell (World.block_lt_of_cell? W _ h2)]; exact h2, by rw [b.cell (World.block_lt_of_cell? W _ h3)]; exact h3, by rw [b.cell (World.block_lt_of_cell? W _ h4)]; exact h4, by rw [b.cell (World.block_lt_of_cell? W _ h5)]; exact h5, by rw [b.cell (World.block_lt_of_cell? W _ h6)]; exact h6, h7.then_below b⟩
theorem cells6_set5 {w W W2 : World} {g1 g2 g3 H : Nat} {v1 v2 v3 v4 v5 v6 a b c d e : Value} (h : W.cell? ⟨g1, 0, none⟩ = some v1 ∧ W.cell? ⟨g1, 1, none⟩ = some v2 ∧ W.cell? ⟨g2, 0, none⟩ = some v3 ∧ W.cell? ⟨g2, 1, none⟩ = some v4 ∧ W.cell? ⟨g3, 0, none⟩ = some v5 ∧ W.cell? ⟨g3, 1, none⟩ = some v6 ∧ Below w.heap.size w W) (bl : Below W.heap.size W W2) (n1 : g1 ≠ H) (n2 : g2 ≠ H) (n3 : g3 ≠ H) (hH : w.heap.size ≤ H) :
    let W3 := (((((W2.setCell ⟨H, 0, none⟩ a).setCell ⟨H, 1, none⟩ b).setCell ⟨H, 2, none⟩ c).setCell ⟨H, 3, none⟩ d).setCell ⟨H, 4, none⟩ e)
    W3.cell? ⟨g1, 0, none⟩ = some v1 ∧ W3.cell? ⟨g1, 1, none⟩ = some v2 ∧ W3.cell? ⟨g2, 0, none⟩ = some v3 ∧ W3.cell? ⟨g2, 1, none⟩ = some v4 ∧ W3.cell? ⟨g3, 0, none⟩ = some v5 ∧ W3.cell? ⟨g3, 1, none⟩ = some v6 ∧ Below w.heap.size w W3 := by
  obtain ⟨h1, h2, h3, h4, h5, h6, h7⟩ := cells6_keep h bl
  have q := set5 W2 H a b c d e
  exact ⟨q.cell h1 (by simpa using n1), q.cell h2 (by simpa using n1), q.cell h3 (by simpa using n2), q.cell h4 (by simpa using n2), q.cell h5 (by simpa using n3), q.cell h6 (by simpa using n3), h7.then_grown q (by rintro g ⟨⟩; exact hH)⟩
theorem Low.shape {w : World} {r : Value} {neg : Bool} {n d : Nat} (h : Low w r neg n d) : ∃ ng nn dd, DenR w r ng nn dd ∧ Hid (∀ w' r', DenR w' r' ng nn dd → Low w' r' neg n d) := by
  unfold Low at *
  by_cases c : n = 0 ∨ d = 1
  · rw [if_pos c] at h
    exact ⟨_, _, _, h, fun w' r' h' => by rw [if_pos c]; exact h'⟩
  · rw [if_neg c] at h
    exact ⟨_, _, _, h, fun w' r' h' => by rw [if_neg c]; exact h'⟩
end Go.Proofs.YtlepicdpelkmlaaGreatDoor
/- ==== RatText ==== -/
namespace Go.Proofs.YtlepicdpelkmlaaGreatDoor
open Go.RowKit
set_option linter.unusedVariables false
theorem isWhole_calls (w : World) (v : Value) (neg : Bool) (n d : Nat) (h : DenR w v neg n d) :
    Calls Tryz.prog 62 #[v] w fun e w' => e = .returned (.bool (decide (d = 0))) ∧ Below w.heap.size w w' := by
  obtain ⟨x1, x2, x3, x4, y1, y2, y3, y4, rfl, h1, h2⟩ := h
  have B0 := hide (alloc_below w (.cells #[.bool neg, .int .u64 x1, .slice x2 x3 x4, .int .u64 y1, .slice y2 y3 y4] 92))
  have q := hide (isZero_calls _ _ d (h2.below B0.out))
  go_enter Tryz.func62, Tryz.ntmps62
  go_wp2_with fail
  refine q.out.mono ?_
  rintro e w2 ⟨rfl, b2⟩
  go_wp2
  go_ret
  exact ⟨rfl, B0.out.then_below b2⟩
/-- The text of a rational. -/
def ratText (neg : Bool) (n d : Nat) : List UInt8 := (if neg then [45] else []) ++ Lib.decDigits n ++ (if d = 0 then [] else 47 :: Lib.decDigits d)
theorem ratText_whole (neg : Bool) (n d : Nat) (h : d = 0) : ratText neg n d = (if neg then [45] else []) ++ Lib.decDigits n := by
  unfold ratText
  rw [if_pos h, List.append_nil]
theorem ratText_frac (neg : Bool) (n d : Nat) (h : d ≠ 0) : ratText neg n d = (if neg then [45] else []) ++ Lib.decDigits n ++ 47 :: Lib.decDigits d := by
  unfold ratText
  rw [if_neg h]
theorem dig_len {n K : Nat} (hn : (n : Int) < M.BB ^ K) : (Lib.decDigits n).length ≤ 20 * K + 1 := by
  refine M.decDigits_len_le ?_ (by omega)
  have h4 : M.BB ^ K = ((18446744073709551616 ^ K : Nat) : Int) := by rw [Int.natCast_pow]; rfl
  rw [h4] at hn
  have h5 : n < 18446744073709551616 ^ K := by exact_mod_cast hn
  have h2 : 18446744073709551616 ^ K ≤ (10 ^ 20) ^ K := Nat.pow_le_pow_left (by decide) _
  rw [← Nat.pow_mul] at h2
  have h3 : 10 ^ (20 * K) ≤ 10 ^ (20 * K + 1) := Nat.pow_le_pow_right (by decide) (by omega)
  omega
theorem str_eq {s : ByteArray} {l : List UInt8} (h : s.data.toList = l) : Ending.returned (.string s) = .returned (.string ⟨l.toArray⟩) := by
  subst h
  rfl
set_option maxRecDepth 100000 in
set_option maxHeartbeats 4000000 in
theorem ratText_calls (w : World) (v : Value) (neg : Bool) (n d K : Nat) (h : DenR w v neg n d) (hn : (n : Int) < M.BB ^ K) (hd : (d : Int) < M.BB ^ K) (hK : K ≤ 54975581388) (hT : Pows w) :
    Calls Tryz.prog 42 #[v] w fun e w' => e = .returned (.string ⟨(ratText neg n d).toArray⟩) ∧ Below w.heap.size w w' := by
  obtain ⟨x1, x2, x3, x4, y1, y2, y3, y4, rfl, h1, h2⟩ := h
  have ln := dig_len hn
  have ld := dig_len hd
  obtain ⟨SN, hSN⟩ : ∃ S : ByteArray, S = ⟨(Lib.decDigits n).toArray⟩ := ⟨_, rfl⟩
  obtain ⟨SD, hSD⟩ : ∃ S : ByteArray, S = ⟨(Lib.decDigits d).toArray⟩ := ⟨_, rfl⟩
  have zn : SN.size ≤ 20 * K + 1 := by rw [hSN]; exact ln
  have zd : SD.size ≤ 20 * K + 1 := by rw [hSD]; exact ld
  have m0 : SN.size ≤ 1100000000000 := by omega
  have m0' : SD.size ≤ 1100000000000 := by omega
  have m1 : ¬ 9223372036854775807 < 1 + SN.size := by omega
  have m2 : ¬ 9223372036854775807 < 1 + SD.size := by omega
  have m3 : ¬ 9223372036854775807 < SN.size + (1 + SD.size) := by omega
  have m4 : ¬ 9223372036854775807 < 1 + SN.size + (1 + SD.size) := by omega
  have HSN := hide hSN
  have HSD := hide hSD
  clear ln ld zn zd
  have B0 := alloc_below w (.cells #[.bool neg, .int .u64 x1, .slice x2 x3 x4, .int .u64 y1, .slice y2 y3 y4] 92)
  have R0 := heap_alloc_new w (.cells #[.bool neg, .int .u64 x1, .slice x2 x3 x4, .int .u64 y1, .slice y2 y3 y4] 92)
  have q := hide (natText_calls _ _ n K (h1.below B0) hn hK (hT.below B0))
  rw [← hSN] at q
  replace B0 := hide B0
  replace R0 := hide R0
  go_enter Tryz.func42, Tryz.ntmps42
  go_wp2_with fail
  refine q.out.mono ?_
  rintro e w2 ⟨rfl, b2⟩
  have R2 := hide (kept_block R0.out b2)
  have B2 := hide (B0.out.then_below b2)
  obtain ⟨⟨z0, z1, z2, z3, z4⟩, -⟩ := ratBox R2.out
  have q2 := hide (isWhole_calls w2 _ neg n d ⟨x1, x2, x3, x4, y1, y2, y3, y4, rfl, h1.below B2.out, h2.below B2.out⟩)
  clear b2 q B0 R0 hSN hSD
  cases neg with
  | false =>
    go_wp2_with fail
    refine q2.out.mono ?_
    rintro e w3 ⟨rfl, b3⟩
    have R3 := kept_block R2.out b3
    have B3 := hide (B2.out.then_below b3)
    clear z0 z1 z2 z3 z4
    obtain ⟨⟨z0, z1, z2, z3, z4⟩, -⟩ := ratBox R3
    have q3 := hide (natText_calls w3 _ d K (h2.below B3.out) hd hK (hT.below B3.out))
    rw [← HSD.out] at q3
    clear b3 q2
    by_cases h0 : d = 0
    · rw [decide_eq_true h0]
      go_wp2
      go_ret
      refine ⟨?_, B3.out⟩
      rw [ratText_whole _ n d h0]
      exact str_eq (by rw [HSN.out]; simp)
    · rw [decide_eq_false h0]
      go_wp2_with fail
      refine q3.out.mono ?_
      rintro e w4 ⟨rfl, b4⟩
      go_wp2
      go_ret
      refine ⟨?_, B3.out.then_below b4⟩
      rw [ratText_frac _ n d h0]
      exact str_eq (by (try rw [HSN.out]); (try rw [HSD.out]); simp)
  | true =>
    go_wp2_with fail
    refine q2.out.mono ?_
    rintro e w3 ⟨rfl, b3⟩
    have R3 := kept_block R2.out b3
    have B3 := hide (B2.out.then_below b3)
    clear z0 z1 z2 z3 z4
    obtain ⟨⟨z0, z1, z2, z3, z4⟩, -⟩ := ratBox R3
    have q3 := hide (natText_calls w3 _ d K (h2.below B3.out) hd hK (hT.below B3.out))
    rw [← HSD.out] at q3
    clear b3 q2
    by_cases h0 : d = 0
    · rw [decide_eq_true h0]
      go_wp2
      go_ret
      refine ⟨?_, B3.out⟩
      rw [ratText_whole _ n d h0]
      exact str_eq (by (try rw [HSN.out]); (try rw [HSD.out]); simp)
    · rw [decide_eq_false h0]
      go_wp2_with fail
      refine q3.out.mono ?_
      rintro e w4 ⟨rfl, b4⟩
      go_wp2
      go_ret
      refine ⟨?_, B3.out.then_below b4⟩
      rw [ratText_frac _ n d h0]
      exact str_eq (by (try rw [HSN.out]); (try rw [HSD.out]); simp)
end Go.Proofs.YtlepicdpelkmlaaGreatDoor
/- ==== NumDigits ==== -/
namespace Go.Proofs.YtlepicdpelkmlaaGreatDoor
open Go.RowKit
set_option linter.unusedVariables false
/-- One digit or more, and nothing else. -/
abbrev Good (l : List UInt8) : Prop := l ≠ [] ∧ ∀ b, b ∈ l → 48 ≤ b.toNat ∧ b.toNat ≤ 57
theorem infoStr : (Tryz.prog.info? 9).map (·.size) = some 1 := by kernel_rfl
theorem run_at_str (b o len cap : Nat) (i : Int) (h0 : 0 ≤ i) (h1 : i < len) (w : World) : (Instr.indexAt 83 (.slice (some ⟨b, o, none⟩) len cap) (.int .i64 i)).run Tryz.prog w = .ok (.pointer (some ⟨b, o + i.toNat, none⟩)) w := by
  have he : Tryz.prog.elem 83 = 9 := by kernel_rfl
  have hs : Tryz.prog.underlying 83 = some (.slice 9) := by kernel_rfl
  rw [run_indexAt_slice (h := by rw [he]; exact hs), if_pos ⟨h0, h1⟩]
  simp [he, Addr.add]
theorem str_toList (s : ByteArray) : s.data.toList = s.toList := by
  rw [ByteArray.toList_eq]
theorem digs_take_succ {l : List UInt8} {q : Nat} (h : M.Digs (l.take q)) (hq : q < l.length) (h1 : 48 ≤ (l.getD q 0).toNat) (h2 : (l.getD q 0).toNat ≤ 57) : M.Digs (l.take (q + 1)) := by
  rw [take_succ_getD l 0 q hq]
  intro b hb
  rcases List.mem_append.1 hb with hb | hb
  · exact h b hb
  · simp at hb
    subst hb
    simp only [List.getD_eq_getElem?_getD] at h1 h2
    exact ⟨h1, h2⟩
theorem not_digs {l : List UInt8} {q : Nat} (hq : q < l.length) (h : ¬ (48 ≤ (l.getD q 0).toNat ∧ (l.getD q 0).toNat ≤ 57)) : ¬ M.Digs l := fun hd => h (digit_at hd hq)
end Go.Proofs.YtlepicdpelkmlaaGreatDoor
/- ==== Canon ==== -/
namespace Go.Proofs.YtlepicdpelkmlaaGreatDoor
open Go.RowKit
set_option linter.unusedVariables false
/-- The parts of a loose text: its sign, the digits above the stroke, those below it (one, where there is no stroke). -/
def cneg (l : List UInt8) : Bool := decide ((Lib.trimPrefix l [45]).length < l.length)
def cup (l : List UInt8) : List UInt8 := (Lib.cut (Lib.trimPrefix l [45]) [47]).1
def clow (l : List UInt8) : List UInt8 := if (Lib.cut (Lib.trimPrefix l [45]) [47]).2.2 then (Lib.cut (Lib.trimPrefix l [45]) [47]).2.1 else [49]
/-- The text of what lowest makes. -/
def lowText (neg : Bool) (n d : Nat) : List UInt8 := if n = 0 ∨ d = 1 then ratText (neg && !decide (n = 0)) n 0 else ratText neg n d
/-- What Canon answers. -/
def canonText (l : List UInt8) : List UInt8 × Int :=
  if Good (cup l) ∧ Good (clow l) then
    if M.dec (clow l) = 0 then ([], 2)
    else (lowText (cneg l) (M.dec (cup l) / Nat.gcd (M.dec (cup l)) (M.dec (clow l))) (M.dec (clow l) / Nat.gcd (M.dec (cup l)) (M.dec (clow l))), 0)
  else ([], 1)
theorem Low.text {w : World} {r : Value} {neg : Bool} {n d : Nat} (h : Low w r neg n d) : ∃ ng nn dd, DenR w r ng nn dd ∧ nn ≤ n ∧ dd ≤ d ∧ Hid (ratText ng nn dd = lowText neg n d) := by
  unfold Low at h
  unfold lowText
  by_cases c : n = 0 ∨ d = 1
  · rw [if_pos c] at h
    exact ⟨_, _, _, h, Nat.le_refl _, Nat.zero_le _, by rw [if_pos c]; exact hide rfl⟩
  · rw [if_neg c] at h
    exact ⟨_, _, _, h, Nat.le_refl _, Nat.le_refl _, by rw [if_neg c]; exact hide rfl⟩
theorem cut_le1 (t : List UInt8) : (Lib.cut t [47]).1.length ≤ t.length := by
  unfold Lib.cut
  split
  · rw [List.length_take]; omega
  · exact Nat.le_refl _
theorem cut_le2 (t : List UInt8) : (Lib.cut t [47]).2.1.length ≤ t.length := by
  unfold Lib.cut
  split
  · rw [List.length_drop]; omega
  · simp
theorem two_cells (w : World) (x y : Value) (t : TypeId) : (w.alloc (.cells #[x, y] t)).cell? ⟨w.heap.size, 0, none⟩ = some x ∧ (w.alloc (.cells #[x, y] t)).cell? ⟨w.heap.size, 1, none⟩ = some y := by
  have h := box_facts (heap_alloc_new w (.cells #[x, y] t))
  exact ⟨h.1, h.2.1⟩
end Go.Proofs.YtlepicdpelkmlaaGreatDoor
