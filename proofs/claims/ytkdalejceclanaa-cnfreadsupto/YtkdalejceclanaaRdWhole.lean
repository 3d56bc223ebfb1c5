/-
  A whole text of clauses, in plain words: what both sides' Read answer.
-/
import Derived.Test.YtkdalejceclanaaRdStep
namespace Go.Proofs.Ytkdalejceclanaa.RD
set_option linter.unusedVariables false
def okAt (t : List UInt8) (L : List (Nat × Nat)) (k : Nat) : Bool := if k = 0 then head0 t L else if k = 1 then head1 t L else if k = 2 then head2 t L else head3 t L
theorem okAt0 (t : List UInt8) (L : List (Nat × Nat)) : okAt t L 0 = head0 t L := rfl
theorem okAt1 (t : List UInt8) (L : List (Nat × Nat)) : okAt t L 1 = head1 t L := rfl
theorem okAt2 (t : List UInt8) (L : List (Nat × Nat)) : okAt t L 2 = head2 t L := rfl
theorem okAt3 (t : List UInt8) (L : List (Nat × Nat)) : okAt t L 3 = head3 t L := rfl
theorem headNo_at {t : List UInt8} {L : List (Nat × Nat)} {k : Nat} (hk : k < 4) (h : ∀ j, j < k → okAt t L j = true) (hn : okAt t L k = false) : headNo t L = k := by
  unfold headNo
  have h0 := h 0
  have h1 := h 1
  have h2 := h 2
  rw [okAt0] at h0
  rw [okAt1] at h1
  rw [okAt2] at h2
  rcases (by omega : k = 0 ∨ k = 1 ∨ k = 2 ∨ k = 3) with rfl | rfl | rfl | rfl
  · rw [okAt0] at hn; rw [if_neg (by rw [hn]; simp)]
  · rw [okAt1] at hn; rw [if_pos (h0 (by omega)), if_neg (by rw [hn]; simp)]
  · rw [okAt2] at hn; rw [if_pos (h0 (by omega)), if_pos (h1 (by omega)), if_neg (by rw [hn]; simp)]
  · rw [okAt3] at hn; rw [if_pos (h0 (by omega)), if_pos (h1 (by omega)), if_pos (h2 (by omega)), if_neg (by rw [hn]; simp)]
theorem headNo_all {t : List UInt8} {L : List (Nat × Nat)} (h : ∀ j, j < 4 → okAt t L j = true) : headNo t L = 4 := by
  unfold headNo
  rw [if_pos (show head0 t L = true from h 0 (by omega)), if_pos (show head1 t L = true from h 1 (by omega)), if_pos (show head2 t L = true from h 2 (by omega)), if_pos (show head3 t L = true from h 3 (by omega))]
theorem word_some {t : List UInt8} {L : List (Nat × Nat)} {i : Nat} (h : i < L.length) : word? t L i = some (piece t (L.getD i (0, 0))) := by
  unfold word?
  rw [List.getElem?_eq_getElem h, List.getD_eq_getElem?_getD, List.getElem?_eq_getElem h]
  rfl
theorem word_none {t : List UInt8} {L : List (Nat × Nat)} {i : Nat} (h : ¬ i < L.length) : word? t L i = none := by
  unfold word?
  rw [List.getElem?_eq_none (by omega)]
  rfl
theorem numAt_some {t : List UInt8} {L : List (Nat × Nat)} {i : Nat} (h : i < L.length) : numAt t L i = num (piece t (L.getD i (0, 0))) := by
  unfold numAt
  rw [word_some h]
theorem valAt_some {t : List UInt8} {L : List (Nat × Nat)} {i : Nat} (h : i < L.length) : valAt t L i = val (piece t (L.getD i (0, 0))) := by
  unfold valAt
  rw [word_some h]
theorem okAt_none {t : List UInt8} {L : List (Nat × Nat)} {k : Nat} (hk : k < 4) (h : ¬ k < L.length) : okAt t L k = false := by
  rcases (by omega : k = 0 ∨ k = 1 ∨ k = 2 ∨ k = 3) with rfl | rfl | rfl | rfl
  · rw [okAt0]; unfold head0; rw [word_none h]; rfl
  · rw [okAt1]; unfold head1; rw [word_none h]; rfl
  · rw [okAt2]; unfold head2 numAt; rw [word_none h]; rfl
  · rw [okAt3]; unfold head3 numAt; rw [word_none h]
theorem okAt_lt {t : List UInt8} {L : List (Nat × Nat)} {k : Nat} (hk : k < 4) (h : okAt t L k = true) : k < L.length := by
  rcases Nat.lt_or_ge k L.length with c | c
  · exact c
  · rw [okAt_none hk (by omega)] at h; cases h
theorem ok0 {t : List UInt8} {L : List (Nat × Nat)} (h : 0 < L.length) : okAt t L 0 = decide (piece t (L.getD 0 (0, 0)) = [112]) := by
  rw [okAt0]; unfold head0; rw [word_some h]; simp only [Option.some.injEq]
theorem ok1 {t : List UInt8} {L : List (Nat × Nat)} (h : 1 < L.length) : okAt t L 1 = decide (piece t (L.getD 1 (0, 0)) = [99, 110, 102]) := by
  rw [okAt1]; unfold head1; rw [word_some h]; simp only [Option.some.injEq]
theorem ok2 {t : List UInt8} {L : List (Nat × Nat)} (h : 2 < L.length) : okAt t L 2 = (num (piece t (L.getD 2 (0, 0))) && decide (val (piece t (L.getD 2 (0, 0))) ≤ 1000000)) := by
  rw [okAt2]; unfold head2; rw [numAt_some h, valAt_some h]
theorem ok3 {t : List UInt8} {L : List (Nat × Nat)} (h : 3 < L.length) : okAt t L 3 = num (piece t (L.getD 3 (0, 0))) := by
  rw [okAt3]; unfold head3; rw [numAt_some h]
/-- How many clauses the document asks for. -/
def cntW (L : List (Nat × Nat)) (l : List UInt8) : Nat := if valueOf l L.length < 0 then L.length + 1 else (valueOf l L.length).toNat
/-- What a text is: does it stand, how many variables, the clauses, the last line, else the place. -/
def wholeW (t : List UInt8) (vars k : Nat) : Bool × Nat × List (List Int) × List Int × Nat :=
  if headNo t (ws t 0) < 4 then (false, 0, [], [], headAt t ((ws t 0).drop (headNo t (ws t 0))))
  else if (bodyW t vars k ((ws t 0).drop 4)).1 then (true, vars, (bodyW t vars k ((ws t 0).drop 4)).2.1, (bodyW t vars k ((ws t 0).drop 4)).2.2.1, 0)
  else (false, 0, [], [], headAt t (bodyW t vars k ((ws t 0).drop 4)).2.2.2)
/-- What is left of a list of words is an end of it. -/
theorem clsW_drop (P : Nat × Nat → Option Int) : ∀ (k : Nat) (l : List (Nat × Nat)), ∃ j, j ≤ l.length ∧ (clsW P k l).2.2 = l.drop j
  | 0, l => ⟨0, Nat.zero_le _, rfl⟩
  | k + 1, l => by
    obtain ⟨j, h1, h2, -⟩ := litsW_drop P l
    unfold clsW
    split
    · obtain ⟨i, h3, h4⟩ := clsW_drop P k (litsW P l).2.2
      rw [h2, List.length_drop] at h3
      refine ⟨j + i, by omega, ?_⟩
      simp only
      rw [h4, h2, List.drop_drop]
    · exact ⟨j, h1, h2⟩
theorem tailW_drop (t : List UInt8) (P : Nat × Nat → Option Int) (l : List (Nat × Nat)) : ∃ j, j ≤ l.length ∧ (tailW t P l).2.2 = l.drop j := by
  cases l with
  | nil => exact ⟨0, Nat.le_refl _, rfl⟩
  | cons x r =>
    obtain ⟨j, h1, h2, -⟩ := litsW_drop P r
    unfold tailW
    simp only
    split
    · split
      · exact ⟨j + 1, by simpa using h1, by simpa using h2⟩
      · exact ⟨j + 1, by simpa using h1, by simpa using h2⟩
    · exact ⟨0, Nat.zero_le _, rfl⟩
theorem bodyW_drop (t : List UInt8) (vars k : Nat) (l : List (Nat × Nat)) : ∃ j, j ≤ l.length ∧ (bodyW t vars k l).2.2.2 = l.drop j := by
  obtain ⟨i, h1, h2⟩ := clsW_drop (PW t vars) k l
  unfold bodyW
  split
  · obtain ⟨j, h3, h4⟩ := tailW_drop t (PW t vars) (clsW (PW t vars) k l).2.2
    rw [h2, List.length_drop] at h3
    refine ⟨i + j, by omega, ?_⟩
    simp only
    rw [h4, h2, List.drop_drop]
  · exact ⟨i, h1, h2⟩
theorem bodyW_at (t : List UInt8) (vars k : Nat) (L : List (Nat × Nat)) (h4 : 4 ≤ L.length) : (bodyW t vars k (L.drop 4)).2.2.2 = L.drop (L.length - (bodyW t vars k (L.drop 4)).2.2.2.length) := by
  obtain ⟨j, h1, h2⟩ := bodyW_drop t vars k (L.drop 4)
  rw [List.length_drop] at h1
  rw [h2, List.drop_drop, List.length_drop]
  congr 1
  omega
theorem whole_head {t : List UInt8} {vars k n : Nat} (h : headNo t (ws t 0) = n) (hn : n < 4) : wholeW t vars k = (false, 0, [], [], headAt t ((ws t 0).drop n)) := by
  unfold wholeW
  rw [h, if_pos hn]
theorem whole_yes {t : List UInt8} {vars k : Nat} (h : headNo t (ws t 0) = 4) (hb : (bodyW t vars k ((ws t 0).drop 4)).1 = true) : wholeW t vars k = (true, vars, (bodyW t vars k ((ws t 0).drop 4)).2.1, (bodyW t vars k ((ws t 0).drop 4)).2.2.1, 0) := by
  unfold wholeW
  rw [h, if_neg (by omega), if_pos hb]
theorem whole_no {t : List UInt8} {vars k : Nat} (h : headNo t (ws t 0) = 4) (hb : (bodyW t vars k ((ws t 0).drop 4)).1 = false) : wholeW t vars k = (false, 0, [], [], headAt t (bodyW t vars k ((ws t 0).drop 4)).2.2.2) := by
  unfold wholeW
  rw [h, if_neg (by omega), if_neg (by rw [hb]; simp)]
/-- Both sides count alike. -/
theorem whole_cnt (t : List UInt8) (vars : Nat) (hl : (ws t 0).length ≤ 1048577) (h3 : headNo t (ws t 0) = 4 → num (piece t ((ws t 0).getD 3 (0, 0))) = true) : wholeW t vars (cntW (ws t 0) (piece t ((ws t 0).getD 3 (0, 0)))) = wholeW t vars (min (val (piece t ((ws t 0).getD 3 (0, 0)))) top) := by
  unfold wholeW
  split
  · rfl
  · next hn =>
    have hno : headNo t (ws t 0) ≤ 4 := by unfold headNo; cases head0 t (ws t 0) <;> cases head1 t (ws t 0) <;> cases head2 t (ws t 0) <;> cases head3 t (ws t 0) <;> simp
    have hN := h3 (by omega)
    by_cases hv : val (piece t ((ws t 0).getD 3 (0, 0))) ≤ (ws t 0).length
    · have e : valueOf (piece t ((ws t 0).getD 3 (0, 0))) (ws t 0).length = (val (piece t ((ws t 0).getD 3 (0, 0))) : Int) := by unfold valueOf; rw [if_pos ⟨hN, hv⟩]
      have e2 : cntW (ws t 0) (piece t ((ws t 0).getD 3 (0, 0))) = min (val (piece t ((ws t 0).getD 3 (0, 0)))) top := by
        unfold cntW
        rw [e, if_neg (by omega), Int.toNat_natCast, Nat.min_eq_left (by unfold top; omega)]
      rw [e2]
    · have e : valueOf (piece t ((ws t 0).getD 3 (0, 0))) (ws t 0).length = -1 := by unfold valueOf; rw [if_neg (fun c => hv c.2)]
      have e2 : cntW (ws t 0) (piece t ((ws t 0).getD 3 (0, 0))) = (ws t 0).length + 1 := by
        unfold cntW
        rw [e, if_pos (by omega)]
      rw [e2]
      have hm : (ws t 0).length < min (val (piece t ((ws t 0).getD 3 (0, 0)))) top := by
        have : (ws t 0).length < top := by unfold top; omega
        omega
      obtain ⟨b1, b2, b3⟩ := bodyW_over t vars ((ws t 0).length + 1) (min (val (piece t ((ws t 0).getD 3 (0, 0)))) top) ((ws t 0).drop 4) (by rw [List.length_drop]; omega) (by rw [List.length_drop]; omega)
      rw [b1, b2, b3]
      simp
end Go.Proofs.Ytkdalejceclanaa.RD
