/-
  Literals and clauses out of a list of words, in plain words: where they end in the list, how many they are.
-/
import Derived.Test.YtkdalejceclanaaRdRead
namespace Go.Proofs.Ytkdalejceclanaa.RD
set_option linter.unusedVariables false
theorem litsW_drop (P : Nat × Nat → Option Int) : ∀ l, ∃ j, j ≤ l.length ∧ (litsW P l).2.2 = l.drop j ∧ ((litsW P l).1 = true → 0 < j)
  | [] => ⟨0, Nat.le_refl _, rfl, fun h => by cases h⟩
  | x :: r => by
    obtain ⟨j, h1, h2, h3⟩ := litsW_drop P r
    unfold litsW
    cases P x with
    | none => exact ⟨0, Nat.zero_le _, rfl, fun h => by cases h⟩
    | some z =>
      simp only
      split
      · exact ⟨1, by simp, rfl, fun _ => Nat.one_pos⟩
      · exact ⟨j + 1, by simpa using h1, by simpa using h2, fun _ => Nat.succ_pos _⟩
/-- Where literals that begin at the word i end. -/
theorem litsW_at (P : Nat × Nat → Option Int) (L : List (Nat × Nat)) {i : Nat} (hi : i ≤ L.length) {R : Bool × List Int × List (Nat × Nat)} (hR : litsW P (L.drop i) = R) :
    i ≤ L.length - R.2.2.length ∧ R.2.2 = L.drop (L.length - R.2.2.length) ∧ (R.1 = true → i < L.length - R.2.2.length) := by
  obtain ⟨j, h1, h2, h3⟩ := litsW_drop P (L.drop i)
  rw [hR] at h2 h3
  rw [List.length_drop] at h1
  rw [List.drop_drop] at h2
  have hl : R.2.2.length = L.length - (i + j) := by rw [h2, List.length_drop]
  have e : L.length - R.2.2.length = i + j := by omega
  rw [e]
  exact ⟨by omega, h2, fun h => by have := h3 h; omega⟩
theorem litsW_bd (P : Nat × Nat → Option Int) : ∀ l, (litsW P l).2.1.length ≤ l.length
  | [] => Nat.le_refl _
  | x :: r => by
    have ih := litsW_bd P r
    unfold litsW
    cases P x with
    | none => simp
    | some z =>
      simp only
      split
      · simp
      · simpa using ih
theorem clsW_bd (P : Nat × Nat → Option Int) : ∀ k l, (clsW P k l).2.1.length + (clsW P k l).2.2.length ≤ l.length ∧ ∀ c ∈ (clsW P k l).2.1, c.length ≤ l.length
  | 0, l => by simp [clsW]
  | k + 1, l => by
    unfold clsW
    have h := litsW_len P l
    have h2 := litsW_bd P l
    split
    · next q =>
      have h3 := h.2 q
      obtain ⟨i1, i2⟩ := clsW_bd P k (litsW P l).2.2
      refine ⟨by simp only [List.length_cons]; omega, fun c hc => ?_⟩
      rcases List.mem_cons.1 hc with e | e
      · rw [e]; exact h2
      · have := i2 c e; omega
    · exact ⟨by simp only [List.length_nil]; omega, fun c hc => absurd hc (List.not_mem_nil)⟩
theorem clsW_zero (P : Nat × Nat → Option Int) (l : List (Nat × Nat)) : clsW P 0 l = (true, [], l) := rfl
theorem clsW_yes {P : Nat × Nat → Option Int} {m : Nat} {l : List (Nat × Nat)} (h : (litsW P l).1 = true) : clsW P (m + 1) l = ((clsW P m (litsW P l).2.2).1, (litsW P l).2.1 :: (clsW P m (litsW P l).2.2).2.1, (clsW P m (litsW P l).2.2).2.2) := by
  rw [clsW, if_pos h]
theorem clsW_no {P : Nat × Nat → Option Int} {m : Nat} {l : List (Nat × Nat)} (h : (litsW P l).1 = false) : clsW P (m + 1) l = (false, [], (litsW P l).2.2) := by
  rw [clsW, if_neg (by rw [h]; simp)]
/-- The clauses out of k, of which cs are read and the rest is at l. -/
def restW (P : Nat × Nat → Option Int) (C : Bool × List (List Int) × List (Nat × Nat)) (cs : List (List Int)) (m : Nat) (l : List (Nat × Nat)) : Prop := C = ((clsW P m l).1, cs ++ (clsW P m l).2.1, (clsW P m l).2.2)
theorem restW_start (P : Nat × Nat → Option Int) (k : Nat) (l : List (Nat × Nat)) : restW P (clsW P k l) [] k l := rfl
theorem restW_step {P : Nat × Nat → Option Int} {C : Bool × List (List Int) × List (Nat × Nat)} {cs : List (List Int)} {m : Nat} {l : List (Nat × Nat)} (h : restW P C cs (m + 1) l) (hy : (litsW P l).1 = true) : restW P C (cs ++ [(litsW P l).2.1]) m (litsW P l).2.2 := by
  unfold restW at h ⊢
  rw [h, clsW_yes hy, List.append_assoc]
  rfl
theorem restW_no {P : Nat × Nat → Option Int} {C : Bool × List (List Int) × List (Nat × Nat)} {cs : List (List Int)} {m : Nat} {l : List (Nat × Nat)} (h : restW P C cs (m + 1) l) (hy : (litsW P l).1 = false) : C.1 = false ∧ C.2.2 = (litsW P l).2.2 := by
  unfold restW at h
  rw [h, clsW_no hy]
  exact ⟨rfl, rfl⟩
theorem restW_end {P : Nat × Nat → Option Int} {C : Bool × List (List Int) × List (Nat × Nat)} {cs : List (List Int)} {l : List (Nat × Nat)} (h : restW P C cs 0 l) : C = (true, cs, l) := by
  unfold restW at h
  rw [h, clsW_zero, List.append_nil]
/-- What is answered behind the clauses. -/
theorem bodyW_no {t : List UInt8} {vars k : Nat} {r : List (Nat × Nat)} (h : (clsW (PW t vars) k r).1 = false) : (bodyW t vars k r).1 = false ∧ (bodyW t vars k r).2.2.2 = (clsW (PW t vars) k r).2.2 := by
  unfold bodyW
  rw [if_neg (by rw [h]; simp)]
  exact ⟨rfl, rfl⟩
theorem bodyW_yes {t : List UInt8} {vars k : Nat} {r : List (Nat × Nat)} {cs : List (List Int)} {l : List (Nat × Nat)} (h : clsW (PW t vars) k r = (true, cs, l)) : bodyW t vars k r = ((tailW t (PW t vars) l).1, cs, (tailW t (PW t vars) l).2.1, (tailW t (PW t vars) l).2.2) := by
  unfold bodyW
  rw [h]
  rfl
end Go.Proofs.Ytkdalejceclanaa.RD
