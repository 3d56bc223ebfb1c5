/-
  Places of a text behind another one and the end of a line.
-/
import Derived.Test.YtnkhdfliiaieeaaPlaceCalls
namespace Go.Proofs.Ytnkhdfliiaieeaa
open Go.RowKit
theorem getD_app_left {α : Type} (a b : List α) (d : α) (i : Nat) (h : i < a.length) : (a ++ b).getD i d = a.getD i d := by
  simp [List.getD_eq_getElem?_getD, List.getElem?_append_left h]
theorem getD_app_right {α : Type} (a b : List α) (d : α) (i : Nat) : (a ++ b).getD (a.length + i) d = b.getD i d := by
  simp [List.getD_eq_getElem?_getD, List.getElem?_append_right (Nat.le_add_right _ _)]
section
variable (A B : List UInt8)
theorem lineE_left (i : Nat) (h : i < A.length) : lineE (A ++ ([13, 10] ++ B)) i = lineE A i := by
  unfold lineE
  rw [getD_app_left _ _ _ _ h]
  have hl : (A ++ ([13, 10] ++ B)).length = A.length + 2 + B.length := by simp; omega
  rw [hl]
  apply decide_eq_decide.2
  by_cases h2 : i + 1 < A.length
  · rw [getD_app_left _ _ _ _ h2]
    constructor <;> (rintro (h | ⟨h, h3 | h3⟩) <;> first | omega | (right; refine ⟨h, Or.inr h3⟩))
  · have e : i + 1 = A.length + 0 := by omega
    have e2 : (A ++ ([13, 10] ++ B)).getD (i + 1) 0 = 13 := by rw [e, getD_app_right]; rfl
    rw [e2]
    have e3 : (13 : UInt8).toNat = 13 := rfl
    rw [e3]
    omega
theorem lin_left (n : Nat) (h : n ≤ A.length) : lin (A ++ ([13, 10] ++ B)) n = lin A n := by
  induction n with
  | zero => rfl
  | succ n ih => rw [lin, lin, lineE_left A B n (by omega), ih (by omega)]
theorem lineE_cr : lineE (A ++ ([13, 10] ++ B)) A.length = false := by
  unfold lineE
  have e1 : (A ++ ([13, 10] ++ B)).getD A.length 0 = 13 := by rw [show A.length = A.length + 0 from rfl, getD_app_right]; rfl
  have e2 : (A ++ ([13, 10] ++ B)).getD (A.length + 1) 0 = 10 := by rw [getD_app_right]; rfl
  have hl : (A ++ ([13, 10] ++ B)).length = A.length + 2 + B.length := by simp; omega
  rw [e1, e2, hl]
  apply decide_eq_false
  have e3 : (13 : UInt8).toNat = 13 := rfl
  have e4 : (10 : UInt8).toNat = 10 := rfl
  rw [e3, e4]
  omega
theorem lineE_lf : lineE (A ++ ([13, 10] ++ B)) (A.length + 1) = true := by
  unfold lineE
  have e2 : (A ++ ([13, 10] ++ B)).getD (A.length + 1) 0 = 10 := by rw [getD_app_right]; rfl
  rw [e2]
  apply decide_eq_true
  exact Or.inl rfl
theorem lineE_right (i : Nat) : lineE (A ++ ([13, 10] ++ B)) (A.length + 2 + i) = lineE B i := by
  unfold lineE
  have g (j : Nat) : (A ++ ([13, 10] ++ B)).getD (A.length + 2 + j) 0 = B.getD j 0 := by
    rw [Nat.add_assoc, getD_app_right, show 2 + j = ([13, 10] : List UInt8).length + j from rfl, getD_app_right]
  have hl : (A ++ ([13, 10] ++ B)).length = A.length + 2 + B.length := by simp; omega
  rw [g i, show A.length + 2 + i + 1 = A.length + 2 + (i + 1) from rfl, g (i + 1), hl]
  apply decide_eq_decide.2
  have e : (A.length + 2 + (i + 1) = A.length + 2 + B.length) ↔ (i + 1 = B.length) := by omega
  rw [e]
theorem behind (n : Nat) : lin (A ++ ([13, 10] ++ B)) (A.length + 2 + n) = lin A A.length + lin B n ∧ col (A ++ ([13, 10] ++ B)) (A.length + 2 + n) = col B n := by
  induction n with
  | zero =>
    have h := lin_ends (lineE_lf A B)
    have h2 := lin_goes (lineE_cr A B)
    exact ⟨by rw [Nat.add_zero, h.1, h2.1, lin_left A B _ (Nat.le_refl _)]; rfl, by rw [Nat.add_zero, h.2]; rfl⟩
  | succ n ih =>
    have g : (A ++ ([13, 10] ++ B)).getD (A.length + 2 + n) 0 = B.getD n 0 := by
      rw [Nat.add_assoc, getD_app_right, show 2 + n = ([13, 10] : List UInt8).length + n from rfl, getD_app_right]
    refine ⟨?_, ?_⟩
    · rw [← Nat.add_assoc, lin, lineE_right, ih.1, lin]; split <;> omega
    · rw [← Nat.add_assoc, col, lineE_right, ih.2, g, col]
end
theorem rises (l : List UInt8) (n : Nat) : lin l n < lin l (n + 1) ∨ (lin l n = lin l (n + 1) ∧ col l n ≤ col l (n + 1)) := by
  cases h : lineE l n
  · right
    have h2 := lin_goes h
    rw [h2.1, h2.2]
    refine ⟨rfl, ?_⟩
    split <;> omega
  · left; rw [(lin_ends h).1]; omega
end Go.Proofs.Ytnkhdfliiaieeaa
