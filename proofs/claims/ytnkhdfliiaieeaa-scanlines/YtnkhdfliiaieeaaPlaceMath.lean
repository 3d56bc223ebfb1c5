/-
  The line and the column of a place, as a plain function of the text's bytes.
-/
import Derived.Test.YtnkhdfliiaieeaaTextBase
namespace Go.Proofs.Ytnkhdfliiaieeaa
open Go.RowKit
/-- Does a line end behind the byte at i? -/
def lineE (l : List UInt8) (i : Nat) : Bool :=
  decide ((l.getD i 0).toNat = 10 ∨ ((l.getD i 0).toNat = 13 ∧ (i + 1 = l.length ∨ (l.getD (i + 1) 0).toNat ≠ 10)))
/-- Is it a byte of a character behind its first one? -/
def contB (b : UInt8) : Bool := decide (128 ≤ b.toNat ∧ b.toNat ≤ 191)
def lin (l : List UInt8) : Nat → Nat
  | 0 => 1
  | n + 1 => if lineE l n then lin l n + 1 else lin l n
def col (l : List UInt8) : Nat → Nat
  | 0 => 1
  | n + 1 => if lineE l n then 1 else if contB (l.getD n 0) then col l n else col l n + 1
def frm (l : List UInt8) : Nat → Nat
  | 0 => 0
  | n + 1 => if lineE l n then n + 1 else frm l n
def cnt (l : List UInt8) (f : Nat) : Nat → Nat
  | 0 => 1
  | n + 1 => if contB (l.getD (f + n) 0) then cnt l f n else cnt l f n + 1
theorem lin_le (l : List UInt8) (n : Nat) : 1 ≤ lin l n ∧ lin l n ≤ n + 1 := by
  induction n with
  | zero => exact ⟨Nat.le_refl _, Nat.le_refl _⟩
  | succ n ih => unfold lin; split <;> omega
theorem col_le (l : List UInt8) (n : Nat) : 1 ≤ col l n ∧ col l n ≤ n + 1 := by
  induction n with
  | zero => exact ⟨Nat.le_refl _, Nat.le_refl _⟩
  | succ n ih => unfold col; split; · omega
                 split <;> omega
theorem cnt_le (l : List UInt8) (f n : Nat) : 1 ≤ cnt l f n ∧ cnt l f n ≤ n + 1 := by
  induction n with
  | zero => exact ⟨Nat.le_refl _, Nat.le_refl _⟩
  | succ n ih => unfold cnt; split <;> omega
theorem frm_le (l : List UInt8) (n : Nat) : frm l n ≤ n := by
  induction n with
  | zero => exact Nat.le_refl _
  | succ n ih => unfold frm; split <;> omega
theorem col_eq (l : List UInt8) (n : Nat) : col l n = cnt l (frm l n) (n - frm l n) := by
  induction n with
  | zero => rfl
  | succ n ih =>
    have hf := frm_le l n
    by_cases h : lineE l n = true
    · have e1 : frm l (n + 1) = n + 1 := by unfold frm; rw [if_pos h]
      have e2 : col l (n + 1) = 1 := by unfold col; rw [if_pos h]
      rw [e1, e2, Nat.sub_self]; rfl
    · have e1 : frm l (n + 1) = frm l n := by rw [frm, if_neg h]
      have e3 : n + 1 - frm l n = (n - frm l n) + 1 := by omega
      have e4 : frm l n + (n - frm l n) = n := by omega
      rw [e1, e3, col, if_neg h, cnt, e4, ← ih]
end Go.Proofs.Ytnkhdfliiaieeaa
