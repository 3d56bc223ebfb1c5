/-
  Decimals, in plain words.
-/
import Derived.Test.YtebnjolkolobhaaGreatDoorNumPoint
import Derived.Test.YtebnjolkolobhaaGreatDoorStripM
/- ==== DecPure ==== -/
namespace Go.Proofs.YtebnjolkolobhaaGreatDoor
open Go.RowKit
set_option linter.unusedVariables false
def negB (neg : Bool) : List UInt8 := if neg then [45] else []
/-- What Decimal tells of n / d, where d is 2^t times 5^f times r, and neither goes into r. -/
def decO (neg : Bool) (n t f r : Nat) : List UInt8 × Int := if r = 1 then (negB neg ++ pointB (Lib.decDigits (n * (2 ^ (max t f - t) * 5 ^ (max t f - f)))) (max t f), 0) else ([], 1)
theorem powBB2 {b : Nat} (hb : b ≤ 5) (x : Nat) : ((b ^ x : Nat) : Int) < M.BB ^ (x + 1) := by
  have h1 : ((b ^ x : Nat) : Int) ≤ ((5 ^ x : Nat) : Int) := by exact_mod_cast Nat.pow_le_pow_left hb x
  have h2 : ((5 ^ x : Nat) : Int) < ((18446744073709551616 ^ (x + 1) : Nat) : Int) := by
    refine Int.ofNat_lt.2 ?_
    refine Nat.lt_of_le_of_lt (Nat.pow_le_pow_left (by decide : 5 ≤ 18446744073709551616) x) ?_
    exact Nat.pow_lt_pow_right (by decide) (by omega)
  have h3 : ((18446744073709551616 ^ (x + 1) : Nat) : Int) = M.BB ^ (x + 1) := by rw [Int.natCast_pow]; rfl
  rw [h3] at h2
  omega
theorem mulBB2 {a b K L : Nat} (ha : (a : Int) < M.BB ^ K) (hb : (b : Int) < M.BB ^ L) : ((a * b : Nat) : Int) < M.BB ^ (K + L) := by
  rw [Int.natCast_mul, Int.pow_add]
  have h0 := M.BB_pos
  exact Int.lt_of_le_of_lt (Int.mul_le_mul_of_nonneg_left (Int.le_of_lt hb) (Int.natCast_nonneg _)) (Int.mul_lt_mul_of_pos_right ha (Int.pow_pos h0))
theorem strip_bd {p n c r K : Nat} (hp : 2 ≤ p) (h : M.IsStrip p n c r) (hn : (n : Int) < M.BB ^ K) (h0 : 0 < n) : c < 64 * K ∧ r ≤ n ∧ 0 < r := by
  obtain ⟨h1, h2⟩ := h
  have hr : 0 < r := by
    rcases Nat.eq_zero_or_pos r with z | z
    · exact absurd (by rw [z]; exact Nat.dvd_zero p) h2
    · exact z
  have h3 : 2 ^ c ≤ n := by
    rw [h1]
    exact Nat.le_trans (Nat.pow_le_pow_left hp c) (Nat.le_mul_of_pos_right _ hr)
  have e : ((2 ^ (64 * K) : Nat) : Int) = M.BB ^ K := by
    rw [Nat.pow_mul, Int.natCast_pow]
    rfl
  rw [← e] at hn
  have h4 : n < 2 ^ (64 * K) := by exact_mod_cast hn
  refine ⟨(Nat.pow_lt_pow_iff_right (by decide)).1 (Nat.lt_of_le_of_lt h3 h4), ?_, hr⟩
  rw [h1]
  exact Nat.le_mul_of_pos_left _ (Nat.pow_pos (by omega))
end Go.Proofs.YtebnjolkolobhaaGreatDoor
