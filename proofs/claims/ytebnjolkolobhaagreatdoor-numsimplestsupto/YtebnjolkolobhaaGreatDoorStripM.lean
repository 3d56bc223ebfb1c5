/-
  Stripping a factor off a number, by squares of squares; what is missing of a power of ten (for Decimal).
-/
import Derived.Test.YtebnjolkolobhaaGreatDoorAllMath
/- ==== StripMath ==== -/
namespace Go.Proofs.YtebnjolkolobhaaGreatDoor.M
set_option linter.unusedVariables false
/-- n is p^c times r, and p does not divide r. -/
def IsStrip (p n c r : Nat) : Prop := n = p ^ c * r ∧ ¬ p ∣ r
theorem strip_unique {p n c r c' r' : Nat} (hp : 1 < p) (h : IsStrip p n c r) (h' : IsStrip p n c' r') : c = c' ∧ r = r' := by
  have key : ∀ {c r c' r' : Nat}, IsStrip p n c r → IsStrip p n c' r' → c ≤ c' → c = c' ∧ r = r' := by
    intro c r c' r' h h' hle
    obtain ⟨k, rfl⟩ : ∃ k, c' = c + k := ⟨c' - c, by omega⟩
    have e : p ^ c * r = p ^ c * (p ^ k * r') := by rw [← h.1, h'.1, Nat.pow_add, Nat.mul_assoc]
    have e2 : r = p ^ k * r' := Nat.eq_of_mul_eq_mul_left (Nat.pow_pos (by omega)) e
    rcases Nat.eq_zero_or_pos k with hk | hk
    · subst hk; exact ⟨rfl, by simpa using e2⟩
    · exfalso
      apply h.2
      rw [e2]
      exact Nat.dvd_trans (Nat.dvd_trans (by simp) (Nat.pow_dvd_pow p hk)) (Nat.dvd_mul_right _ _)
  rcases Nat.le_total c c' with g | g
  · exact key h h' g
  · obtain ⟨a, b⟩ := key h' h g
    exact ⟨a.symm, b.symm⟩
/-- One step by a square of squares: what is left is no longer divided by it. -/
theorem strip_yes {p a i : Nat} (hp : 1 < p) (h : ¬ p ^ (2 ^ (i + 1)) ∣ a) (hd : a % p ^ (2 ^ i) = 0) : a = p ^ (2 ^ i) * (a / p ^ (2 ^ i)) ∧ ¬ p ^ (2 ^ i) ∣ a / p ^ (2 ^ i) := by
  have hdv : p ^ (2 ^ i) ∣ a := Nat.dvd_of_mod_eq_zero hd
  have e : a = p ^ (2 ^ i) * (a / p ^ (2 ^ i)) := (Nat.mul_div_cancel' hdv).symm
  refine ⟨e, fun hq => h ?_⟩
  obtain ⟨k, hk⟩ := hq
  refine ⟨k, ?_⟩
  have e2 : 2 ^ (i + 1) = 2 ^ i + 2 ^ i := by rw [Nat.pow_succ]; omega
  rw [e, hk, e2, Nat.pow_add, Nat.mul_assoc]
theorem strip_no {p a i : Nat} (hd : a % p ^ (2 ^ i) ≠ 0) : ¬ p ^ (2 ^ i) ∣ a := fun h => hd (Nat.mod_eq_zero_of_dvd h)
theorem strip_top {p a m : Nat} (ha : 0 < a) (h : a < p ^ (2 ^ m)) : ¬ p ^ (2 ^ m) ∣ a := fun hd => by
  have := Nat.le_of_dvd ha hd
  omega
/-- What is missing of a power of ten. -/
theorem missing_ten (t f : Nat) : 2 ^ t * 5 ^ f * (2 ^ (max t f - t) * 5 ^ (max t f - f)) = 10 ^ max t f := by
  have e : (10 : Nat) = 2 * 5 := rfl
  have h1 : 2 ^ t * 2 ^ (max t f - t) = 2 ^ max t f := by rw [← Nat.pow_add]; congr 1; omega
  have h2 : 5 ^ f * 5 ^ (max t f - f) = 5 ^ max t f := by rw [← Nat.pow_add]; congr 1; omega
  rw [e, Nat.mul_pow, ← h1, ← h2]
  ac_rfl
theorem over_ten (n t f : Nat) : n * 10 ^ max t f / (2 ^ t * 5 ^ f) = n * (2 ^ (max t f - t) * 5 ^ (max t f - f)) := by
  rw [← missing_ten t f]
  have hp : 0 < 2 ^ t * 5 ^ f := Nat.mul_pos (Nat.pow_pos (by decide)) (Nat.pow_pos (by decide))
  have e : n * (2 ^ t * 5 ^ f * (2 ^ (max t f - t) * 5 ^ (max t f - f))) = 2 ^ t * 5 ^ f * (n * (2 ^ (max t f - t) * 5 ^ (max t f - f))) := by ac_rfl
  rw [e, Nat.mul_div_cancel_left _ hp]
end Go.Proofs.YtebnjolkolobhaaGreatDoor.M
