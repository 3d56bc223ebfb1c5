/-
  The document's float.go in plain numbers: the rung nearest to m times 2^q units, by halving and rounding once; sums, products and quotients of words are such rungs.
-/
import Derived.Test.YtigbclhkmjcjjaaFltFit
namespace Go.Proofs.Ytigbclhkmjcjjaa.FL
set_option linter.unusedVariables false
open Ieee
/-- The rung nearest to m times 2^q units. -/
def rd (m : Nat) (q : Int) : Nat := single.nearest false m (-149 + q)
theorem rd_zero (q : Int) : rd 0 q = 0 := by
  unfold rd Format.nearest
  rw [if_pos rfl, word_false]
theorem rd_up (m p : Nat) : rd m (p : Int) = rq (m * 2 ^ p) 0 := nearest_up m p
theorem rd_down (m d : Nat) : rd m (-(d : Int)) = rq m d := by
  have := nearest_down m d
  unfold rd
  rw [show (-149 : Int) + -(d : Int) = -149 - (d : Int) by omega]
  exact this
/-- Where the rung lies. -/
theorem rd_is {m : Nat} {q : Int} {E j : Nat} (h : m ≠ 0) (hE : (E : Int) = max ((m.log2 : Int) + q - 23) 0) (hj : (j : Int) = E - q) : rd m q = min (E * 8388608 + rne m j) inf := by
  rcases Int.lt_or_le q 0 with c | c
  · obtain ⟨d, rfl⟩ : ∃ d : Nat, q = -(d : Int) := ⟨(-q).toNat, by omega⟩
    rw [rd_down]
    unfold rq
    rw [if_neg h, show m.log2 - d - 23 = E by omega, show E + d = j by omega]
  · obtain ⟨p, rfl⟩ : ∃ p : Nat, q = (p : Int) := ⟨q.toNat, by omega⟩
    rw [rd_up]
    unfold rq
    rw [if_neg (Nat.mul_ne_zero h (by have := pow2 p; omega)), log2_mul m p h, show m.log2 + p - 0 - 23 = E by omega, Nat.add_zero]
    have := rne_scale m p j
    rw [show j + p = E by omega] at this
    rw [this]
theorem rd_exact {m p E : Nat} (h : m ≠ 0) (hE : (E : Int) = max ((m.log2 : Int) + p - 23) 0) (hle : E ≤ p) : rd m (p : Int) = min (E * 8388608 + m * 2 ^ (p - E)) inf := by
  rw [rd_up]
  unfold rq
  rw [if_neg (Nat.mul_ne_zero h (by have := pow2 p; omega)), log2_mul m p h, show m.log2 + p - 0 - 23 = E by omega, Nat.add_zero, rne_up m p E hle]
theorem rd_scale (m k : Nat) (q : Int) : rd (m * 2 ^ k) q = rd m (q + k) := by
  by_cases h : m = 0
  · subst h; rw [Nat.zero_mul, rd_zero, rd_zero]
  · have h' : m * 2 ^ k ≠ 0 := Nat.mul_ne_zero h (by have := pow2 k; omega)
    have hl := log2_mul m k h
    obtain ⟨E, hE⟩ : ∃ E : Nat, (E : Int) = max ((m.log2 : Int) + (q + k) - 23) 0 := ⟨(max ((m.log2 : Int) + (q + k) - 23) 0).toNat, by omega⟩
    by_cases c : (E : Int) ≤ q + k
    · obtain ⟨p, hp⟩ : ∃ p : Nat, q + k = (p : Int) := ⟨(q + k).toNat, by omega⟩
      rw [hp, rd_exact (E := E) h (by omega) (by omega)]
      by_cases c2 : 0 ≤ (E : Int) - q
      · obtain ⟨j, hj⟩ : ∃ j : Nat, (j : Int) = E - q := ⟨(E - q).toNat, by omega⟩
        rw [rd_is (E := E) (j := j) h' (by rw [hl]; omega) hj]
        have := rne_up m k j (by omega)
        rw [this, show k - j = p - E by omega]
      · obtain ⟨p2, hp2⟩ : ∃ p2 : Nat, q = (p2 : Int) := ⟨q.toNat, by omega⟩
        subst hp2
        rw [rd_exact (E := E) h' (by rw [hl]; omega) (by omega), Nat.mul_assoc, ← Nat.pow_add, show k + (p2 - E) = p - E by omega]
    · obtain ⟨j, hj⟩ : ∃ j : Nat, (j : Int) = E - (q + k) := ⟨(E - (q + k)).toNat, by omega⟩
      rw [rd_is (E := E) (j := j) h (by omega) hj, rd_is (E := E) (j := j + k) h' (by rw [hl]; omega) (by omega), rne_scale]
/-- A rung's own number. -/
theorem rd_fin {s p : Nat} (h0 : s ≠ 0) (h1 : s < 16777216) (h2 : 8388608 ≤ s ∨ p = 0) : rd s (p : Int) = min (p * 8388608 + s) inf := by
  have l1 : s.log2 < 24 := (Nat.log2_lt h0).2 (by omega)
  have hp : ∃ E : Nat, E = p ∧ (E : Int) = max ((s.log2 : Int) + p - 23) 0 := by
    refine ⟨p, rfl, ?_⟩
    rcases h2 with h2 | h2
    · have : 23 ≤ s.log2 := (Nat.le_log2 h0).2 (by omega)
      omega
    · omega
  obtain ⟨E, rfl, hE⟩ := hp
  rw [rd_exact h0 hE (Nat.le_refl _), Nat.sub_self, Nat.pow_zero, Nat.mul_one]
theorem rd_twice (s : Nat) (q : Int) : rd (s * 2) q = rd s (q + 1) := by
  have := rd_scale s 1 q
  rw [Nat.pow_one] at this
  exact this
theorem shr_ge (sig k : Nat) : 16777216 ≤ sig / 2 ^ k ↔ k < sig.log2 - 23 := by
  by_cases h : sig = 0
  · subst h; simp
  · rw [Nat.le_div_iff_mul_le (pow2 k)]
    have e : 16777216 * 2 ^ k = 2 ^ (24 + k) := by rw [Nat.pow_add]
    rw [e, ← Nat.le_log2 h]
    omega
/-- How far to halve. -/
def sh (sig : Nat) (exp : Int) : Nat := max (sig.log2 - 23) (-149 - exp).toNat
theorem sh_iff (sig k : Nat) (exp : Int) : (16777216 ≤ sig / 2 ^ k ∨ exp + k < -149) ↔ k < sh sig exp := by
  rw [shr_ge]
  unfold sh
  omega
/-- What is left is rounded. -/
def half1 (sig S : Nat) (rest : Bool) : Nat := sig / 2 ^ S + if 2 ^ (S - 1) < sig % 2 ^ S ∨ (sig % 2 ^ S = 2 ^ (S - 1) ∧ (rest = true ∨ sig / 2 ^ S % 2 = 1)) then 1 else 0
theorem half1_is {sig S : Nat} (rest : Bool) (hS : 0 < S) : rne (2 * sig + rest.toNat) (S + 1) = half1 sig S rest := by
  obtain ⟨T, rfl⟩ : ∃ T, S = T + 1 := ⟨S - 1, by omega⟩
  unfold rne half1
  rw [Nat.add_sub_cancel]
  have hr : rest.toNat ≤ 1 := by cases rest <;> decide
  have e1 : 2 ^ (T + 1 + 1) = 2 * 2 ^ (T + 1) := by rw [Nat.pow_succ 2 (T + 1)]; omega
  have e2 : 2 ^ (T + 1) = 2 * 2 ^ T := by rw [Nat.pow_succ 2 T]; omega
  have hp := pow2 (T + 1)
  have hd := Nat.div_add_mod sig (2 ^ (T + 1))
  have hm := Nat.mod_lt sig hp
  have q1 : (2 * sig + rest.toNat) / 2 ^ (T + 1 + 1) = sig / 2 ^ (T + 1) := by
    rw [e1, ← Nat.div_div_eq_div_mul, show (2 * sig + rest.toNat) / 2 = sig by omega]
  have q2 : (2 * sig + rest.toNat) % 2 ^ (T + 1 + 1) = 2 * (sig % 2 ^ (T + 1)) + rest.toNat := by
    rw [e1, Nat.mod_mul, show (2 * sig + rest.toNat) / 2 = sig by omega]
    omega
  rw [q1, q2, e1, e2]
  generalize sig % (2 * 2 ^ T) = lost
  generalize sig / (2 * 2 ^ T) = q
  generalize 2 ^ T = H
  congr 1
  cases rest
  · simp only [Bool.toNat_false, Bool.false_eq_true, false_or, Nat.add_zero]
    by_cases c : H < lost
    · rw [if_pos (.inl (by omega)), if_pos (.inl c)]
    · by_cases c2 : lost = H ∧ q % 2 = 1
      · rw [if_pos (.inr ⟨by omega, c2.2⟩), if_pos (.inr c2)]
      · rw [if_neg (by omega), if_neg (by omega)]
  · simp only [Bool.toNat_true, true_or, and_true]
    by_cases c : H < lost ∨ lost = H
    · rw [if_pos (.inl (by omega)), if_pos c]
    · rw [if_neg (by omega), if_neg c]
theorem half1_le {sig S : Nat} {exp : Int} (rest : Bool) (h : sh sig exp = S) : half1 sig S rest ≤ 16777216 := by
  have : ¬ 16777216 ≤ sig / 2 ^ S := fun c => by
    have := (sh_iff sig S exp).1 (.inl c)
    omega
  unfold half1
  split <;> omega
/-- Halved and rounded once it is the rung. -/
theorem rd_half {sig S : Nat} {exp : Int} {rest : Bool} (h : sh sig exp = S) (hS : 0 < S) : rd (half1 sig S rest) (exp + S + 149) = rd (2 * sig + rest.toNat) (exp + 148) := by
  have hr : rest.toNat ≤ 1 := by cases rest <;> decide
  by_cases h0 : sig = 0
  · subst h0
    have e : half1 0 S rest = 0 := by
      unfold half1
      have := pow2 (S - 1)
      rw [if_neg (by simp; omega)]
      simp
    rw [e, rd_zero]
    obtain ⟨c, hc⟩ : ∃ c : Nat, exp + 148 = -(c : Int) := ⟨(-(exp + 148)).toNat, by unfold sh at h; simp at h; omega⟩
    have hc2 : 1 < c := by unfold sh at h; simp at h; omega
    rw [hc, rd_down, Nat.mul_zero, Nat.zero_add]
    cases rest
    · rfl
    · show 0 = rq 1 c
      unfold rq
      rw [if_neg (by decide), show Nat.log2 1 = 0 by decide, show 0 - c - 23 = 0 by omega]
      unfold rne
      have h1 : (1 : Nat) < 2 ^ c := Nat.one_lt_two_pow (by omega)
      have h2 : 2 < 2 ^ c := by
        have : 2 ^ 2 ≤ 2 ^ c := Nat.pow_le_pow_right (by omega) (by omega)
        omega
      simp only [Nat.zero_add]
      rw [Nat.div_eq_of_lt h1, Nat.mod_eq_of_lt h1, if_neg (by omega)]
      simp
  · have hl : (2 * sig + rest.toNat).log2 = sig.log2 + 1 := by
      have a1 := Nat.log2_self_le h0
      have a2 := log2_lt sig
      have hne : 2 * sig + rest.toNat ≠ 0 := by omega
      have b1 : sig.log2 + 1 ≤ (2 * sig + rest.toNat).log2 := (Nat.le_log2 hne).2 (by rw [Nat.pow_succ]; omega)
      have b2 : (2 * sig + rest.toNat).log2 < sig.log2 + 1 + 1 := (Nat.log2_lt hne).2 (by rw [Nat.pow_succ 2 (sig.log2 + 1)]; omega)
      omega
    obtain ⟨E, hE⟩ : ∃ E : Nat, (E : Int) = exp + S + 149 := ⟨(exp + S + 149).toNat, by unfold sh at h; omega⟩
    have R := rd_is (m := 2 * sig + rest.toNat) (q := exp + 148) (E := E) (j := S + 1) (by omega) (by rw [hl]; unfold sh at h; omega) (by omega)
    rw [half1_is rest hS] at R
    rw [R, ← hE]
    have hle := half1_le rest h
    generalize hh : half1 sig S rest = m at *
    by_cases m0 : m = 0
    · subst m0
      rw [rd_zero]
      by_cases e0 : E = 0
      · rw [e0]; simp
      · exfalso
        -- above the least place the top bit stays
        have hs : sh sig exp = sig.log2 - 23 := by unfold sh at *; omega
        have : 8388608 ≤ sig / 2 ^ S := by
          rw [Nat.le_div_iff_mul_le (pow2 S), show 8388608 * 2 ^ S = 2 ^ (23 + S) by rw [Nat.pow_add], ← Nat.le_log2 h0]
          omega
        unfold half1 at hh
        omega
    · by_cases m1 : m = 16777216
      · rw [m1]
        have e2 : rd 16777216 (E : Int) = rd 8388608 ((E + 1 : Nat) : Int) := by
          have := rd_twice 8388608 (E : Int)
          rw [show 8388608 * 2 = 16777216 by decide] at this
          rw [this]
          rfl
        rw [e2, rd_fin (by decide) (by decide) (.inl (Nat.le_refl _)), show (E + 1) * 8388608 + 8388608 = E * 8388608 + 16777216 by omega]
      · refine rd_fin m0 (by omega) ?_
        by_cases e0 : E = 0
        · exact .inr e0
        · left
          have hs : sh sig exp = sig.log2 - 23 := by unfold sh at *; omega
          have : 8388608 ≤ sig / 2 ^ S := by
            rw [Nat.le_div_iff_mul_le (pow2 S), show 8388608 * 2 ^ S = 2 ^ (23 + S) by rw [Nat.pow_add], ← Nat.le_log2 h0]
            omega
          unfold half1 at hh
          omega
/-- Too far down there is nothing. -/
theorem rd_none {m : Nat} {q : Int} (hm : m < 2 ^ 63) (hq : q ≤ -64) : rd m q = 0 := by
  obtain ⟨d, rfl⟩ : ∃ d : Nat, q = -(d : Int) := ⟨(-q).toNat, by omega⟩
  rw [rd_down]
  unfold rq
  by_cases h0 : m = 0
  · rw [if_pos h0]
  · rw [if_neg h0]
    have l : m.log2 < 63 := (Nat.log2_lt h0).2 hm
    rw [show m.log2 - d - 23 = 0 by omega, Nat.zero_mul, Nat.zero_add, Nat.zero_add]
    unfold rne
    have h2 : 2 ^ 64 ≤ 2 ^ d := Nat.pow_le_pow_right (by omega) (by omega)
    have e : 2 ^ 64 = 2 * 2 ^ 63 := by decide
    rw [Nat.div_eq_of_lt (by omega), Nat.mod_eq_of_lt (by omega), if_neg (by omega)]
    simp
end Go.Proofs.Ytigbclhkmjcjjaa.FL
