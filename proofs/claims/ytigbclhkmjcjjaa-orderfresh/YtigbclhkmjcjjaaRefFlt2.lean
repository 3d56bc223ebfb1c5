/-
  Sums, products and quotients of words as rungs: in the document's way.
-/
import Derived.Test.YtigbclhkmjcjjaaRefFlt
namespace Go.Proofs.Ytigbclhkmjcjjaa.FL
set_option linter.unusedVariables false
open Ieee
theorem mul_rd {x y : Nat} (hx : x < inf) (hy : y < inf) : fmul x y = rd (2 * (mg x * mg y) + false.toNat) ((-149 + (ex x : Int)) + (-149 + (ex y : Int)) + 148) := by
  rw [fmul_is hx hy]
  have hv : V x * V y = mg x * mg y * 2 ^ (ex x + ex y) := by
    unfold V
    rw [Nat.pow_add]
    grind
  have h1 := rd_down (V x * V y) 149
  rw [← h1, hv, rd_scale]
  have h2 := rd_twice (mg x * mg y) ((-149 + (ex x : Int)) + (-149 + (ex y : Int)) + 148)
  rw [Bool.toNat_false, Nat.add_zero, Nat.mul_comm 2, h2]
  congr 1
  omega
theorem add_comm' {x y : Nat} (hx : x < inf) (hy : y < inf) : fadd x y = fadd y x := by rw [fadd_is hx hy, fadd_is hy hx, Nat.add_comm]
theorem add_V {x y : Nat} (hx : x < inf) (hy : y < inf) (h : ex y ≤ ex x) : fadd x y = rd (mg x * 2 ^ (ex x - ex y) + mg y) (ex y : Int) := by
  rw [fadd_is hx hy]
  have h1 := rd_up (mg x * 2 ^ (ex x - ex y) + mg y) (ex y)
  rw [h1]
  congr 1
  unfold V
  rw [Nat.add_mul, Nat.mul_assoc, ← Nat.pow_add, Nat.sub_add_cancel h]
theorem add_near {x y : Nat} (hx : x < inf) (hy : y < inf) (h : ex y ≤ ex x) : fadd x y = rd (2 * (mg x * 2 ^ (ex x - ex y) + mg y) + false.toNat) ((-149 + (ex y : Int)) + 148) := by
  rw [add_V hx hy h, Bool.toNat_false, Nat.add_zero, Nat.mul_comm 2, rd_twice]
  congr 1
  omega
/-- What lies far below changes nothing. -/
theorem rd_far {s t j e : Nat} (h1 : 8388608 ≤ s) (h2 : s < 16777216) (ht : 2 * t < 2 ^ j) : rd (s * 2 ^ j + t) ((e : Int) - j) = min (e * 8388608 + s) inf := by
  have hp := pow2 j
  have hs : 2 ^ 23 * 2 ^ j ≤ s * 2 ^ j := Nat.mul_le_mul_right _ (by omega)
  have hs2 : s * 2 ^ j + 2 ^ j ≤ 2 ^ 24 * 2 ^ j := by
    rw [← Nat.succ_mul]
    exact Nat.mul_le_mul_right _ (by omega)
  have hne : s * 2 ^ j + t ≠ 0 := by omega
  have hl : (s * 2 ^ j + t).log2 = 23 + j := by
    have b1 : 23 + j ≤ (s * 2 ^ j + t).log2 := (Nat.le_log2 hne).2 (by rw [Nat.pow_add]; omega)
    have b2 : (s * 2 ^ j + t).log2 < 24 + j := (Nat.log2_lt hne).2 (by rw [Nat.pow_add]; omega)
    omega
  rw [rd_is (E := e) (j := j) hne (by rw [hl]; omega) (by omega)]
  have : rne (s * 2 ^ j + t) j = s := by
    unfold rne
    rw [Nat.mul_comm s, Nat.mul_add_div hp, Nat.mul_add_mod, Nat.div_eq_of_lt (by omega), Nat.mod_eq_of_lt (by omega), if_neg (by omega)]
    rfl
  rw [this]
theorem mg_ge {x : Nat} (h : 0 < ex x) : 8388608 ≤ mg x := by
  unfold ex at h
  unfold mg
  rw [if_neg (by omega)]
  omega
theorem add_far {x y low : Nat} {rest : Bool} (hx : x < inf) (hy : y < inf) (h : ex y + 38 < ex x) (hl : low < 16777216) : fadd x y = rd (2 * (mg x * 2 ^ 38 + low) + rest.toNat) ((-149 + (ex x : Int) - 38) + 148) := by
  have h1 := mg_ge (x := x) (by omega)
  have h2 := mg_lt x
  have h3 := mg_lt y
  have hr : rest.toNat ≤ 1 := by cases rest <;> decide
  rw [add_V hx hy (by omega)]
  have hp : 2 ^ 39 ≤ 2 ^ (ex x - ex y) := Nat.pow_le_pow_right (by omega) (by omega)
  have a := rd_far (s := mg x) (t := mg y) (j := ex x - ex y) (e := ex x) h1 (by omega) (by omega)
  rw [show (ex x : Int) - ((ex x - ex y : Nat) : Int) = (ex y : Int) by omega] at a
  have b := rd_far (s := mg x) (t := 2 * low + rest.toNat) (j := 39) (e := ex x) h1 (by omega) (by omega)
  rw [a, ← b]
  congr 1
  · omega
  · omega
/- Quotients. -/
def stk (N D : Nat) : Nat := 2 * (N / D) + (N % D != 0).toNat
/-- The whole number nearest to N / D, of two equally near ones the even one. -/
def rnq (N D : Nat) : Nat := N / D + if D < 2 * (N % D) ∨ (D = 2 * (N % D) ∧ N / D % 2 = 1) then 1 else 0
theorem rnq_scale (N D k : Nat) : rnq (N * 2 ^ k) (D * 2 ^ k) = rnq N D := by
  unfold rnq
  have hk := pow2 k
  rw [Nat.mul_div_mul_right _ _ hk, Nat.mul_mod_mul_right]
  have e2 : D * 2 ^ k < 2 * (N % D * 2 ^ k) ↔ D < 2 * (N % D) := by
    rw [← Nat.mul_assoc]
    exact Nat.mul_lt_mul_right hk
  have e3 : D * 2 ^ k = 2 * (N % D * 2 ^ k) ↔ D = 2 * (N % D) := by
    rw [← Nat.mul_assoc]
    exact Nat.mul_left_inj (by omega)
  simp only [e2, e3]
theorem rne_stk {N D i : Nat} (hD : 0 < D) (hi : 0 < i) : rne (stk N D) (i + 1) = rnq N (D * 2 ^ i) := by
  obtain ⟨T, rfl⟩ : ∃ T, i = T + 1 := ⟨i - 1, by omega⟩
  have ep : 2 ^ (T + 1) = 2 * 2 ^ T := by rw [Nat.pow_succ]; omega
  have hp := pow2 T
  have hN := Nat.div_add_mod N D
  have hr := Nat.mod_lt N hD
  unfold stk rnq
  have H := half1_is (sig := N / D) (S := T + 1) (N % D != 0) (by omega)
  rw [H]
  unfold half1
  rw [Nat.add_sub_cancel]
  have q1 : N / (D * 2 ^ (T + 1)) = N / D / 2 ^ (T + 1) := (Nat.div_div_eq_div_mul N D _).symm
  have q2 : N % (D * 2 ^ (T + 1)) = N % D + D * (N / D % 2 ^ (T + 1)) := Nat.mod_mul
  rw [q1, q2]
  generalize N / D % 2 ^ (T + 1) = b
  generalize N / D / 2 ^ (T + 1) % 2 = par
  generalize N % D = r at *
  rw [ep]
  generalize 2 ^ T = h at *
  congr 1
  have dh : D * (2 * h) = 2 * (D * h) := by rw [Nat.mul_left_comm]
  rw [dh]
  by_cases r0 : r = 0
  · subst r0
    simp only [bne_self_eq_false, Bool.false_eq_true, false_or, Nat.zero_add]
    have e1 : 2 * (D * h) < 2 * (D * b) ↔ h < b := by
      constructor
      · intro c; exact Nat.lt_of_mul_lt_mul_left (a := D) (by omega)
      · intro c; have := Nat.mul_lt_mul_of_pos_left c hD; omega
    have e2 : 2 * (D * h) = 2 * (D * b) ↔ b = h := by
      constructor
      · intro c; exact (Nat.eq_of_mul_eq_mul_left hD (by omega : D * h = D * b)).symm
      · intro c; rw [c]
    simp only [e1, e2]
  · have hb : (r != 0) = true := by simpa using r0
    simp only [hb, true_or, and_true]
    have e1 : 2 * (D * h) < 2 * (r + D * b) ↔ (h < b ∨ b = h) := by
      constructor
      · intro c
        rcases Nat.lt_or_ge b h with d | d
        · exfalso
          have := Nat.mul_le_mul_left D (show b + 1 ≤ h from d)
          rw [Nat.mul_add, Nat.mul_one] at this
          omega
        · omega
      · intro c
        have := Nat.mul_le_mul_left D (show h ≤ b by omega)
        omega
    have e2 : ¬ 2 * (D * h) = 2 * (r + D * b) := by
      intro c
      rcases Nat.lt_or_ge b h with d | d
      · have := Nat.mul_le_mul_left D (show b + 1 ≤ h from d)
        rw [Nat.mul_add, Nat.mul_one] at this
        omega
      · have := Nat.mul_le_mul_left D d
        omega
    by_cases c : h < b ∨ b = h
    · rw [if_pos c, if_pos (.inl (e1.2 c))]
    · rw [if_neg c, if_neg (fun z => z.elim (fun y => c (e1.1 y)) (fun y => e2 y.1))]
theorem log2_stk {N D : Nat} (h : 0 < N / D) : (stk N D).log2 = (N / D).log2 + 1 := by
  unfold stk
  have hr : (N % D != 0).toNat ≤ 1 := by cases (N % D != 0) <;> decide
  have h0 : N / D ≠ 0 := by omega
  generalize N / D = q at *
  generalize (N % D != 0).toNat = r at *
  have a1 := Nat.log2_self_le h0
  have a2 := log2_lt q
  have hne : 2 * q + r ≠ 0 := by omega
  have b1 : q.log2 + 1 ≤ (2 * q + r).log2 := (Nat.le_log2 hne).2 (by rw [Nat.pow_succ]; omega)
  have b2 : (2 * q + r).log2 < q.log2 + 1 + 1 := (Nat.log2_lt hne).2 (by rw [Nat.pow_succ 2 (q.log2 + 1)]; omega)
  omega
theorem log2_quo {N D : Nat} (hD : 0 < D) (h : 0 < N / D) (k : Nat) : (N * 2 ^ k / D).log2 = (N / D).log2 + k ∧ 0 < N * 2 ^ k / D := by
  have h0 : N / D ≠ 0 := by omega
  have a1 := Nat.log2_self_le h0
  have a2 := log2_lt (N / D)
  rw [Nat.le_div_iff_mul_le hD] at a1
  rw [Nat.div_lt_iff_lt_mul hD] at a2
  have hk := pow2 k
  have c1 : 2 ^ ((N / D).log2 + k) ≤ N * 2 ^ k / D := by
    rw [Nat.le_div_iff_mul_le hD, Nat.pow_add, Nat.mul_right_comm]
    exact Nat.mul_le_mul_right _ a1
  have c2 : N * 2 ^ k / D < 2 ^ ((N / D).log2 + k + 1) := by
    rw [Nat.div_lt_iff_lt_mul hD, show (N / D).log2 + k + 1 = (N / D).log2 + 1 + k by omega, Nat.pow_add, Nat.mul_right_comm]
    exact Nat.mul_lt_mul_of_pos_right a2 hk
  have hp := pow2 ((N / D).log2 + k)
  have hne : N * 2 ^ k / D ≠ 0 := by omega
  have b1 := (Nat.le_log2 hne).2 c1
  have b2 := (Nat.log2_lt hne).2 c2
  omega
/-- More places change nothing. -/
theorem rd_stk {N D : Nat} {c : Int} (hD : 0 < D) (h : 0 < N / D) (hj : 2 ≤ max (((N / D).log2 : Int) + 1 + c - 23) 0 - c) (k : Nat) : rd (stk (N * 2 ^ k) D) (c - k) = rd (stk N D) c := by
  obtain ⟨l1, l2⟩ := log2_quo hD h k
  have e1 := log2_stk h
  have e2 := log2_stk l2
  have n1 : stk N D ≠ 0 := by unfold stk; omega
  have n2 : stk (N * 2 ^ k) D ≠ 0 := by unfold stk; omega
  obtain ⟨E, hE⟩ : ∃ E : Nat, (E : Int) = max (((N / D).log2 : Int) + 1 + c - 23) 0 := ⟨(max (((N / D).log2 : Int) + 1 + c - 23) 0).toNat, by omega⟩
  obtain ⟨i, hi⟩ : ∃ i : Nat, (i : Int) + 2 = E - c := ⟨(E - c - 2).toNat, by omega⟩
  rw [rd_is (E := E) (j := i + 1 + 1) n1 (by rw [e1]; omega) (by omega), rd_is (E := E) (j := i + 1 + k + 1) n2 (by rw [e2, l1]; omega) (by omega)]
  rw [rne_stk hD (by omega), rne_stk hD (by omega), Nat.pow_add, ← Nat.mul_assoc, rnq_scale]
theorem rd_two {D m a b : Nat} {e : Int} (hD : 0 < D) (h : 0 < m * 2 ^ a / D) (hj : 2 ≤ max (((m * 2 ^ a / D).log2 : Int) + 1 + (e - a) - 23) 0 - (e - a)) (hab : a ≤ b) : rd (stk (m * 2 ^ b) D) (e - b) = rd (stk (m * 2 ^ a) D) (e - a) := by
  obtain ⟨k, rfl⟩ : ∃ k, b = a + k := ⟨b - a, by omega⟩
  have := rd_stk hD h hj k
  rw [← this, Nat.mul_assoc, ← Nat.pow_add]
  congr 1
  omega
theorem qn_stk (m k : Nat) : qn m k = stk (m * 2 ^ k) 15938355 := rfl
theorem div_rd {x : Nat} (hx : x < inf) (h0 : 0 < x) : fdiv x tDCY = rd (2 * (mg x * 2 ^ 38 / 15938355) + (mg x * 2 ^ 38 % 15938355 != 0).toNat) ((-149 + (ex x : Int) - 38 - (-24)) + 148) := by
  have hd := div_is hx
  have m0 : mg x ≠ 0 := by
    unfold mg
    split <;> omega
  have hm := mg_lt x
  have hl : (mg x).log2 < 24 := (Nat.log2_lt m0).2 hm
  have hs := Nat.log2_self_le m0
  have hex : ex x = 0 ∨ 8388608 ≤ mg x := by
    rcases Nat.eq_zero_or_pos (ex x) with c | c
    · exact .inl c
    · exact .inr (mg_ge c)
  obtain ⟨a, ha⟩ : ∃ a, 25 + 23 - (mg x).log2 = a := ⟨_, rfl⟩
  rw [ha] at hd
  have e1 : fdiv x tDCY = rd (stk (mg x * 2 ^ a) 15938355) ((ex x : Int) + 23 - a) := by
    rw [hd, qn_stk]
    unfold rd
    congr 1
    omega
  rw [e1]
  show _ = rd (stk (mg x * 2 ^ 38) 15938355) _
  rw [show (-149 + (ex x : Int) - 38 - (-24)) + 148 = (ex x : Int) + 23 - (38 : Nat) by omega]
  have hbig : 2 ^ 48 ≤ mg x * 2 ^ a := by
    have : 2 ^ 48 = 2 ^ (mg x).log2 * 2 ^ a := by rw [← Nat.pow_add]; congr 1; omega
    rw [this]
    exact Nat.mul_le_mul_right _ hs
  have q1 : 2 ^ 24 ≤ mg x * 2 ^ a / 15938355 := by
    rw [Nat.le_div_iff_mul_le (by decide)]
    omega
  have l1 : 24 ≤ (mg x * 2 ^ a / 15938355).log2 := (Nat.le_log2 (by omega)).2 q1
  have q2 : 2 ^ 14 ≤ mg x * 2 ^ 38 / 15938355 := by
    rw [Nat.le_div_iff_mul_le (by decide)]
    omega
  have l2 : 14 ≤ (mg x * 2 ^ 38 / 15938355).log2 := (Nat.le_log2 (by omega)).2 q2
  have l3 : 8388608 ≤ mg x → 37 ≤ (mg x * 2 ^ 38 / 15938355).log2 := by
    intro c
    refine (Nat.le_log2 (by omega)).2 ?_
    rw [Nat.le_div_iff_mul_le (by decide)]
    omega
  have j1 : 2 ≤ max (((mg x * 2 ^ a / 15938355).log2 : Int) + 1 + ((ex x : Int) + 23 - a) - 23) 0 - ((ex x : Int) + 23 - a) := by
    generalize (mg x * 2 ^ a / 15938355).log2 = L at l1
    clear hd e1 hbig q1 q2 l2 l3 hs hm
    omega
  have j2 : 2 ≤ max (((mg x * 2 ^ 38 / 15938355).log2 : Int) + 1 + ((ex x : Int) + 23 - (38 : Nat)) - 23) 0 - ((ex x : Int) + 23 - (38 : Nat)) := by
    generalize (mg x * 2 ^ 38 / 15938355).log2 = L at l2 l3
    clear hd e1 hbig q1 q2 l1 j1 hs
    rcases hex with z | z
    · rw [z]; omega
    · have := l3 z
      omega
  have p1 : 0 < mg x * 2 ^ a / 15938355 := Nat.lt_of_lt_of_le (by decide) q1
  have p2 : 0 < mg x * 2 ^ 38 / 15938355 := Nat.lt_of_lt_of_le (by decide) q2
  rcases Nat.le_total a 38 with c | c
  · exact (rd_two (by decide) p1 j1 c).symm
  · exact rd_two (by decide) p2 j2 c
end Go.Proofs.Ytigbclhkmjcjjaa.FL
