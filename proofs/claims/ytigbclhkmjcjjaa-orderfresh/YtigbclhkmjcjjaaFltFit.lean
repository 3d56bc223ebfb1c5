/-
  What bumping and decaying do to float32 words that are not above the top.
-/
import Derived.Test.YtigbclhkmjcjjaaFltMath
import Derived.KernelRfl
namespace Go.Proofs.Ytigbclhkmjcjjaa.FL
set_option linter.unusedVariables false
open Ieee
def tTOP : Nat := 1621981420
def tSHR : Nat := 507307272
def tDCY : Nat := 1064514355
theorem tTOP_lt : tTOP < inf := by rw [inf_eq]; decide
theorem tSHR_lt : tSHR < inf := by rw [inf_eq]; decide
theorem tDCY_lt : tDCY < inf := by rw [inf_eq]; decide
theorem fmul_is {x y : Nat} (hx : x < inf) (hy : y < inf) : fmul x y = rq (V x * V y) 149 := by unfold fmul; rw [mul_fin hx hy]; rfl
theorem fadd_is {x y : Nat} (hx : x < inf) (hy : y < inf) : fadd x y = rq (V x + V y) 0 := by unfold fadd; rw [add_fin hx hy]; rfl
theorem fmul_mono {x y s : Nat} (h : x ≤ y) (hy : y < inf) (hs : s < inf) : fmul x s ≤ fmul y s := by
  rw [fmul_is (by omega) hs, fmul_is hy hs]
  exact rq_mono _ (Nat.mul_le_mul_right _ ((V_mono (by omega) (by omega)).2 h))
/-- Twice the top. -/
def tTOP2 : Nat := 1630370028
theorem tTOP2_lt : tTOP2 < inf := by rw [inf_eq]; decide
theorem top_twice : rq (V tTOP + V tTOP) 0 = tTOP2 := by kernel_rfl
theorem shr_top2 : decide (rq (V tTOP2 * V tSHR) 149 ≤ tTOP) = true := by kernel_rfl
theorem shr_top : decide (0 < rq (V tTOP * V tSHR) 149) = true := by kernel_rfl
theorem top_still : rq (V tTOP + 2 ^ 190) 0 = tTOP := by kernel_rfl
theorem shr_half : decide (0 < rq (2 ^ 190 * V tSHR) 149) = true := by kernel_rfl
theorem fadd_le {x r : Nat} (hx : x ≤ tTOP) (hr : r ≤ tTOP) : fadd x r ≤ tTOP2 := by
  have := tTOP_lt
  rw [fadd_is (by omega) (by omega), ← top_twice]
  exact rq_mono _ (Nat.add_le_add ((V_mono (by omega) (by omega)).2 hx) ((V_mono (by omega) (by omega)).2 hr))
theorem shr_le {x : Nat} (hx : x ≤ tTOP2) : fmul x tSHR ≤ tTOP := by
  have h := fmul_mono hx tTOP2_lt tSHR_lt
  rw [fmul_is tTOP2_lt tSHR_lt] at h
  have := of_decide_eq_true shr_top2
  omega
theorem shr_pos {x : Nat} (hx : tTOP < x) (hl : x < inf) : 0 < fmul x tSHR := by
  have h := fmul_mono (Nat.le_of_lt hx) hl tSHR_lt
  rw [fmul_is tTOP_lt tSHR_lt] at h
  have := of_decide_eq_true shr_top
  omega
/-- A rise that brings somebody above the top is not small. -/
theorem rise_pos {x r : Nat} (hx : x ≤ tTOP) (hr : r ≤ tTOP) (h : tTOP < fadd x r) : 0 < fmul r tSHR := by
  have ht := tTOP_lt
  have hb : 2 ^ 190 < V r := by
    refine Nat.lt_of_not_le fun c => ?_
    rw [fadd_is (by omega) (by omega)] at h
    have := rq_mono 0 (Nat.add_le_add ((V_mono (by omega) (by omega)).2 hx) c)
    rw [top_still] at this
    omega
  rw [fmul_is (by omega) tSHR_lt]
  have := rq_mono 149 (Nat.mul_le_mul_right (V tSHR) (Nat.le_of_lt hb))
  have := of_decide_eq_true shr_half
  omega
theorem rq_scale (m d : Nat) : rq (m * 2 ^ d) d = rq m 0 := by
  unfold rq
  by_cases h : m = 0
  · subst h; simp
  · have h2 : m * 2 ^ d ≠ 0 := Nat.mul_ne_zero h (Nat.ne_of_gt (pow2 d))
    rw [if_neg h2, if_neg h, log2_mul m d h, show m.log2 + d - d - 23 = m.log2 - 0 - 23 from by omega, rne_scale, Nat.add_zero]
theorem dcy_mg : mg tDCY = 15938355 := by kernel_rfl
theorem dcy_ex : ex tDCY = 125 := by kernel_rfl
theorem dcy_log : Nat.log2 15938355 = 23 := by kernel_rfl
theorem frac_is : single.fractionBits + 2 = 25 := by kernel_rfl
/-- What is written of a quotient. -/
def qn (m more : Nat) : Nat := 2 * (m * 2 ^ more / 15938355) + (m * 2 ^ more % 15938355 != 0).toNat
theorem div_is {x : Nat} (hx : x < inf) : fdiv x tDCY = single.nearest false (qn (mg x) (25 + 23 - (mg x).log2)) (-149 + (ex x : Int) - (-149 + 125) - ((25 + 23 - (mg x).log2 : Nat) : Int) - 1) := by
  unfold fdiv Format.div
  rw [read_fin hx, read_fin tDCY_lt, dcy_mg, dcy_ex, frac_is]
  simp only [Datum.quotient, dcy_log, Nat.shiftLeft_eq]
  rfl
theorem qn_bounds {m more : Nat} (h : 2 ^ 48 ≤ m * 2 ^ more) : m * 2 ^ more ≤ qn m more * 2 ^ 23 ∧ qn m more * 2 ^ 23 ≤ 2 * (m * 2 ^ more) := by
  unfold qn
  generalize m * 2 ^ more = D at *
  have hb : (D % 15938355 != 0).toNat ≤ 1 := by cases (D % 15938355 != 0) <;> decide
  generalize (D % 15938355 != 0).toNat = b at *
  have : (281474976710656 : Nat) ≤ D := h
  refine ⟨?_, ?_⟩
  · show D ≤ (2 * (D / 15938355) + b) * 8388608
    omega
  · show (2 * (D / 15938355) + b) * 8388608 ≤ 2 * D
    omega
theorem mg_lt (w : Nat) : mg w < 2 ^ 24 := by
  unfold mg
  split
  · show w < 16777216; omega
  · show 8388608 + w % 8388608 < 16777216; omega
theorem fdiv_bounds {x : Nat} (hx : x < inf) (h0 : 0 < x) : x ≤ fdiv x tDCY ∧ fdiv x tDCY ≤ rq (V x + V x) 0 := by
  have hm : mg x ≠ 0 := by
    unfold mg
    split
    · omega
    · omega
  have hl : (mg x).log2 < 24 := (Nat.log2_lt hm).2 (mg_lt x)
  have hlow : 2 ^ 48 ≤ mg x * 2 ^ (25 + 23 - (mg x).log2) := by
    have h1 : 2 ^ (mg x).log2 ≤ mg x := Nat.log2_self_le hm
    have h2 : 2 ^ 48 = 2 ^ (mg x).log2 * 2 ^ (25 + 23 - (mg x).log2) := by rw [← Nat.pow_add]; congr 1; omega
    rw [h2]
    exact Nat.mul_le_mul_right _ h1
  obtain ⟨q1, q2⟩ := qn_bounds hlow
  rw [div_is hx]
  have hV : V x = mg x * 2 ^ ex x := rfl
  generalize 25 + 23 - (mg x).log2 = more at *
  generalize qn (mg x) more = K at *
  generalize mg x = m at *
  generalize ex x = E at *
  have p23 := pow2 23
  by_cases c : more ≤ E + 23
  · obtain ⟨p, hp⟩ : ∃ p, E + 23 = more + p := ⟨E + 23 - more, by omega⟩
    rw [show (-149 + (E : Int) - (-149 + 125) - (more : Int) - 1) = -149 + (p : Int) from by omega, nearest_up]
    have a1 : V x ≤ K * 2 ^ p := by
      refine Nat.le_of_mul_le_mul_right (c := 2 ^ more) ?_ (pow2 more)
      have e1 : K * 2 ^ p * 2 ^ more = K * 2 ^ 23 * 2 ^ E := by rw [Nat.mul_assoc, Nat.mul_assoc, ← Nat.pow_add, ← Nat.pow_add]; congr 2; omega
      have e2 : V x * 2 ^ more = m * 2 ^ more * 2 ^ E := by rw [hV, Nat.mul_assoc, Nat.mul_assoc, Nat.mul_comm (2 ^ E)]
      rw [e1, e2]
      exact Nat.mul_le_mul_right _ q1
    have a2 : K * 2 ^ p ≤ V x + V x := by
      refine Nat.le_of_mul_le_mul_right (c := 2 ^ more) ?_ (pow2 more)
      have e1 : K * 2 ^ p * 2 ^ more = K * 2 ^ 23 * 2 ^ E := by rw [Nat.mul_assoc, Nat.mul_assoc, ← Nat.pow_add, ← Nat.pow_add]; congr 2; omega
      have e2 : (V x + V x) * 2 ^ more = 2 * (m * 2 ^ more) * 2 ^ E := by rw [← Nat.two_mul, hV, Nat.mul_assoc, Nat.mul_assoc, Nat.mul_assoc, Nat.mul_comm (2 ^ E), Nat.mul_assoc]
      rw [e1, e2]
      exact Nat.mul_le_mul_right _ q2
    refine ⟨?_, rq_mono 0 a2⟩
    have := rq_mono 0 a1
    rw [rq_V (by omega)] at this
    exact this
  · obtain ⟨d, hd⟩ : ∃ d, more = E + 23 + d := ⟨more - (E + 23), by omega⟩
    rw [show (-149 + (E : Int) - (-149 + 125) - (more : Int) - 1) = -149 - (d : Int) from by omega, nearest_down]
    have e0 : m * 2 ^ more = V x * 2 ^ d * 2 ^ 23 := by
      rw [hV, hd, Nat.mul_assoc, Nat.mul_assoc, ← Nat.pow_add, ← Nat.pow_add]
      congr 2
      omega
    rw [e0] at q1 q2
    have a1 : V x * 2 ^ d ≤ K := Nat.le_of_mul_le_mul_right q1 p23
    have a2 : K ≤ (V x + V x) * 2 ^ d := by
      refine Nat.le_of_mul_le_mul_right (c := 2 ^ 23) ?_ p23
      refine Nat.le_trans q2 (Nat.le_of_eq ?_)
      rw [← Nat.two_mul, Nat.mul_assoc, Nat.mul_assoc, Nat.mul_assoc]
    have b1 := rq_mono d a1
    have b2 := rq_mono d a2
    rw [rq_scale] at b1 b2
    rw [rq_V (by omega)] at b1
    exact ⟨b1, b2⟩
theorem fdiv_le {r : Nat} (h0 : 0 < r) (hr : r ≤ tTOP) : fdiv r tDCY ≤ tTOP2 := by
  have ht := tTOP_lt
  refine Nat.le_trans (fdiv_bounds (by omega) h0).2 ?_
  rw [← top_twice]
  exact rq_mono _ (Nat.add_le_add ((V_mono (by omega) (by omega)).2 hr) ((V_mono (by omega) (by omega)).2 hr))
end Go.Proofs.Ytigbclhkmjcjjaa.FL
