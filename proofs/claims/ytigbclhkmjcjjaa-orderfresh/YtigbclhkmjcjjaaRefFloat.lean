/-
  The document's FloatMul, FloatQuo and FloatAdd are the words' product, quotient and sum.
-/
import Derived.Test.YtigbclhkmjcjjaaRefRound
namespace Go.Proofs.Ytigbclhkmjcjjaa
open Go.RowKit
set_option linter.unusedVariables false
theorem ex_lt {x : Nat} (hx : x < FL.inf) : FL.ex x ≤ 254 := by
  have := FL.inf_eq
  unfold FL.ex
  omega
set_option maxRecDepth 100000 in
set_option maxHeartbeats 4000000 in
theorem rmul_calls10 (w : World) (x y : Nat) (hx : x < FL.inf) (hy : y < FL.inf) : Calls Try.prog 72 #[.int .i64 (x : Int), .int .i64 (y : Int)] w fun e w' => e = .returned (.int .i64 (FL.fmul x y : Nat)) ∧ w' = w := by
  have P1 := parts_calls w x hx
  have P2 := parts_calls w y hy
  have m1 : FL.mg x < 16777216 := FL.mg_lt x
  have m2 : FL.mg y < 16777216 := FL.mg_lt y
  have b1 := ex_lt hx
  have b2 := ex_lt hy
  have pr : FL.mg x * FL.mg y ≤ 16777216 * 16777216 := Nat.mul_le_mul (by omega) (by omega)
  have RC := round_calls w (FL.mg x * FL.mg y) ((-149 + (FL.ex x : Int)) + (-149 + (FL.ex y : Int))) false (by omega) (by omega) (by omega) (fun c => by cases c)
  rw [← FL.mul_rd hx hy] at RC
  obtain ⟨M, hM⟩ : ∃ M, FL.mg x * FL.mg y = M := ⟨_, rfl⟩
  have eM : (FL.mg x : Int) * (FL.mg y : Int) = (M : Int) := by rw [← hM]; simp
  rw [hM] at RC pr
  generalize FL.fmul x y = r at *
  generalize FL.mg x = mx at *
  generalize FL.mg y = my at *
  obtain ⟨ex1, he1⟩ : ∃ e : Int, -149 + (FL.ex x : Int) = e := ⟨_, rfl⟩
  obtain ⟨ey1, he2⟩ : ∃ e : Int, -149 + (FL.ex y : Int) = e := ⟨_, rfl⟩
  rw [he1] at P1 RC
  rw [he2] at P2 RC
  have q1 : -149 ≤ ex1 := by omega
  have q2 : ex1 ≤ 105 := by omega
  have q3 : -149 ≤ ey1 := by omega
  have q4 : ey1 ≤ 105 := by omega
  replace P1 := hide P1
  replace P2 := hide P2
  replace RC := hide RC
  clear he1 he2 b1 b2 hM hx hy m1 m2
  go_enter Try.func72, Try.ntmps72
  go_wp2_with fail
  refine P1.out.mono ?_
  rintro e w1 ⟨rfl, rfl⟩
  go_wp2_with fail
  refine P2.out.mono ?_
  rintro e w1 ⟨rfl, rfl⟩
  go_wp2_with fail
  refine RC.out.mono ?_
  rintro e w1 ⟨rfl, rfl⟩
  go_wp2
  go_ret
  exact ⟨rfl, rfl⟩
theorem quo_sh {x : Nat} (h0 : 0 < x) : 0 < FL.sh (FL.mg x * 2 ^ 38 / 15938355) (-149 + (FL.ex x : Int) - 38 - (-24)) := by
  unfold FL.sh
  rcases Nat.eq_zero_or_pos (FL.ex x) with c | c
  · rw [c]; omega
  · have hm := FL.mg_ge c
    have : 24 ≤ (FL.mg x * 2 ^ 38 / 15938355).log2 := by
      have h1 : 2 ^ 24 ≤ FL.mg x * 2 ^ 38 / 15938355 := by
        rw [Nat.le_div_iff_mul_le (by decide)]
        omega
      exact (Nat.le_log2 (by omega)).2 h1
    omega
set_option maxRecDepth 100000 in
set_option maxHeartbeats 4000000 in
theorem rquo_calls10 (w : World) (x : Nat) (hx : x < FL.inf) (h0 : 0 < x) : Calls Try.prog 63 #[.int .i64 (x : Int), .int .i64 1064514355] w fun e w' => e = .returned (.int .i64 (FL.fdiv x FL.tDCY : Nat)) ∧ ∃ m, w' = w.drewN m := by
  have P1 := parts_calls w x hx
  have P2 := parts_calls w FL.tDCY FL.tDCY_lt
  rw [FL.dcy_mg, FL.dcy_ex] at P2
  have m1 : FL.mg x < 16777216 := FL.mg_lt x
  have b1 := ex_lt hx
  have RC := fun W => round_calls W (FL.mg x * 2 ^ 38 / 15938355) (-149 + (FL.ex x : Int) - 38 - (-24)) (FL.mg x * 2 ^ 38 % 15938355 != 0) (by omega) (by omega) (by omega) (fun _ => quo_sh h0)
  rw [← FL.div_rd hx h0] at RC
  obtain ⟨n, hn⟩ : ∃ n, FL.mg x * 2 ^ 38 = n := ⟨_, rfl⟩
  rw [hn] at RC
  have en : (FL.mg x : Int) * 274877906944 = (n : Int) := by rw [← hn]; simp
  have hnb : n ≤ 4611686018427387904 := by omega
  generalize FL.fdiv x FL.tDCY = r at *
  generalize FL.mg x = mx at *
  obtain ⟨q, hq⟩ : ∃ q, n / 15938355 = q := ⟨_, rfl⟩
  obtain ⟨z, hz⟩ : ∃ z, n % 15938355 = z := ⟨_, rfl⟩
  rw [hq, hz] at RC
  have eq : (n : Int) / 15938355 = (q : Int) := by omega
  have ez : (n : Int) % 15938355 = (z : Int) := by omega
  have hqb : q ≤ 4611686018427387904 := by omega
  have hzb : z ≤ 15938355 := by omega
  have ezz : ((z : Int) != 0) = (z != 0) := by
    cases h : (z != 0)
    · simp at h; simp [h]
    · simp at h; simp; omega
  obtain ⟨ex1, he1⟩ : ∃ e : Int, -149 + (FL.ex x : Int) = e := ⟨_, rfl⟩
  rw [he1] at P1 RC
  have q1 : -149 ≤ ex1 := by omega
  have q2 : ex1 ≤ 105 := by omega
  replace P1 := hide P1
  replace P2 := hide (show Calls Try.prog 70 #[.int .i64 1064514355] w fun e w' => e = .returned (.tuple #[.int .i64 15938355, .int .i64 (-24)]) ∧ w' = w from P2)
  replace RC := hide RC
  clear he1 b1 hn hx m1 h0 hq hz
  go_enter Try.func63, Try.ntmps63
  go_wp2_with fail
  refine P1.out.mono ?_
  rintro e w1 ⟨rfl, rfl⟩
  go_wp2_with fail
  refine P2.out.mono ?_
  rintro e w1 ⟨rfl, rfl⟩
  go_wp2_with fail
  go_quiet ((go_at_call 71; exact Calls.quiet_of_same (unhide RC _)))
  go_wp2
  go_ret
  exact ⟨rfl, _, rfl⟩
end Go.Proofs.Ytigbclhkmjcjjaa
