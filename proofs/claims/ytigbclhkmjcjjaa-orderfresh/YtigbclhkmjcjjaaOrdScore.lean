/-
  The laws' score; what a bump does to the order of activities.
-/
import Derived.Test.YtigbclhkmjcjjaaOrdFit
namespace Go.Proofs.Ytigbclhkmjcjjaa
open Go.RowKit
set_option linter.unusedVariables false
set_option maxHeartbeats 1600000 in
theorem lscore_calls (w : World) (o : Oid) (s : OS) (h : Ord w o s) (f : Fit s) (v : Nat) (h1 : 1 ≤ v) (h2 : v ≤ o.n) :
    Calls Try.prog 10 #[optr o, .int .i64 v] w fun e w' => e = .returned (.int .i64 (s.A.getD v 0 : Nat)) ∧ w' = w := by
  have C := hide (score_calls w o s h v h1 h2)
  have N : Hid (∀ W : World, Calls Try.prog 12 #[.int .i64 0] W fun e w' => e = .returned (.int .i64 0) ∧ w' = W) := by
    intro W
    go_enter Try.func12, Try.ntmps12
    go_wp2
    go_ret
    exact ⟨rfl, rfl⟩
  have hx := f.act v
  rw [show TOPB = 1621981420 from rfl] at hx
  clear h f
  generalize s.A.getD v 0 = x at *
  go_enter Try.func10, Try.ntmps10
  go_wp2_with (first | (go_at_call 24; refine C.out.mono ?_; rintro e w1 ⟨rfl, rfl⟩) | (go_at_call 12; refine (N.out _).mono ?_; rintro e w2 ⟨rfl, rfl⟩))
  go_ret
  exact ⟨by go_num, rfl⟩
/-- What is raised falls behind nobody that it was not behind, and nobody's place among the others is turned. -/
theorem bump_keeps {s : OS} {v : Nat} (f : Fit s) (hv : v < s.A.length) {u x : Nat} (hu : u < s.A.length) (hx : x < s.A.length) (hne : x ≠ v) (h : s.A.getD x 0 ≤ s.A.getD u 0) : (s.bump v).1.getD x 0 ≤ (s.bump v).1.getD u 0 := by
  have l1 := FL.tTOP2_lt
  have lt : TOPB < FL.inf := fin_top
  have ev : (bumpA s v).getD v 0 = FL.fadd (s.A.getD v 0) s.r := by unfold bumpA; rw [O.set_eq hv]
  have le2 := FL.fadd_le (f.act v) f.rise
  have ge := (FL.add_ok (x := s.A.getD v 0) (y := s.r) (by have := f.act v; omega) (by have := f.rise; omega)).2.2
  have ex : (bumpA s v).getD x 0 = s.A.getD x 0 := by unfold bumpA; rw [O.set_ne hne]
  have hA : (bumpA s v).getD x 0 ≤ (bumpA s v).getD u 0 := by
    rw [ex]
    by_cases c : u = v
    · rw [c, ev]; rw [c] at h; omega
    · unfold bumpA; rw [O.set_ne c]; exact h
  have hul : (bumpA s v).getD u 0 < FL.inf := by
    by_cases c : u = v
    · rw [c, ev]; omega
    · unfold bumpA; rw [O.set_ne c]; have := f.act u; omega
  have hlen : (bumpA s v).length = s.A.length := by unfold bumpA; rw [List.length_set]
  unfold OS.bump
  split
  · show ((bumpA s v).map (FL.fmul · SHR)).getD x 0 ≤ ((bumpA s v).map (FL.fmul · SHR)).getD u 0
    rw [getD_map_fmul, getD_map_fmul, hlen, if_pos hx, if_pos hu]
    exact FL.fmul_mono hA hul fin_shr.1
  · exact hA
theorem bump_above {s : OS} {v : Nat} (f : Fit s) (hv : v < s.A.length) : 0 < (s.bump v).1.getD v 0 := by
  have l1 := FL.tTOP2_lt
  have lt : TOPB < FL.inf := fin_top
  have ev : (bumpA s v).getD v 0 = FL.fadd (s.A.getD v 0) s.r := by unfold bumpA; rw [O.set_eq hv]
  have le2 := FL.fadd_le (f.act v) f.rise
  have hlen : (bumpA s v).length = s.A.length := by unfold bumpA; rw [List.length_set]
  unfold OS.bump
  split
  · rename_i c
    show 0 < ((bumpA s v).map (FL.fmul · SHR)).getD v 0
    rw [getD_map_fmul, hlen, if_pos hv]
    exact FL.shr_pos c (by rw [ev]; omega)
  · show 0 < (bumpA s v).getD v 0
    rw [ev]
    have hxl : s.A.getD v 0 < FL.inf := by have := f.act v; omega
    have hrl : s.r < FL.inf := by have := f.rise; omega
    rw [FL.fadd_is hxl hrl]
    have := FL.rq_mono 0 (Nat.le_add_left (FL.V s.r) (FL.V (s.A.getD v 0)))
    rw [FL.rq_V (by omega)] at this
    have := f.pos
    omega
end Go.Proofs.Ytigbclhkmjcjjaa
