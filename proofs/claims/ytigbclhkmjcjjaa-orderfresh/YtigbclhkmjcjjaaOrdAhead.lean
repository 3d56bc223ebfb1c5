/-
  ahead: whether a variable is to be taken ahead of another.
-/
import Derived.Test.YtigbclhkmjcjjaaOrdMem
import Derived.Deep.QuietTactic
import Derived.BigQuiet
namespace Go.Proofs.Ytigbclhkmjcjjaa
open Go.RowKit
set_option linter.unusedVariables false
theorem order_ne {x y : Nat} (hx : x ≤ FL.inf) (hy : y ≤ FL.inf) : (FloatKind.f32.format.order x y != some .eq) = decide (x ≠ y) := by
  rw [show FloatKind.f32.format.order x y = some (compare x y) from FL.order_is hx hy]
  by_cases h : x = y
  · subst h; simp
  · have : compare x y ≠ .eq := fun c => h (Nat.compare_eq_eq.1 c)
    simp [h, this]
theorem order_gt {x y : Nat} (hx : x ≤ FL.inf) (hy : y ≤ FL.inf) : (FloatKind.f32.format.order x y == some .gt) = decide (y < x) := by
  rw [show FloatKind.f32.format.order x y = some (compare x y) from FL.order_is hx hy]
  by_cases h : y < x
  · have : compare x y = .gt := Nat.compare_eq_gt.2 h
    simp [h, this]
  · have : compare x y ≠ .gt := fun c => h (Nat.compare_eq_gt.1 c)
    simp [h, this]
set_option maxRecDepth 100000 in
set_option maxHeartbeats 1600000 in
theorem ahead_calls (w : World) (o : Oid) (s : OS) (h : Ord w o s) (hA : ∀ j, s.A.getD j 0 ≤ FL.inf) (a b : Nat) (ha : a ≤ o.n) (hb : b ≤ o.n) :
    Calls Try.prog 33 #[optr o, .int .i64 a, .int .i64 b] w fun e w' => e = .returned (.bool (O.ahd s.A a b)) ∧ ∃ m, w' = w.drewN m := by
  have c0 := h.c0
  have ca := h.act ha
  have cb := h.act hb
  have hn := h.hn
  have e1 := order_ne (hA a) (hA b)
  have e2 := order_gt (hA a) (hA b)
  have T : O.ahd s.A a b = if s.A.getD a 0 = s.A.getD b 0 then decide (a < b) else decide (s.A.getD b 0 < s.A.getD a 0) := rfl
  replace T := hide T
  clear h hA
  generalize s.A.getD a 0 = x at *
  generalize s.A.getD b 0 = y at *
  have ha' : (a : Int) < (o.n : Int) + 1 := by omega
  have hb' : (b : Int) < (o.n : Int) + 1 := by omega
  by_cases hxy : x = y
  · subst hxy
    rw [if_pos rfl] at T
    have e1' : (FloatKind.f32.format.order x x != some .eq) = false := by rw [e1]; simp
    clear e1 e2
    go_enter Try.func33, Try.ntmps33
    go_wp2_with fail
    go_quiet (fail)
    go_wp2
    go_ret
    exact ⟨by rw [T.out]; rfl, nq, rfl⟩
  · rw [if_neg hxy] at T
    have e1' : (FloatKind.f32.format.order x y != some .eq) = true := by rw [e1]; simp [hxy]
    replace e2 := hide e2
    clear e1 hxy
    go_enter Try.func33, Try.ntmps33
    go_wp2_with fail
    go_quiet (fail)
    go_wp2
    go_quiet (fail)
    go_wp2
    go_ret
    refine ⟨?_, _, World.drewN_drewN _ _ _⟩
    rw [T.out, ← e2.out]
    rfl
end Go.Proofs.Ytigbclhkmjcjjaa
