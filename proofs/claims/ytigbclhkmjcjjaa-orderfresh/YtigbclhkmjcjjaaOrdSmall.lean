/-
  Score, Rise, Has, Save, Phase.
-/
import Derived.Test.YtigbclhkmjcjjaaOrdBump
namespace Go.Proofs.Ytigbclhkmjcjjaa
open Go.RowKit
set_option linter.unusedVariables false
theorem rise_calls (w : World) (o : Oid) (s : OS) (h : Ord w o s) : Calls Try.prog 13 #[optr o] w fun e w' => e = .returned (.int .u32 s.r) ∧ w' = w := by
  have c1 := h.c1
  have hB := bits_run
  clear h
  go_enter Try.func13, Try.ntmps13
  go_wp2
  go_ret
  exact ⟨rfl, rfl⟩
theorem score_bad (w : World) (o : Oid) (s : OS) (h : Ord w o s) (v : Int) (hv : v < 1 ∨ (o.n : Int) < v) : Calls Try.prog 24 #[optr o, .int .i64 v] w fun e w' => e = .returned (.tuple #[.int .u32 0, .int .i64 70]) ∧ w' = w := by
  have C := hide (check_bad w o s h v hv)
  clear h hv
  go_enter Try.func24, Try.ntmps24
  go_wp2_with (go_at_call 25; refine C.out.mono ?_; rintro e w1 ⟨rfl, rfl⟩)
  go_ret2
  exact ⟨rfl, rfl⟩
theorem score_calls (w : World) (o : Oid) (s : OS) (h : Ord w o s) (v : Nat) (h1 : 1 ≤ v) (h2 : v ≤ o.n) : Calls Try.prog 24 #[optr o, .int .i64 v] w fun e w' => e = .returned (.tuple #[.int .u32 (s.A.getD v 0 : Nat), .int .i64 0]) ∧ w' = w := by
  have C := hide (check_ok w o s h v h1 h2)
  have c0 := h.c0
  have ca := h.act h2
  have hB := bits_run
  have v1 : (v : Int) < (o.n : Int) + 1 := by omega
  clear h
  generalize s.A.getD v 0 = x at *
  go_enter Try.func24, Try.ntmps24
  go_wp2_with (go_at_call 25; refine C.out.mono ?_; rintro e w1 ⟨rfl, rfl⟩)
  go_ret2
  exact ⟨rfl, rfl⟩
theorem has_bad (w : World) (o : Oid) (s : OS) (h : Ord w o s) (v : Int) (hv : v < 1 ∨ (o.n : Int) < v) : Calls Try.prog 17 #[optr o, .int .i64 v] w fun e w' => e = .returned (.tuple #[.bool false, .int .i64 70]) ∧ w' = w := by
  have C := hide (check_bad w o s h v hv)
  clear h hv
  go_enter Try.func17, Try.ntmps17
  go_wp2_with (go_at_call 25; refine C.out.mono ?_; rintro e w1 ⟨rfl, rfl⟩)
  go_ret2
  exact ⟨rfl, rfl⟩
theorem has_calls (w : World) (o : Oid) (s : OS) (h : Ord w o s) (v : Nat) (h1 : 1 ≤ v) (h2 : v ≤ o.n) : Calls Try.prog 17 #[optr o, .int .i64 v] w fun e w' => e = .returned (.tuple #[.bool (decide (s.pl.getD v 0 ≠ -1)), .int .i64 0]) ∧ w' = w := by
  have C := hide (check_ok w o s h v h1 h2)
  have c0 := h.c4
  have ca := h.pla h2
  have v1 : (v : Int) < (o.n : Int) + 1 := by omega
  clear h
  generalize s.pl.getD v 0 = x at *
  by_cases hx : x = -1
  · subst hx
    go_enter Try.func17, Try.ntmps17
    go_wp2_with (go_at_call 25; refine C.out.mono ?_; rintro e w1 ⟨rfl, rfl⟩)
    go_ret2
    exact ⟨rfl, rfl⟩
  · have hd : decide (x ≠ -1) = true := by simpa using hx
    rw [hd]
    clear hd
    go_enter Try.func17, Try.ntmps17
    go_wp2_with (go_at_call 25; refine C.out.mono ?_; rintro e w1 ⟨rfl, rfl⟩)
    go_ret2
    exact ⟨by simp [hx], rfl⟩
theorem save_bad (w : World) (o : Oid) (s : OS) (h : Ord w o s) (v : Int) (hv : v < 1 ∨ (o.n : Int) < v) (b : Bool) : Calls Try.prog 23 #[optr o, .int .i64 v, .bool b] w fun e w' => e = .returned (.int .i64 70) ∧ w' = w := by
  have C := hide (check_bad w o s h v hv)
  clear h hv
  go_enter Try.func23, Try.ntmps23
  go_wp2_with (go_at_call 25; refine C.out.mono ?_; rintro e w1 ⟨rfl, rfl⟩)
  go_ret
  exact ⟨rfl, rfl⟩
theorem save_calls (w : World) (o : Oid) (s : OS) (h : Good w o s) (v : Nat) (h1 : 1 ≤ v) (h2 : v ≤ o.n) (b : Bool) : Calls Try.prog 23 #[optr o, .int .i64 v, .bool b] w fun e w' => e = .returned (.int .i64 0) ∧ Good w' o { s with ph := s.ph.set v b } ∧ Chg (blks o) w w' := by
  have C := hide (check_ok w o s h.ord v h1 h2)
  have c0 := h.ord.c2
  have ca := h.ord.pha h2
  have fa := h.ord.phaFree v
  have v1 : (v : Int) < (o.n : Int) + 1 := by omega
  have O1 := hide (h.ord.setPha v b)
  have C1 : Hid (Chg (blks o) w (w.setCell ⟨o.gp, v, none⟩ (.bool b))) := (Chg.refl _ w).set (by simp [blks]) _
  have H := hide h
  clear h
  generalize s.ph.getD v false = x at *
  go_enter Try.func23, Try.ntmps23
  go_wp2_with (go_at_call 25; refine C.out.mono ?_; rintro e w1 ⟨rfl, rfl⟩)
  go_ret
  exact ⟨rfl, ⟨O1.out, H.out.hv, H.out.heap, H.out.act, H.out.rise⟩, C1.out⟩
theorem phase_bad (w : World) (o : Oid) (s : OS) (h : Ord w o s) (v : Int) (hv : v < 1 ∨ (o.n : Int) < v) : Calls Try.prog 48 #[optr o, .int .i64 v] w fun e w' => e = .returned (.tuple #[.bool false, .int .i64 70]) ∧ w' = w := by
  have C := hide (check_bad w o s h v hv)
  clear h hv
  go_enter Try.func48, Try.ntmps48
  go_wp2_with (go_at_call 25; refine C.out.mono ?_; rintro e w1 ⟨rfl, rfl⟩)
  go_ret2
  exact ⟨rfl, rfl⟩
theorem phase_calls (w : World) (o : Oid) (s : OS) (h : Ord w o s) (v : Nat) (h1 : 1 ≤ v) (h2 : v ≤ o.n) : Calls Try.prog 48 #[optr o, .int .i64 v] w fun e w' => e = .returned (.tuple #[.bool (s.ph.getD v false), .int .i64 0]) ∧ w' = w := by
  have C := hide (check_ok w o s h v h1 h2)
  have c0 := h.c2
  have ca := h.pha h2
  have v1 : (v : Int) < (o.n : Int) + 1 := by omega
  clear h
  generalize s.ph.getD v false = x at *
  go_enter Try.func48, Try.ntmps48
  go_wp2_with (go_at_call 25; refine C.out.mono ?_; rintro e w1 ⟨rfl, rfl⟩)
  go_ret2
  exact ⟨rfl, rfl⟩
end Go.Proofs.Ytigbclhkmjcjjaa
