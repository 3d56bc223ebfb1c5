/-
  Package rat: Upper.
-/
import Derived.Test.YtebnjolkolobhaaGreatDoorMulBG
/- ==== RatUpper ==== -/
namespace Go.Proofs.YtebnjolkolobhaaGreatDoor
open Go.RowKit
set_option linter.unusedVariables false
set_option maxRecDepth 100000 in
set_option maxHeartbeats 4000000 in
theorem upper_calls (w : World) (v : Value) (neg : Bool) (n d : Nat) (h : DenR w v neg n d) :
    Calls Tryz.prog 30 #[v] w fun e w' => (∃ r, e = .returned r ∧ Den w' r n) ∧ Below w.heap.size w w' := by
  obtain ⟨x1, x2, x3, x4, y1, y2, y3, y4, rfl, h1, h2⟩ := h
  obtain ⟨X1, Y1, -⟩ := two_new w (.cells #[.bool neg, .int .u64 x1, .slice x2 x3 x4, .int .u64 y1, .slice y2 y3 y4] 45) (.cells #[.int .u64 0, .slice none 0 0] 43)
  have B0 := alloc2_below w (.cells #[.bool neg, .int .u64 x1, .slice x2 x3 x4, .int .u64 y1, .slice y2 y3 y4] 45) (.cells #[.int .u64 0, .slice none 0 0] 43)
  obtain ⟨W0, hW0⟩ : ∃ W0, (w.alloc (.cells #[.bool neg, .int .u64 x1, .slice x2 x3 x4, .int .u64 y1, .slice y2 y3 y4] 45)).alloc (.cells #[.int .u64 0, .slice none 0 0] 43) = W0 := ⟨_, rfl⟩
  rw [hW0] at X1 Y1 B0
  have D1 := hide (h1.below B0)
  obtain ⟨⟨t0, t1, t2, t3, t4⟩, -⟩ := ratBox X1
  obtain ⟨z0, z1, f0, f1⟩ := box_facts Y1
  replace X1 := hide X1
  replace Y1 := hide Y1
  replace B0 := hide B0
  clear h1 h2
  go_enter Tryz.func30, Tryz.ntmps30
  go_wp2
  refine bodyPost_ret (v := .agg #[.int .u64 x1, .slice x2 x3 x4]) (by simp [results, Tryz.results30, go_sem, z0, z1]) rfl ?_
  have q := box_grown W0 (w.heap.size + 1) (.int .u64 x1) (.slice x2 x3 x4)
  exact ⟨⟨_, rfl, D1.out.kept q (D1.out.notin (nopair2 _ _ _ _) Y1.out)⟩, B0.out.then_grown q (by rintro g ⟨⟩; omega)⟩
end Go.Proofs.YtebnjolkolobhaaGreatDoor
