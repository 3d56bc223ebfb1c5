/-
  OrderActs, OrderTakes, OrderPlays: upTo with their kinds.
-/
import Derived.Test.YtigbclhkmjcjjaaPlaysLaw
namespace Go.Proofs.Ytigbclhkmjcjjaa
open Go.RowKit
set_option linter.unusedVariables false



theorem acts_calls (w : World) (n m : Int) (sv : Value) (l : List POp) (hv : Pops w.heap.size w sv l) : Calls Try.prog 6 #[.int .i64 n, .int .i64 m, sv] w fun e w' => e = .returned (.bool true) ∧ Below w.heap.size w w' := by
  have U := hide (upTo_calls w n m 1 4 sv l hv)
  clear hv
  go_enter Try.func6, Try.ntmps6
  go_wp2_with fail
  refine U.out.mono ?_
  rintro e w1 ⟨rfl, b⟩
  replace b := hide b
  go_wp2
  go_ret
  exact ⟨rfl, b.out⟩
theorem takes_calls (w : World) (n m : Int) (sv : Value) (l : List POp) (hv : Pops w.heap.size w sv l) : Calls Try.prog 7 #[.int .i64 n, .int .i64 m, sv] w fun e w' => e = .returned (.bool true) ∧ Below w.heap.size w w' := by
  have U := hide (upTo_calls w n m 5 8 sv l hv)
  clear hv
  go_enter Try.func7, Try.ntmps7
  go_wp2_with fail
  refine U.out.mono ?_
  rintro e w1 ⟨rfl, b⟩
  replace b := hide b
  go_wp2
  go_ret
  exact ⟨rfl, b.out⟩
theorem plays_calls (w : World) (n m : Int) (sv : Value) (l : List POp) (hv : Pops w.heap.size w sv l) : Calls Try.prog 8 #[.int .i64 n, .int .i64 m, sv] w fun e w' => e = .returned (.bool true) ∧ Below w.heap.size w w' := by
  have U := hide (upTo_calls w n m 1 10 sv l hv)
  clear hv
  go_enter Try.func8, Try.ntmps8
  go_wp2_with fail
  refine U.out.mono ?_
  rintro e w1 ⟨rfl, b⟩
  replace b := hide b
  go_wp2
  go_ret
  exact ⟨rfl, b.out⟩

end Go.Proofs.Ytigbclhkmjcjjaa
