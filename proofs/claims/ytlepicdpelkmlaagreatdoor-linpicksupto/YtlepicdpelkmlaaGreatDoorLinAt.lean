/-
  Package lin: DCmp and At of numbers that are canonical; the law's own helpers.
-/
import Derived.Test.YtlepicdpelkmlaaGreatDoorLinDel
namespace Go.Proofs.YtlepicdpelkmlaaGreatDoor
open Go.RowKit
set_option linter.unusedVariables false
theorem okB_t (x : Rat) : okB (tB x) = true := tB_can x
theorem delAt_two (w : World) (a b c d : ByteArray) : DelAt (w.alloc (.cells #[.string a, .string b, .string c, .string d] 41)) w.heap.size [⟨a, b⟩, ⟨c, d⟩] := fun j hj => by
  have X := heap_alloc_new w (.cells #[.string a, .string b, .string c, .string d] 41)
  have hj : j < 2 := hj
  rcases (by omega : j = 0 ∨ j = 1) with rfl | rfl
  · exact ⟨by rw [cell_of_row _ _ _ _ _ (0, 0) X]; rfl, by rw [cell_of_row _ _ _ _ _ (0, 0) X]; rfl⟩
  · exact ⟨by rw [cell_of_row _ _ _ _ _ (0, 0) X]; rfl, by rw [cell_of_row _ _ _ _ _ (0, 0) X]; rfl⟩
theorem delAt_one (w : World) (a b : ByteArray) : DelAt (w.alloc (.cells #[.string a, .string b] 41)) w.heap.size [⟨a, b⟩] := fun j hj => by
  have X := heap_alloc_new w (.cells #[.string a, .string b] 41)
  have hj : j < 1 := hj
  obtain rfl : j = 0 := by omega
  exact ⟨by rw [cell_of_row _ _ _ _ _ (0, 0) X]; rfl, by rw [cell_of_row _ _ _ _ _ (0, 0) X]; rfl⟩
theorem strAt_one (w : World) (a : ByteArray) : StrAt (w.alloc (.cells #[.string a] 9)) w.heap.size [a] := fun j hj => by
  have X := heap_alloc_new w (.cells #[.string a] 9)
  have hj : j < 1 := hj
  obtain rfl : j = 0 := by omega
  rw [cell_of_row _ _ _ _ _ (0, 0) X]; rfl
/-- Two delta numbers handed over side by side. -/
theorem chkTwo (w : World) (a b c d : ByteArray) (z1 : a.size ≤ 1073741824) (z2 : b.size ≤ 1073741824) (z3 : c.size ≤ 1073741824) (z4 : d.size ≤ 1073741824) (env : LEnv w) :
    Calls Tryz.prog 9 #[.slice (some ⟨w.heap.size, 0, none⟩) 2 2] (w.alloc (.cells #[.string a, .string b, .string c, .string d] 41)) fun e w' => e = .returned (.int .i64 (if okB a && okB b && (okB c && okB d) then 0 else 1)) ∧ Below w.heap.size w w' := by
  have b := (Below.refl w.heap.size w).alloc (Nat.le_refl _) (.cells #[.string a, .string b, .string c, .string d] 41)
  refine (chkDel_calls _ w.heap.size 2 _ (delAt_two w a _ c d) (by simp) (fun x hx => ?_) (env.below b)).mono ?_
  · simp only [List.mem_cons, List.not_mem_nil, or_false] at hx
    rcases hx with rfl | rfl
    · exact ⟨z1, z2⟩
    · exact ⟨z3, z4⟩
  · rintro e w' ⟨rfl, q⟩
    refine ⟨?_, b.then_below q⟩
    simp [okD]
theorem fld_num (s : ByteArray) (W : World) : (Instr.field 46 (.agg #[.string s]) 0).run Tryz.prog W = .ok (.string s) W := by
  simp [Instr.field, run_underlying Tryz.underlying46, asAgg, go_sem]
end Go.Proofs.YtlepicdpelkmlaaGreatDoor
