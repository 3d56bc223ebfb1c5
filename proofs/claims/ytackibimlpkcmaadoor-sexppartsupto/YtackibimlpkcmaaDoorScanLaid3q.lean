/-
  The tables that a row lists, read off it; a world that holds them.
-/
import Derived.Test.YtackibimlpkcmaaDoorq1
/- ==== ScanLaid3 ==== -/
namespace Go.Proofs.YtackibimlpkcmaaDoor
open Go.RowKit
set_option linter.unusedVariables false
theorem of_3 {W : World} (h : laidMetH Tryd.prog [("unicode/utf8.acceptRanges", Rows.laid_unicode_utf8_acceptRanges), ("arbiter/scan.classes", Rows.laid_arbiter_scan_classes), ("unicode/utf8.first", Rows.laid_unicode_utf8_first)] W) : Cls W := by
  rw [MakeChecks.laidMetH_plain _ _ _ (by kernel_rfl)] at h
  obtain ⟨ps, ⟨g0, t0, cs0, f0, p0, q0, hg0, ht0, hv0, hd0, ⟨g1, t1, cs1, f1, p1, q1, hg1, ht1, hv1, hd1, _, _⟩, _⟩, _, _⟩ := h
  obtain rfl := Option.some.inj (gCls.symm.trans hg1)
  obtain ⟨u1, a1, b1, k1⟩ := tCls
  obtain rfl := Option.some.inj (a1.symm.trans ht1)
  rw [dCls] at hd1
  refine cls_of_tab ?_
  unfold Lib.TabIs
  rw [hv1, ← Lib.cells_of_tab b1 (by kernel_rfl) cByte k1 hd1]
theorem met_3 (os : Os) (args : Array Value) : laidMet Tryd.prog [("unicode/utf8.acceptRanges", Rows.laid_unicode_utf8_acceptRanges), ("arbiter/scan.classes", Rows.laid_arbiter_scan_classes), ("unicode/utf8.first", Rows.laid_unicode_utf8_first)] (({ World.holding Tryd.prog os ⟨#[], #[], []⟩ with heap := ((((World.holding Tryd.prog os ⟨#[], #[], []⟩).heap).modify 1 (fun | .cells _ t fz => .cells ((clsAll.map (fun z : Nat => Value.int .u8 (z : Int))).toArray) t fz | o => o)).modify 4 (fun | .cells _ t fz => .cells ((([128, 191, 160, 191, 128, 159, 144, 191, 128, 143, 0, 0, 0, 0, 0, 0, 0, 0, 0, 0, 0, 0, 0, 0, 0, 0, 0, 0, 0, 0, 0, 0] : List Int).map (fun z : Int => Value.int .u8 z)).toArray) t fz | o => o)).modify 3 (fun | .cells _ t fz => .cells ((Pinned.utf8FirstZ.map (fun z : Nat => Value.int .u8 (z : Int))).toArray) t fz | o => o) } : World).forCall (fun _ _ => 0) ⟨#[], args, []⟩).memory :=
  laidMet_of_run' 8 (by kernel_rfl) (by kernel_rfl)
theorem max_3 {W : World} (h : W.ShapedOpen Tryd.prog) : ∃ m, W.cell? ⟨2, 0, none⟩ = some (.int .i64 m) :=
  cell_of_shapedOpen_int (zero := #[.int .i64 0]) (t := 3) h (of_decide_eq_true (by kernel_rfl)) (by kernel_rfl) rfl (by kernel_rfl) (by kernel_rfl) (by kernel_rfl)
end Go.Proofs.YtackibimlpkcmaaDoor
