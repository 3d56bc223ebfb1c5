/- Laid together of: ScanLaid, ScanLaid3. -/
import Derived.Test.YtjbalgjdcdmjjaaDoorRows
import Derived.Test.YtjbalgjdcdmjjaaDoorScanBase
import Derived.Lib.LaidTab
import Derived.Deep.DeepHandedRow
import Derived.LaidMore
import Derived.Shelf.Vars
import Derived.ProofKit
/- ==== ScanLaid ==== -/
namespace Go.Proofs.YtjbalgjdcdmjjaaDoor
open Go.RowKit
set_option linter.unusedVariables false
def clsAll : List Nat := clsTab ++ List.replicate 128 8
theorem cls_all (j : Nat) (hj : j < 256) : clsAll.getD j 0 = cls j := by
  have h : (List.range 256).all (fun j => decide (clsAll.getD j 0 = cls j)) = true := by decide +kernel
  exact of_decide_eq_true (List.all_eq_true.1 h j (by simpa using hj))
theorem gCls : Tryd.prog.globalNamed "arbiter/scan.classes" = some 1 := by kernel_rfl
theorem tCls : ∃ t, (Tryd.prog.globals[1]?).map (·.type) = some t ∧ Tryd.prog.underlying t = some (.array 256 5) ∧ Tryd.prog.cellsOf t = 256 := ⟨107, by kernel_rfl, by kernel_rfl, by kernel_rfl⟩
theorem cByte : Tryd.prog.cellsOf 5 = 1 := by kernel_rfl
theorem dCls : (Rows.laid_arbiter_scan_classes : DataW Unit) = Lib.tabData .u8 (clsAll.map (fun z : Nat => (z : Int))) := by kernel_rfl
theorem cls_of_tab {W : World} (h : Lib.TabIs Tryd.prog W "arbiter/scan.classes" .u8 (clsAll.map (fun z : Nat => (z : Int)))) : Cls W := by
  intro j hj
  have hl : clsAll.length = 256 := by decide +kernel
  have := h.cell gCls j (by rw [List.length_map, hl]; exact hj)
  rw [this, ← cls_all j hj]
  simp [List.getD_eq_getElem?_getD, List.getElem?_map, List.getElem?_eq_getElem (show j < clsAll.length by rw [hl]; exact hj)]
/-- What the row's list gives. -/
theorem cls_of {W : World} (h : laidMetH Tryd.prog [("arbiter/scan.classes", Rows.laid_arbiter_scan_classes)] W) : Cls W := by
  rw [MakeChecks.laidMetH_plain _ _ _ (by kernel_rfl)] at h
  obtain ⟨ps, ⟨g0, t0, cs0, f0, p0, q0, hg0, ht0, hv0, hd0, _, _⟩, _, _⟩ := h
  obtain rfl := Option.some.inj (gCls.symm.trans hg0)
  obtain ⟨u1, a1, b1, k1⟩ := tCls
  obtain rfl := Option.some.inj (a1.symm.trans ht0)
  rw [dCls] at hd0
  refine cls_of_tab ?_
  unfold Lib.TabIs
  rw [hv0, ← Lib.cells_of_tab b1 (by kernel_rfl) cByte k1 hd0]
/-- A world that holds the table. -/
theorem cls_met (os : Os) (args : Array Value) : laidMet Tryd.prog [("arbiter/scan.classes", Rows.laid_arbiter_scan_classes)] (({ World.holding Tryd.prog os ⟨#[], #[], []⟩ with heap := ((World.holding Tryd.prog os ⟨#[], #[], []⟩).heap).modify 1 (fun | .cells _ t fz => .cells ((clsAll.map (fun z : Nat => Value.int .u8 (z : Int))).toArray) t fz | o => o) } : World).forCall (fun _ _ => 0) ⟨#[], args, []⟩).memory :=
  laidMet_of_run' 8 (by kernel_rfl) (by kernel_rfl)
end Go.Proofs.YtjbalgjdcdmjjaaDoor
/- ==== ScanLaid3 ==== -/
namespace Go.Proofs.YtjbalgjdcdmjjaaDoor
open Go.RowKit
set_option linter.unusedVariables false
theorem of_3 {W : World} (h : laidMetH Tryd.prog [("unicode/utf8.acceptRanges", Rows.laid_unicode_utf8_acceptRanges), ("arbiter/scan.classes", Rows.laid_arbiter_scan_classes), ("unicode/utf8.first", Rows.laid_unicode_utf8_first)] W) : Cls W := by
  rw [MakeChecks.laidMetH_plain _ _ _ (by kernel_rfl)] at h
  obtain ⟨ps, ⟨g0, t0, cs0, f0, p0, q0, hg0, ht0, hv0, hd0, ⟨g1, t1, cs1, f1, p1, q1, hg1, ht1, hv1, hd1, _, _⟩, _⟩, _, _⟩ := h
  obtain rfl := Option.some.inj (gCls.symm.trans hg1)
  obtain ⟨u1, a1, b1, k1⟩ := tCls
  obtain rfl := Option.some.inj (a1.symm.trans ht1)
  rw [dCls] at hd1
  refine cls_of_tab ?_
  unfold Lib.TabIs
  rw [hv1, ← Lib.cells_of_tab b1 (by kernel_rfl) cByte k1 hd1]
theorem met_3 (os : Os) (args : Array Value) : laidMet Tryd.prog [("unicode/utf8.acceptRanges", Rows.laid_unicode_utf8_acceptRanges), ("arbiter/scan.classes", Rows.laid_arbiter_scan_classes), ("unicode/utf8.first", Rows.laid_unicode_utf8_first)] (({ World.holding Tryd.prog os ⟨#[], #[], []⟩ with heap := ((((World.holding Tryd.prog os ⟨#[], #[], []⟩).heap).modify 1 (fun | .cells _ t fz => .cells ((clsAll.map (fun z : Nat => Value.int .u8 (z : Int))).toArray) t fz | o => o)).modify 4 (fun | .cells _ t fz => .cells ((([128, 191, 160, 191, 128, 159, 144, 191, 128, 143, 0, 0, 0, 0, 0, 0, 0, 0, 0, 0, 0, 0, 0, 0, 0, 0, 0, 0, 0, 0, 0, 0] : List Int).map (fun z : Int => Value.int .u8 z)).toArray) t fz | o => o)).modify 3 (fun | .cells _ t fz => .cells ((Pinned.utf8FirstZ.map (fun z : Nat => Value.int .u8 (z : Int))).toArray) t fz | o => o) } : World).forCall (fun _ _ => 0) ⟨#[], args, []⟩).memory :=
  laidMet_of_run' 8 (by kernel_rfl) (by kernel_rfl)
theorem max_3 {W : World} (h : W.ShapedOpen Tryd.prog) : ∃ m, W.cell? ⟨2, 0, none⟩ = some (.int .i64 m) :=
  cell_of_shapedOpen_int (zero := #[.int .i64 0]) (t := 3) h (of_decide_eq_true (by kernel_rfl)) (by kernel_rfl) rfl (by kernel_rfl) (by kernel_rfl) (by kernel_rfl)
end Go.Proofs.YtjbalgjdcdmjjaaDoor
