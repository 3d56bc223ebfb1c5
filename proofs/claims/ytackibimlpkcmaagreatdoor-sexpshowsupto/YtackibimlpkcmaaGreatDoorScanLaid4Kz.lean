/-
  The tables that a row lists, read off it; a world that holds them.
-/
import Derived.Test.YtackibimlpkcmaaGreatDoorKz14
/- ==== ScanLaid4 ==== -/
namespace Go.Proofs.YtackibimlpkcmaaGreatDoor
open Go.RowKit
set_option linter.unusedVariables false
theorem of_4 {W : World} (h : laidMetH Tryz.prog [("arbiter/arbiterref3.reserved", Rows.laid_arbiter_arbiterref3_reserved), ("unicode/utf8.acceptRanges", Rows.laid_unicode_utf8_acceptRanges), ("arbiter/scan.classes", Rows.laid_arbiter_scan_classes), ("unicode/utf8.first", Rows.laid_unicode_utf8_first)] W) : Cls W ∧ Rsv W := by
  rw [MakeChecks.laidMetH_plain _ _ _ (by kernel_rfl)] at h
  obtain ⟨ps, ⟨g0, t0, cs0, f0, p0, q0, hg0, ht0, hv0, hd0, ⟨g1, t1, cs1, f1, p1, q1, hg1, ht1, hv1, hd1, ⟨g2, t2, cs2, f2, p2, q2, hg2, ht2, hv2, hd2, _, _⟩, _⟩, _⟩, _, _⟩ := h
  refine ⟨?_, ?_⟩
  · obtain rfl := Option.some.inj (gCls.symm.trans hg2)
    obtain ⟨u1, a1, b1, k1⟩ := tCls
    obtain rfl := Option.some.inj (a1.symm.trans ht2)
    rw [dCls] at hd2
    refine cls_of_tab ?_
    unfold Lib.TabIs
    rw [hv2, ← Lib.cells_of_tab b1 (by kernel_rfl) cByte k1 hd2]
  · obtain rfl := Option.some.inj (gRsv.symm.trans hg0)
    obtain ⟨u1, a1, b1⟩ := tRsv
    obtain rfl := Option.some.inj (a1.symm.trans ht0)
    rw [dRsv] at hd0
    exact rsv_of_trod (H := Unit) hv0 b1 hd0
theorem met_4 (os : Os) (args : Array Value) : laidMet Tryz.prog [("arbiter/arbiterref3.reserved", Rows.laid_arbiter_arbiterref3_reserved), ("unicode/utf8.acceptRanges", Rows.laid_unicode_utf8_acceptRanges), ("arbiter/scan.classes", Rows.laid_arbiter_scan_classes), ("unicode/utf8.first", Rows.laid_unicode_utf8_first)] (({ World.holding Tryz.prog os ⟨#[], #[], []⟩ with heap := ((((((World.holding Tryz.prog os ⟨#[], #[], []⟩).heap).modify 0 (fun | .cells _ t fz => .cells ((clsAll.map (fun z : Nat => Value.int .u8 (z : Int))).toArray) t fz | o => o)).modify 1 (fun | .cells _ t fz => .cells #[.slice (some ⟨(World.holding Tryz.prog os ⟨#[], #[], []⟩).heap.size, 0, none⟩) 44 44] t fz | o => o)).modify 4 (fun | .cells _ t fz => .cells ((([128, 191, 160, 191, 128, 159, 144, 191, 128, 143, 0, 0, 0, 0, 0, 0, 0, 0, 0, 0, 0, 0, 0, 0, 0, 0, 0, 0, 0, 0, 0, 0] : List Int).map (fun z : Int => Value.int .u8 z)).toArray) t fz | o => o)).modify 3 (fun | .cells _ t fz => .cells ((Pinned.utf8FirstZ.map (fun z : Nat => Value.int .u8 (z : Int))).toArray) t fz | o => o)).push (.cells ((words.map (fun x => Value.string ⟨x.toArray⟩)).toArray) 9 (0, 0)) } : World).forCall (fun _ _ => 0) ⟨#[], args, []⟩).memory :=
  laidMet_of_run' 8 (by kernel_rfl) (by kernel_rfl)
theorem max_4 {W : World} (h : W.ShapedOpen Tryz.prog) : ∃ m, W.cell? ⟨2, 0, none⟩ = some (.int .i64 m) :=
  cell_of_shapedOpen_int (zero := #[.int .i64 0]) (t := 3) h (of_decide_eq_true (by kernel_rfl)) (by kernel_rfl) rfl (by kernel_rfl) (by kernel_rfl) (by kernel_rfl)
end Go.Proofs.YtackibimlpkcmaaGreatDoor
