/- Laid together of: ScanLaid, ScanLaid2. -/
import Derived.Test.YtjbalgjdcdmjjaaDoorRows
import Derived.Test.YtjbalgjdcdmjjaaDoorScanBase
import Derived.Lib.LaidTab
import Derived.Deep.DeepHandedRow
import Derived.LaidMore
import Derived.Shelf.Vars
import Derived.ProofKit
import Derived.Test.YtjbalgjdcdmjjaaDoorRefScan9
import Derived.SliceStrings
/- ==== ScanLaid ==== -/
namespace Go.Proofs.YtjbalgjdcdmjjaaDoor
open Go.RowKit
set_option linter.unusedVariables false
def clsAll : List Nat := clsTab ++ List.replicate 128 8
theorem cls_all (j : Nat) (hj : j < 256) : clsAll.getD j 0 = cls j := by
  have h : (List.range 256).all (fun j => decide (clsAll.getD j 0 = cls j)) = true := by decide +kernel
  exact of_decide_eq_true (List.all_eq_true.1 h j (by simpa using hj))
theorem gCls : Tryd.prog.globalNamed "arbiter/scan.classes" = some 1 := by kernel_rfl
theorem tCls : ∃ t, (Tryd.prog.globals[1]?).map (·.type) = some t ∧ Tryd.prog.underlying t = some (.array 256 5) ∧ Tryd.prog.cellsOf t = 256 := ⟨107, by kernel_rfl, by kernel_rfl, by kernel_rfl⟩
theorem cByte : Tryd.prog.cellsOf 5 = 1 := by kernel_rfl
theorem dCls : (Rows.laid_arbiter_scan_classes : DataW Unit) = Lib.tabData .u8 (clsAll.map (fun z : Nat => (z : Int))) := by kernel_rfl
theorem cls_of_tab {W : World} (h : Lib.TabIs Tryd.prog W "arbiter/scan.classes" .u8 (clsAll.map (fun z : Nat => (z : Int)))) : Cls W := by
  intro j hj
  have hl : clsAll.length = 256 := by decide +kernel
  have := h.cell gCls j (by rw [List.length_map, hl]; exact hj)
  rw [this, ← cls_all j hj]
  simp [List.getD_eq_getElem?_getD, List.getElem?_map, List.getElem?_eq_getElem (show j < clsAll.length by rw [hl]; exact hj)]
/-- What the row's list gives. -/
theorem cls_of {W : World} (h : laidMetH Tryd.prog [("arbiter/scan.classes", Rows.laid_arbiter_scan_classes)] W) : Cls W := by
  rw [MakeChecks.laidMetH_plain _ _ _ (by kernel_rfl)] at h
  obtain ⟨ps, ⟨g0, t0, cs0, f0, p0, q0, hg0, ht0, hv0, hd0, _, _⟩, _, _⟩ := h
  obtain rfl := Option.some.inj (gCls.symm.trans hg0)
  obtain ⟨u1, a1, b1, k1⟩ := tCls
  obtain rfl := Option.some.inj (a1.symm.trans ht0)
  rw [dCls] at hd0
  refine cls_of_tab ?_
  unfold Lib.TabIs
  rw [hv0, ← Lib.cells_of_tab b1 (by kernel_rfl) cByte k1 hd0]
/-- A world that holds the table. -/
theorem cls_met (os : Os) (args : Array Value) : laidMet Tryd.prog [("arbiter/scan.classes", Rows.laid_arbiter_scan_classes)] (({ World.holding Tryd.prog os ⟨#[], #[], []⟩ with heap := ((World.holding Tryd.prog os ⟨#[], #[], []⟩).heap).modify 1 (fun | .cells _ t fz => .cells ((clsAll.map (fun z : Nat => Value.int .u8 (z : Int))).toArray) t fz | o => o) } : World).forCall (fun _ _ => 0) ⟨#[], args, []⟩).memory :=
  laidMet_of_run' 8 (by kernel_rfl) (by kernel_rfl)
end Go.Proofs.YtjbalgjdcdmjjaaDoor
/- ==== ScanLaid2 ==== -/
namespace Go.Proofs.YtjbalgjdcdmjjaaDoor
open Go.RowKit
set_option linter.unusedVariables false
def wordsData : List (DataW Unit) := words.map fun x => .lit (.string x)
theorem gRsv : Tryd.prog.globalNamed "arbiter/arbiterref3.reserved" = some 0 := by kernel_rfl
theorem tRsv : ∃ t, (Tryd.prog.globals[0]?).map (·.type) = some t ∧ Tryd.prog.underlying t = some (.slice 9) := ⟨106, by kernel_rfl, by kernel_rfl⟩
theorem cStr : Tryd.prog.cellsOf 9 = 1 := by kernel_rfl
theorem dRsv : (Rows.laid_arbiter_arbiterref3_reserved : DataW Unit) = .slice wordsData [] := by kernel_rfl
theorem wordsData_len : wordsData.length = 44 := by decide +kernel
theorem rsv_of_trod {W : World} {cs : Array Value} {H : Type} {f : Nat} {base : Nat} {sp : Nat → Bool} {held : Bool} {enc : TypeId × Value → Unit} {t : TypeId} {ps : List MemPlace} (hv : W.var? Tryd.prog "arbiter/arbiterref3.reserved" = some cs) (ht : Tryd.prog.underlying t = some (.slice 9))
    (h : DataW.trod enc Tryd.prog W base sp held f t cs.toList = some (.slice wordsData [], ps)) : Rsv W := by
  obtain ⟨a, cap, e1, h1, h2⟩ := open_row ht cStr h
  have hcap : cap ≤ maxLen := by
    rcases DataW.trod_slice ht h with ⟨e2, _⟩ | ⟨a', len, cap', elems, rest, n, _, e2, _, _, _, hm, _⟩
    · rw [e1] at e2
      simp at e2
    · rw [e1] at e2
      simp at e2
      rw [e2.2.2]
      exact hm
  rw [wordsData_len] at e1 h1
  have hcell : W.cell? ⟨0, 0, none⟩ = some (.slice (some a) 44 cap) := by
    unfold World.var? at hv
    rw [gRsv] at hv
    simp only [Option.bind_some] at hv
    unfold World.cell?
    cases hb : W.heap[(0 : Nat)]? with
    | none => rw [hb] at hv; simp at hv
    | some o =>
      rw [hb] at hv
      cases o with
      | cells c T fz =>
        simp only [Option.some.injEq] at hv
        subst hv
        have : c = #[.slice (some a) 44 cap] := by
          cases c
          simpa using e1
        subst this
        simp
      | _ => simp at hv
  have hw : ∀ j, j < 44 → W.cell? (a.add j) = some (.string ⟨(words.getD j []).toArray⟩) := by
    intro j hj
    have hd : wordsData[j]? = some (.lit (.string (words.getD j []))) := by
      unfold wordsData
      rw [List.getElem?_map, List.getD_eq_getElem?_getD, List.getElem?_eq_getElem (show j < words.length from hj)]
      rfl
    obtain ⟨v, n, q, c1, c2⟩ := h2 j _ hd
    obtain ⟨s, e3, e4, _⟩ := DataW.trod_string Tryd.underlying9 c2
    have ev : v = .string s := by simpa using e3
    have es : words.getD j [] = s.data.toList := by simpa using (Prod.mk.inj e4).1
    rw [c1, ev, es]
  have hspot : a.spot = none := by
    have := World.cell?_spot (hw 0 (by decide))
    simpa [Addr.add] using this
  obtain ⟨b, off, spot⟩ := a
  simp only at hspot
  subst hspot
  exact ⟨b, off, cap, hcell, h1, by unfold maxLen at hcap; omega, fun j hj => by
    have h := hw j hj
    by_cases h0 : j = 0
    · subst h0
      exact h
    · simpa [Addr.add, h0] using h⟩
/-- What the row's list gives. -/
theorem both_of {W : World} (h : laidMetH Tryd.prog [("arbiter/arbiterref3.reserved", Rows.laid_arbiter_arbiterref3_reserved), ("arbiter/scan.classes", Rows.laid_arbiter_scan_classes)] W) : Cls W ∧ Rsv W := by
  rw [MakeChecks.laidMetH_plain _ _ _ (by kernel_rfl)] at h
  obtain ⟨ps, ⟨g1, t1, cs1, f1, p1, q1, hg1, ht1, hv1, hd1, ⟨g0, t0, cs0, f0, p0, q0, hg0, ht0, hv0, hd0, _, _⟩, _⟩, _, _⟩ := h
  refine ⟨?_, ?_⟩
  · obtain rfl := Option.some.inj (gCls.symm.trans hg0)
    obtain ⟨u1, a1, b1, k1⟩ := tCls
    obtain rfl := Option.some.inj (a1.symm.trans ht0)
    rw [dCls] at hd0
    refine cls_of_tab ?_
    unfold Lib.TabIs
    rw [hv0, ← Lib.cells_of_tab b1 (by kernel_rfl) cByte k1 hd0]
  · obtain rfl := Option.some.inj (gRsv.symm.trans hg1)
    obtain ⟨u1, a1, b1⟩ := tRsv
    obtain rfl := Option.some.inj (a1.symm.trans ht1)
    rw [dRsv] at hd1
    exact rsv_of_trod (H := Unit) hv1 b1 hd1
/-- A world that holds both. -/
theorem both_met (os : Os) (args : Array Value) : laidMet Tryd.prog [("arbiter/arbiterref3.reserved", Rows.laid_arbiter_arbiterref3_reserved), ("arbiter/scan.classes", Rows.laid_arbiter_scan_classes)] (({ World.holding Tryd.prog os ⟨#[], #[], []⟩ with heap := ((((World.holding Tryd.prog os ⟨#[], #[], []⟩).heap).modify 1 (fun | .cells _ t fz => .cells ((clsAll.map (fun z : Nat => Value.int .u8 (z : Int))).toArray) t fz | o => o)).modify 0 (fun | .cells _ t fz => .cells #[.slice (some ⟨(World.holding Tryd.prog os ⟨#[], #[], []⟩).heap.size, 0, none⟩) 44 44] t fz | o => o)).push (.cells ((words.map (fun x => Value.string ⟨x.toArray⟩)).toArray) 9 (0, 0)) } : World).forCall (fun _ _ => 0) ⟨#[], args, []⟩).memory :=
  laidMet_of_run' 8 (by kernel_rfl) (by kernel_rfl)
end Go.Proofs.YtjbalgjdcdmjjaaDoor
