/- Laid together of: RefScan9, ScanLaid2. -/
import Derived.Test.YtackibimlpkcmaaGreatDoorKz13
import Derived.Test.YtackibimlpkcmaaGreatDoorKz1
import Derived.SliceStrings
/- ==== RefScan9 ==== -/
namespace Go.Proofs.YtackibimlpkcmaaGreatDoor
open Go.RowKit
set_option linter.unusedVariables false
/-- The list of reserved words lies where start-up lays it. -/
def Rsv (w : World) : Prop := ∃ b off cap, w.cell? ⟨1, 0, none⟩ = some (.slice (some ⟨b, off, none⟩) 44 cap) ∧ 44 ≤ cap ∧ cap ≤ 9223372036854775807 ∧ ∀ j, j < 44 → w.cell? ⟨b, off + j, none⟩ = some (.string ⟨(words.getD j []).toArray⟩)
theorem Rsv.below {w w' : World} (h : Rsv w) (q : Below w.heap.size w w') : Rsv w' := by
  obtain ⟨b, off, cap, h1, h2, h3, h4⟩ := h
  have g1 : 1 < w.heap.size := World.block_lt_of_cell? w _ h1
  have g2 : b < w.heap.size := World.block_lt_of_cell? w _ (h4 0 (by decide))
  exact ⟨b, off, cap, (q.cell (p := ⟨_, _, none⟩) g1).trans h1, h2, h3, fun j hj => (q.cell (p := ⟨b, _, none⟩) g2).trans (h4 j hj)⟩
theorem str_ne4 {T s : ByteArray} (h : T ≠ s) : ¬ T.toList = s.toList ∧ (T.toList == s.toList) = false ∧ ¬ T.data.toList = s.data.toList ∧ ¬ T = s ∧ ¬ s = T := by
  have h3 : ¬ T.data.toList = s.data.toList := fun e => h (by
    cases T with
    | mk a => cases s with
      | mk b => simp at e; rw [e])
  have h2 : ¬ T.toList = s.toList := by rw [str_toList', str_toList']; exact h3
  exact ⟨h2, by simpa using h2, h3, h, fun e => h e.symm⟩
set_option maxRecDepth 100000 in
set_option maxHeartbeats 600000 in
theorem rReserved_calls (w : World) (hr : Rsv w) (s : ByteArray) (x : List UInt8) (hs : s.data.toList = x) :
    Calls Tryz.prog 56 #[.string s] w fun e w' => e = .returned (.bool (resv x)) ∧ w' = w := by
  obtain ⟨b, off, cap, c0, hc1, hc2, hc⟩ := hr
  obtain ⟨R, hR⟩ : ∃ R, resv x = R := ⟨_, rfl⟩
  rw [hR]
  replace hR := hide hR
  have hs' := hide hs
  clear hs
  have hc' := hide hc
  clear hc
  go_enter Tryz.func56, Tryz.ntmps56
  go_wp2
  go_loop [3] (fun j => ∃ k : Nat, k ≤ 44 ∧ j = .int .i64 k ∧ Hid (∀ m, m < k → words.getD m [] ≠ x)) (fun j => 44 - (intOf j).toNat)
  case atStart => exact ⟨0, Nat.zero_le _, rfl, fun m h => absurd h (Nat.not_lt_zero m)⟩
  case round =>
    obtain ⟨k, hk, rfl, hno⟩ := hrel
    by_cases hlt : k < 44
    · have hlt1 : (k : Int) < 44 := by omega
      have ck := hc'.out k hlt
      obtain ⟨T, hT⟩ : ∃ T : ByteArray, (⟨(words.getD k []).toArray⟩ : ByteArray) = T := ⟨_, rfl⟩
      rw [hT] at ck
      have hTl : T.data.toList = words.getD k [] := by rw [← hT]
      by_cases he : words.getD k [] = x
      · have hTs : T = s := by
          have h1 : T.data.toList = s.data.toList := by rw [hTl, he, hs'.out]
          cases T with
          | mk a => cases s with
            | mk c => simp at h1; rw [h1]
        subst hTs
        have hin : Hid (R = true) := by
          rw [← hR.out, ← he]
          have hm : words.getD k [] ∈ words := by
            rw [List.getD_eq_getElem?_getD, List.getElem?_eq_getElem (show k < words.length from hlt)]
            exact List.getElem_mem _
          exact List.contains_iff_mem.2 hm
        clear hT hTl he hno
        go_wp2
        go_ret
        exact ⟨ret_bool (a := true) hin.out.symm, rfl⟩
      · have hne : T ≠ s := fun e => he (by rw [← hTl, e, hs'.out])
        obtain ⟨n1, n2, n3, n4, n5⟩ := str_ne4 hne
        have hno2 : Hid (∀ m, m < k + 1 → words.getD m [] ≠ x) := by
          intro m hm
          by_cases h : m = k
          · rw [h]; exact he
          · exact hno.out m (by omega)
        clear hT hTl he hno
        go_wp2
        go_round
        case rel => exact ⟨k + 1, by omega, by go_num, hno2⟩
        case measure => simp [intOf]; omega
    · have hout : Hid (R = false) := by
        rw [← hR.out]
        have hk17 : k = 44 := by omega
        have hnm : ¬ x ∈ words := by
          intro hm
          obtain ⟨j, hj, e⟩ := List.getElem_of_mem hm
          refine hno.out j (by rw [hk17]; exact hj) ?_
          rw [List.getD_eq_getElem?_getD, List.getElem?_eq_getElem hj]
          exact e
        rw [Bool.eq_false_iff]
        intro h
        exact hnm (List.contains_iff_mem.1 h)
      have hlt1 : ¬ (k : Int) < 44 := by omega
      go_wp2
      go_ret
      exact ⟨ret_bool (a := false) hout.out.symm, rfl⟩
end Go.Proofs.YtackibimlpkcmaaGreatDoor
/- ==== ScanLaid2 ==== -/
namespace Go.Proofs.YtackibimlpkcmaaGreatDoor
open Go.RowKit
set_option linter.unusedVariables false
def wordsData : List (DataW Unit) := words.map fun x => .lit (.string x)
theorem gRsv : Tryz.prog.globalNamed "arbiter/arbiterref3.reserved" = some 1 := by kernel_rfl
theorem tRsv : ∃ t, (Tryz.prog.globals[1]?).map (·.type) = some t ∧ Tryz.prog.underlying t = some (.slice 9) := ⟨99, by kernel_rfl, by kernel_rfl⟩
theorem cStr : Tryz.prog.cellsOf 9 = 1 := by kernel_rfl
theorem dRsv : (Rows.laid_arbiter_arbiterref3_reserved : DataW Unit) = .slice wordsData [] := by kernel_rfl
theorem wordsData_len : wordsData.length = 44 := by decide +kernel
theorem rsv_of_trod {W : World} {cs : Array Value} {H : Type} {f : Nat} {base : Nat} {sp : Nat → Bool} {held : Bool} {enc : TypeId × Value → Unit} {t : TypeId} {ps : List MemPlace} (hv : W.var? Tryz.prog "arbiter/arbiterref3.reserved" = some cs) (ht : Tryz.prog.underlying t = some (.slice 9))
    (h : DataW.trod enc Tryz.prog W base sp held f t cs.toList = some (.slice wordsData [], ps)) : Rsv W := by
  obtain ⟨a, cap, e1, h1, h2⟩ := open_row ht cStr h
  have hcap : cap ≤ maxLen := by
    rcases DataW.trod_slice ht h with ⟨e2, _⟩ | ⟨a', len, cap', elems, rest, n, _, e2, _, _, _, hm, _⟩
    · rw [e1] at e2
      simp at e2
    · rw [e1] at e2
      simp at e2
      rw [e2.2.2]
      exact hm
  rw [wordsData_len] at e1 h1
  have hcell : W.cell? ⟨1, 0, none⟩ = some (.slice (some a) 44 cap) := by
    unfold World.var? at hv
    rw [gRsv] at hv
    simp only [Option.bind_some] at hv
    unfold World.cell?
    cases hb : W.heap[(1 : Nat)]? with
    | none => rw [hb] at hv; simp at hv
    | some o =>
      rw [hb] at hv
      cases o with
      | cells c T fz =>
        simp only [Option.some.injEq] at hv
        subst hv
        have : c = #[.slice (some a) 44 cap] := by
          cases c
          simpa using e1
        subst this
        simp
      | _ => simp at hv
  have hw : ∀ j, j < 44 → W.cell? (a.add j) = some (.string ⟨(words.getD j []).toArray⟩) := by
    intro j hj
    have hd : wordsData[j]? = some (.lit (.string (words.getD j []))) := by
      unfold wordsData
      rw [List.getElem?_map, List.getD_eq_getElem?_getD, List.getElem?_eq_getElem (show j < words.length from hj)]
      rfl
    obtain ⟨v, n, q, c1, c2⟩ := h2 j _ hd
    obtain ⟨s, e3, e4, _⟩ := DataW.trod_string Tryz.underlying9 c2
    have ev : v = .string s := by simpa using e3
    have es : words.getD j [] = s.data.toList := by simpa using (Prod.mk.inj e4).1
    rw [c1, ev, es]
  have hspot : a.spot = none := by
    have := World.cell?_spot (hw 0 (by decide))
    simpa [Addr.add] using this
  obtain ⟨b, off, spot⟩ := a
  simp only at hspot
  subst hspot
  exact ⟨b, off, cap, hcell, h1, by unfold maxLen at hcap; omega, fun j hj => by
    have h := hw j hj
    by_cases h0 : j = 0
    · subst h0
      exact h
    · simpa [Addr.add, h0] using h⟩
/-- What the row's list gives. -/
theorem both_of {W : World} (h : laidMetH Tryz.prog [("arbiter/arbiterref3.reserved", Rows.laid_arbiter_arbiterref3_reserved), ("arbiter/scan.classes", Rows.laid_arbiter_scan_classes)] W) : Cls W ∧ Rsv W := by
  rw [MakeChecks.laidMetH_plain _ _ _ (by kernel_rfl)] at h
  obtain ⟨ps, ⟨g1, t1, cs1, f1, p1, q1, hg1, ht1, hv1, hd1, ⟨g0, t0, cs0, f0, p0, q0, hg0, ht0, hv0, hd0, _, _⟩, _⟩, _, _⟩ := h
  refine ⟨?_, ?_⟩
  · obtain rfl := Option.some.inj (gCls.symm.trans hg0)
    obtain ⟨u1, a1, b1, k1⟩ := tCls
    obtain rfl := Option.some.inj (a1.symm.trans ht0)
    rw [dCls] at hd0
    refine cls_of_tab ?_
    unfold Lib.TabIs
    rw [hv0, ← Lib.cells_of_tab b1 (by kernel_rfl) cByte k1 hd0]
  · obtain rfl := Option.some.inj (gRsv.symm.trans hg1)
    obtain ⟨u1, a1, b1⟩ := tRsv
    obtain rfl := Option.some.inj (a1.symm.trans ht1)
    rw [dRsv] at hd1
    exact rsv_of_trod (H := Unit) hv1 b1 hd1
/-- A world that holds both. -/
theorem both_met (os : Os) (args : Array Value) : laidMet Tryz.prog [("arbiter/arbiterref3.reserved", Rows.laid_arbiter_arbiterref3_reserved), ("arbiter/scan.classes", Rows.laid_arbiter_scan_classes)] (({ World.holding Tryz.prog os ⟨#[], #[], []⟩ with heap := ((((World.holding Tryz.prog os ⟨#[], #[], []⟩).heap).modify 0 (fun | .cells _ t fz => .cells ((clsAll.map (fun z : Nat => Value.int .u8 (z : Int))).toArray) t fz | o => o)).modify 1 (fun | .cells _ t fz => .cells #[.slice (some ⟨(World.holding Tryz.prog os ⟨#[], #[], []⟩).heap.size, 0, none⟩) 44 44] t fz | o => o)).push (.cells ((words.map (fun x => Value.string ⟨x.toArray⟩)).toArray) 9 (0, 0)) } : World).forCall (fun _ _ => 0) ⟨#[], args, []⟩).memory :=
  laidMet_of_run' 8 (by kernel_rfl) (by kernel_rfl)
end Go.Proofs.YtackibimlpkcmaaGreatDoor
