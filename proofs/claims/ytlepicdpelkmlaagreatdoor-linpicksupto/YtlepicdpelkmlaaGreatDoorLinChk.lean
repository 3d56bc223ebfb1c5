/-
  Package lin: its checks of numbers; delta numbers compared, and taken at a number.
-/
import Derived.Test.YtlepicdpelkmlaaGreatDoorLinNum
import Derived.Deep.RegionHeld3
import Derived.Deep.DeepCutAuto
namespace Go.Proofs.YtlepicdpelkmlaaGreatDoor
open Go.RowKit
set_option linter.unusedVariables false
def okB (t : ByteArray) : Bool := canB t.data.toList
def StrAt (w : World) (g : Nat) (ts : List ByteArray) : Prop := ∀ j, j < ts.length → w.cell? ⟨g, j, none⟩ = some (.string (ts.getD j ByteArray.empty))
theorem all_take {α : Type} (f : α → Bool) (ts : List α) (d : α) (k : Nat) (h : k < ts.length) (h1 : (ts.take k).all f = true) (h2 : f (ts.getD k d) = true) : (ts.take (k + 1)).all f = true := by
  rw [List.take_add_one, List.getElem?_eq_getElem h, List.all_append, h1, Bool.true_and]
  rw [List.getD_eq_getElem?_getD, List.getElem?_eq_getElem h] at h2
  simpa using h2
theorem all_no {α : Type} (f : α → Bool) (ts : List α) (d : α) (k : Nat) (h : k < ts.length) (h2 : f (ts.getD k d) = false) : ts.all f = false := by
  rw [List.getD_eq_getElem?_getD, List.getElem?_eq_getElem h] at h2
  rw [List.all_eq_false]
  exact ⟨ts[k], List.getElem_mem h, by simpa using h2⟩
set_option maxRecDepth 100000 in
set_option maxHeartbeats 4000000 in
theorem chkNum_calls (w : World) (g cap : Nat) (ts : List ByteArray) (hc : StrAt w g ts) (hn : ts.length ≤ 1073741824) (hz : ∀ t ∈ ts, t.size ≤ 1073741824) (env : LEnv w) :
    Calls Tryz.prog 25 #[.slice (some ⟨g, 0, none⟩) ts.length cap] w fun e w' => e = .returned (.int .i64 (if ts.all okB then 0 else 1)) ∧ Below w.heap.size w w' := by
  obtain ⟨n, hN⟩ : ∃ n, ts.length = n := ⟨_, rfl⟩
  obtain ⟨R, hR⟩ : ∃ R : Int, (if ts.all okB then 0 else 1) = R := ⟨_, rfl⟩
  rw [hR]
  replace hR := hide hR
  have hcH := hide hc
  have qL := hide (fun W (q : Below w.heap.size w W) s (hs : s.size ≤ 1073741824) => nLook W s hs (env.1.below q))
  rw [← t_zero] at qL
  have eH := hide env
  have hin : Hid (∀ k, k < n → ts.getD k ByteArray.empty ∈ ts) := fun k hk => by
    rw [← hN] at hk
    rw [List.getD_eq_getElem?_getD, List.getElem?_eq_getElem hk]
    exact List.getElem_mem hk
  have hzH := hide hz
  rw [hN] at hn ⊢
  have hNh := hide hN
  have B0 : Hid (Below w.heap.size w w) := Below.refl _ w
  clear hc hz env hN
  go_enter Tryz.func25, Tryz.ntmps25
  go_wp2
  go_loopw [9] (fun j wr => ∃ k : Nat, k ≤ n ∧ j = .int .i64 k ∧ Hid ((ts.take k).all okB = true) ∧ Hid (Below w.heap.size w wr)) (fun j _ => n - (intOf j).toNat)
  case atStart => exact ⟨0, Nat.zero_le _, rfl, by show _ = _; rw [List.take_zero]; rfl, B0⟩
  case round =>
    clear B0
    obtain ⟨k, hk, rfl, hA, hB⟩ := hrel
    by_cases hlt : k < n
    · have c0 := hcH.out k (by rw [hNh.out]; exact hlt)
      have gl := World.block_lt_of_cell? w _ c0
      replace c0 := (hB.out.cell (p := ⟨g, k, none⟩) gl).trans c0
      have sz := hzH.out _ (hin.out k hlt)
      have zc := (eH.out.below hB.out).2.1
      have q := hide (qL.out wr hB.out _ sz)
      have good := hide (fun h => all_take okB ts ByteArray.empty k (by rw [hNh.out]; exact hlt) hA.out h)
      have bad := hide (fun h => all_no okB ts ByteArray.empty k (by rw [hNh.out]; exact hlt) h)
      generalize ts.getD k ByteArray.empty = t at c0 sz q good bad
      have i1 : (k : Int) < n := by omega
      clear gl
      go_wp2_with fail
      refine q.out.mono ?_
      rintro e w1 ⟨⟨c, rfl⟩, b1⟩
      have B1 := hide (hB.out.then_below b1)
      clear q b1
      cases hok : canB t.data.toList
      · have hb : (1 : Int) = R := by rw [← hR.out, bad.out hok]; rfl
        rw [if_neg (by decide)]
        replace hb := hide hb
        go_wp2
        go_ret
        exact ⟨congrArg (fun x => Ending.returned (.int .i64 x)) hb.out, B1.out⟩
      · have hg := hide (good.out hok)
        rw [if_pos rfl]
        go_wp2
        go_roundw
        case rel => exact ⟨k + 1, by omega, by go_num, hg, B1⟩
        case measure => simp [intOf]; omega
    · obtain rfl : k = n := by omega
      have i1 : ¬ (k : Int) < k := by omega
      have e : (0 : Int) = R := by
        rw [← hR.out, if_pos]
        have := hA.out
        rwa [List.take_of_length_le (by rw [hNh.out]; exact Nat.le_refl _)] at this
      replace e := hide e
      go_wp2
      go_ret
      exact ⟨congrArg (fun x => Ending.returned (.int .i64 x)) e.out, hB.out⟩
structure Dl where
  a : ByteArray
  b : ByteArray
def Dl.z : Dl := ⟨ByteArray.empty, ByteArray.empty⟩
def okD (d : Dl) : Bool := okB d.a && okB d.b
def DelAt (w : World) (g : Nat) (ds : List Dl) : Prop := ∀ j, j < ds.length → w.cell? ⟨g, j * 2, none⟩ = some (.string (ds.getD j Dl.z).a) ∧ w.cell? ⟨g, j * 2 + 1, none⟩ = some (.string (ds.getD j Dl.z).b)
theorem strAt_two (w : World) (a b : ByteArray) : StrAt (w.alloc (.cells #[.string a, .string b] 9)) w.heap.size [a, b] := fun j hj => by
  obtain ⟨h0, h1⟩ := two_cells w (.string a) (.string b) 9
  have hj : j < 2 := hj
  rcases (by omega : j = 0 ∨ j = 1) with rfl | rfl
  · exact h0
  · exact h1
set_option maxRecDepth 100000 in
set_option maxHeartbeats 4000000 in
theorem chkDel_calls (w : World) (g cap : Nat) (ds : List Dl) (hc : DelAt w g ds) (hn : ds.length ≤ 1073741824) (hz : ∀ d ∈ ds, d.a.size ≤ 1073741824 ∧ d.b.size ≤ 1073741824) (env : LEnv w) :
    Calls Tryz.prog 9 #[.slice (some ⟨g, 0, none⟩) ds.length cap] w fun e w' => e = .returned (.int .i64 (if ds.all okD then 0 else 1)) ∧ Below w.heap.size w w' := by
  obtain ⟨n, hN⟩ : ∃ n, ds.length = n := ⟨_, rfl⟩
  obtain ⟨R, hR⟩ : ∃ R : Int, (if ds.all okD then 0 else 1) = R := ⟨_, rfl⟩
  rw [hR]
  replace hR := hide hR
  have hcH := hide hc
  have eH := hide env
  have hin : Hid (∀ k, k < n → ds.getD k Dl.z ∈ ds) := fun k hk => by
    rw [← hN] at hk
    rw [List.getD_eq_getElem?_getD, List.getElem?_eq_getElem hk]
    exact List.getElem_mem hk
  have hzH := hide hz
  rw [hN] at hn ⊢
  have hNh := hide hN
  have B0 : Hid (Below w.heap.size w w) := Below.refl _ w
  clear hc hz env hN
  go_enter Tryz.func9, Tryz.ntmps9
  go_wp2
  go_loopw [8] (fun j wr => ∃ k : Nat, k ≤ n ∧ j = .int .i64 k ∧ Hid ((ds.take k).all okD = true) ∧ Hid (Below w.heap.size w wr)) (fun j _ => n - (intOf j).toNat)
  case atStart => exact ⟨0, Nat.zero_le _, rfl, by show _ = _; rw [List.take_zero]; rfl, B0⟩
  case round =>
    clear B0
    obtain ⟨k, hk, rfl, hA, hB⟩ := hrel
    by_cases hlt : k < n
    · obtain ⟨c0, c1⟩ := hcH.out k (by rw [hNh.out]; exact hlt)
      have gl := World.block_lt_of_cell? w _ c0
      replace c0 := (hB.out.cell (p := ⟨g, k * 2, none⟩) gl).trans c0
      replace c1 := (hB.out.cell (p := ⟨g, k * 2 + 1, none⟩) gl).trans c1
      have sz := hzH.out _ (hin.out k hlt)
      have good := hide (fun h => all_take okD ds Dl.z k (by rw [hNh.out]; exact hlt) hA.out h)
      have bad := hide (fun h => all_no okD ds Dl.z k (by rw [hNh.out]; exact hlt) h)
      generalize ds.getD k Dl.z = d at c0 c1 sz good bad
      obtain ⟨a, b⟩ := d
      simp only at c0 c1 sz
      have BA := hide ((hB.out.alloc hB.out.size (.cells #[.string a, .string b] 41)).alloc (by have := hB.out.size; simp; omega) (.cells #[.string a, .string b] 9))
      have q := hide (chkNum_calls ((wr.alloc (.cells #[.string a, .string b] 41)).alloc (.cells #[.string a, .string b] 9)) (wr.alloc (.cells #[.string a, .string b] 41)).heap.size 2 [a, b] (strAt_two _ a b) (by simp) (fun t ht => by
        rcases List.mem_cons.1 ht with rfl | ht
        · exact sz.1
        · rw [List.mem_singleton] at ht; subst ht; exact sz.2) (eH.out.below BA.out))
      rw [World.size_alloc] at q
      have i1 : (k : Int) < n := by omega
      clear gl sz
      go_wp2_with fail
      refine q.out.mono ?_
      rintro e w1 ⟨rfl, b1⟩
      have B1 := hide (BA.out.then_below b1)
      clear q b1 BA
      have eo : [a, b].all okB = okD ⟨a, b⟩ := by simp [okD]
      rw [eo]
      cases hok : okD ⟨a, b⟩
      · have hb : (1 : Int) = R := by rw [← hR.out, bad.out hok]; rfl
        rw [if_neg (by decide)]
        replace hb := hide hb
        go_wp2
        go_ret
        exact ⟨congrArg (fun x => Ending.returned (.int .i64 x)) hb.out, B1.out⟩
      · have hg := hide (good.out hok)
        rw [if_pos rfl]
        go_wp2
        go_roundw
        case rel => exact ⟨k + 1, by omega, by go_num, hg, B1⟩
        case measure => simp [intOf]; omega
    · obtain rfl : k = n := by omega
      have i1 : ¬ (k : Int) < k := by omega
      have e : (0 : Int) = R := by
        rw [← hR.out, if_pos]
        have := hA.out
        rwa [List.take_of_length_le (by rw [hNh.out]; exact Nat.le_refl _)] at this
      replace e := hide e
      go_wp2
      go_ret
      exact ⟨congrArg (fun x => Ending.returned (.int .i64 x)) e.out, hB.out⟩
end Go.Proofs.YtlepicdpelkmlaaGreatDoor
