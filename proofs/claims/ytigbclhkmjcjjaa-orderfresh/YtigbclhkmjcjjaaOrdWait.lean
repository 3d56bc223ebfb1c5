/-
  Waiting: those that wait, in their order, in a list of the call's own.
-/
import Derived.Test.YtigbclhkmjcjjaaOrdList
import Derived.Test.YtigbclhkmjcjjaaShelf
import Derived.Test.YtigbclhkmjcjjaaOrdBegun
namespace Go.Proofs.Ytigbclhkmjcjjaa
open Go.RowKit
set_option linter.unusedVariables false
theorem grow_heap (w : World) (os : Array Obj) : (Go.Sort.grow w os).heap = w.heap ++ os := rfl
theorem put_heap {α : Type} [Inhabited α] (enc : α → Value) (w : World) (g : Nat) (d : Array α) : (Go.Sort.putRow enc w g 0 d).heap = w.heap.modify g (Go.Sort.onCells (Go.Sort.putCells enc 0 d)) := rfl
theorem sortWorld_chg {α : Type} [Inhabited α] (enc : α → Value) (w : World) (g m : Nat) (d : Array α) (os : Array Obj) : Chg [g] w (Go.Proofs.sortWorld enc w g 0 m d os) := by
  refine ⟨rfl, rfl, rfl, ?_, fun b hb hn => ?_⟩
  · show w.heap.size ≤ (w.heap.modify g _ ++ os).size
    simp
  · show (w.heap.modify g _ ++ os)[b]? = _
    rw [Array.getElem?_append_left (by simpa using hb), Array.getElem?_modify, if_neg (fun c => hn (by simp [c]))]
theorem owns_sorted {α : Type} [Inhabited α] (enc : α → Value) {w : World} {base g n cap : Nat} {t : TypeId} {xs : List Value} (h : w.ownsRow base t 1 (.slice (some ⟨g, 0, none⟩) n cap) n xs) (d : Array α) (hd : d.size = n) (m : Nat) (os : Array Obj) :
    (Go.Proofs.sortWorld enc w g 0 m d os).ownsRow base t 1 (.slice (some ⟨g, 0, none⟩) n cap) n (d.toList.map enc) := by
  obtain ⟨hl, h⟩ := h
  refine ⟨by simp [hd], ?_⟩
  rcases h with ⟨h, _⟩ | ⟨g', cap', cur, e, hB, hg, h1, h2, h3, h4⟩
  · cases h
  · cases e
    refine .inr ⟨g, cap, Go.Sort.putCells enc 0 d cur, rfl, hB, ?_, h1, h2, ?_, ?_⟩
    · show (w.heap.modify g _ ++ os)[g]? = _
      have hlt := (Array.getElem?_eq_some_iff.1 hg).1
      rw [Array.getElem?_append_left (by simpa using hlt), Array.getElem?_modify, if_pos rfl, hg]
      rfl
    · unfold Go.Sort.putCells
      rw [Array.size_mapIdx]
      exact h3
    · unfold Go.Sort.putCells
      apply List.ext_getElem?
      intro k
      rw [List.getElem?_take, Array.getElem?_toList, List.getElem?_map, Array.getElem?_toList, Array.getElem?_mapIdx]
      by_cases c : k < n
      · rw [if_pos (by omega), Array.getElem?_eq_getElem (by omega : k < cur.size), Array.getElem?_eq_getElem (by omega : k < d.size), Option.map_some, Option.map_some, if_pos ⟨Nat.zero_le _, by omega⟩, Nat.sub_zero, getElem!_pos d k (by omega)]
      · rw [if_neg (by omega), Array.getElem?_eq_none (by omega)]
        rfl
theorem owns_holds {α : Type} [Inhabited α] (enc : α → Value) {w : World} {base g n cap : Nat} {t : TypeId} (d : Array α) (hd : d.size = n) (h : w.ownsRow base t 1 (.slice (some ⟨g, 0, none⟩) n cap) n (d.toList.map enc)) : Go.Sort.Holds enc w g 0 d := by
  intro j hj
  refine ⟨?_, h.frozenAt _⟩
  rw [h.cellAt (0 + j) (by omega), Nat.zero_add, List.getElem?_map, Array.getElem?_toList, Array.getElem?_eq_getElem hj, getElem!_pos d j hj]
  rfl
theorem owns_base {w : World} {base base' n : Nat} {t : TypeId} {v : Value} {xs : List Value} (h : w.ownsRow base t 1 v n xs) (hb : base' ≤ base) : w.ownsRow base' t 1 v n xs := by
  obtain ⟨hl, h⟩ := h
  refine ⟨hl, ?_⟩
  rcases h with h | ⟨g, cap, cur, e, hB, hr⟩
  · exact .inl h
  · exact .inr ⟨g, cap, cur, e, Nat.le_trans hb hB, hr⟩
/- Variables' numbers. -/
def vf (n v : Nat) : Fin (n + 1) := ⟨min v n, by omega⟩
def vEnc (n : Nat) (x : Fin (n + 1)) : Value := .int .i64 ((x.1 : Nat) : Int)
def vCmp (A : List Nat) (n : Nat) (x y : Fin (n + 1)) : Int := if O.ahd A x.1 y.1 = true then -1 else 1
theorem vLt (A : List Nat) (n : Nat) (x y : Fin (n + 1)) : Go.Proofs.ltOf (vCmp A n) x y = O.ahd A x.1 y.1 := by
  unfold Go.Proofs.ltOf vCmp
  cases O.ahd A x.1 y.1 <;> simp
theorem vSwo (A : List Nat) (n : Nat) : Go.Sort.SWO (Go.Proofs.ltOf (vCmp A n)) where
  irrefl x := by rw [vLt, O.ahd_irr]
  trans x y z h1 h2 := by rw [vLt] at *; exact O.ahd_trans h1 h2
  ntrans x y z h1 h2 := by rw [vLt] at *; exact O.not_trans h1 h2
theorem vTot (A : List Nat) (n : Nat) (x y : Fin (n + 1)) (h1 : Go.Proofs.ltOf (vCmp A n) x y = false) (h2 : Go.Proofs.ltOf (vCmp A n) y x = false) : x = y := by
  rw [vLt] at *
  by_cases c : x.1 = y.1
  · exact Fin.ext c
  · rcases O.ahd_total (A := A) c with q | q
    · rw [h1] at q; cases q
    · rw [h2] at q; cases q
theorem sort_lst {n : Nat} {A H : List Nat} {pl : List Int} (h : O.HV n H pl) :
    O.Lst A n (fun v => pl.getD v 0 ≠ -1) ((((H.map (vf n)).mergeSort fun x y => !(Go.Proofs.ltOf (vCmp A n)) y x)).map (·.1)) ∧ (((H.map (vf n)).mergeSort fun x y => !(Go.Proofs.ltOf (vCmp A n)) y x)).length = H.length := by
  have eH : (H.map (vf n)).map (·.1) = H := by
    rw [List.map_map]
    refine (List.map_congr_left ?_).trans (List.map_id _)
    intro v hv
    have := (h.mem v).1 hv
    show min v n = v
    omega
  have p := List.mergeSort_perm (H.map (vf n)) (fun x y => !(Go.Proofs.ltOf (vCmp A n)) y x)
  refine ⟨O.lst_of_perm h ?_ ?_, by rw [p.length_eq, List.length_map]⟩
  · have := p.map (fun x : Fin (n + 1) => x.1)
    rw [eH] at this
    exact this
  · rw [List.pairwise_map]
    have q := List.pairwise_mergeSort (le := fun x y => !(Go.Proofs.ltOf (vCmp A n)) y x) (fun a b c h1 h2 => by
      simp only [Bool.not_eq_true'] at *
      rw [vLt] at *
      exact O.not_trans h2 h1) (fun a b => by
      rw [vLt, vLt]
      cases h1 : O.ahd A b.1 a.1
      · rfl
      · rw [O.ahd_asymm h1]; rfl) (H.map (vf n))
    refine q.imp ?_
    intro a b hab
    simp only [Bool.not_eq_true'] at hab
    rw [vLt] at hab
    exact hab
set_option maxHeartbeats 1600000 in
theorem wcl_calls (w : World) (o : Oid) (s : OS) (h : Ord w o s) (hA : ∀ j, s.A.getD j 0 ≤ FL.inf) (bx : Nat) (hbx : w.cell? ⟨bx, 0, none⟩ = some (optr o)) (a b : Nat) (ha : a ≤ o.n) (hb : b ≤ o.n) :
    Calls Try.prog 32 #[.int .i64 (a : Int), .int .i64 (b : Int), .pointer (some ⟨bx, 0, none⟩)] w fun e w' => e = .returned (.int .i64 (if O.ahd s.A a b = true then -1 else 1)) ∧ ∃ q, w' = w.drewN q := by
  have AH := ahead_calls w o s h hA a b ha hb
  cases hc : O.ahd s.A a b
  all_goals
    rw [hc] at AH
    replace AH := hide AH
    clear h hA hc
    go_enter Try.func32, Try.ntmps32
    go_wp2_with fail
    refine AH.out.mono ?_
    rintro e w1 ⟨rfl, m, rfl⟩
    go_wp2
    go_ret
    exact ⟨rfl, m, rfl⟩
set_option maxRecDepth 100000 in
set_option maxHeartbeats 4000000 in
theorem waiting_calls (w : World) (o : Oid) (s : OS) (h : Good w o s) :
    Calls Try.prog 14 #[optr o] w fun e w' => ∃ v l, e = .returned v ∧ Wl o s l ∧ l.length = s.hl ∧ w'.ownsRow w.heap.size 3 1 v l.length (l.map fun x : Nat => Value.int .i64 (x : Int)) ∧ Below w.heap.size w w' := by
  have hn := h.ord.hn
  have hhl := h.ord.hhl
  have hZ : s.Z.length = o.n := h.ord.2.2.2.2.2.2.2.1
  obtain ⟨SL, SLn⟩ := sort_lst (A := s.A) h.hv
  have hlen := h.len
  rw [hlen] at SLn
  have HB : ∀ v, v ∈ s.Z.take s.hl → v ≤ o.n := fun v hv => ((h.hv.mem v).1 hv).2.1
  have eC : ((((s.Z.map Int.ofNat).take s.hl)).map (Value.int .i64)) = (((s.Z.take s.hl).map (vf o.n)).toArray.toList.map (vEnc o.n)) := by
    rw [List.map_take, List.map_map, ← List.map_take, List.map_map]
    refine List.map_congr_left ?_
    intro v hv
    have := HB v hv
    show Value.int .i64 (v : Int) = .int .i64 ((min v o.n : Nat) : Int)
    rw [Nat.min_eq_left this]
  have A0 : Hid ((w.alloc (.cells #[optr o] 23)).heap[w.heap.size]? = some (.cells #[optr o] 23 (0, 0))) := heap_alloc_new w _
  have BA : Below w.heap.size w (w.alloc (.cells #[optr o] 23)) := grown_below (World.grownBy_alloc w _ none)
  have sza : (w.alloc (.cells #[optr o] 23)).heap.size = w.heap.size + 1 := by show (w.heap.push _).size = _; rw [Array.size_push]
  have CA : Chg [] w (w.alloc (.cells #[optr o] 23)) := (Chg.refl _ w).alloc _
  have GA := h.keep CA (fun _ _ => by simp)
  have hlt := h.ord.lt
  have cb : (w.alloc (.cells #[optr o] 23)).cell? ⟨w.heap.size, 0, none⟩ = some (optr o) := by
    rw [block_cell A0.out]
    rfl
  have c3 := GA.ord.c3
  have CL := Try.slices_Clone_int o.gh 0 s.hl o.n (s.Z.map Int.ofNat) (w.alloc (.cells #[optr o] 23)) (by rw [List.length_map]; omega) (by omega) (fun j hj => by
    rw [List.length_map] at hj
    rw [Nat.zero_add, GA.ord.hea (by omega)]
    simp [List.getD_eq_getElem?_getD, List.getElem?_eq_getElem hj])
  rw [eC] at CL
  replace CL := hide CL
  replace SL := hide SL
  replace SLn := hide SLn
  replace BA := hide BA
  replace GA := hide GA
  replace hlt := hide hlt
  replace hlen := hide hlen
  replace sza := hide sza
  have hB := hide HB
  clear eC HB h CA
  obtain ⟨H, hH⟩ : ∃ H, s.Z.take s.hl = H := ⟨_, rfl⟩
  rw [hH] at CL SL SLn hlen
  clear hH
  go_enter Try.func14, Try.ntmps14
  go_wp2_with fail
  generalize hwa : w.alloc (.cells #[optr o] 23) = wa at *
  refine CL.out.mono ?_
  rintro e w1 ⟨v1, rfl, OW, nn, B1⟩
  clear CL hwa c3
  rcases id OW.2 with ⟨e, _⟩ | ⟨g, cap, cur, rfl, hgB, _⟩
  · exact absurd e nn
  have hgs : g < w1.heap.size := (OW.lt g rfl).2
  have G1 : Good w1 o s := GA.out.keep (Chg.of_below (S := []) B1) (fun _ _ => by simp)
  have gn : g ∉ blks o := fun c => by
    have := hlt.out g c
    have := sza.out
    omega
  have cb1 : w1.cell? ⟨w.heap.size, 0, none⟩ = some (optr o) := by rw [B1.cell (show w.heap.size < wa.heap.size by have := sza.out; omega)]; exact cb
  have eg : ∀ args w, (callFunc 32 args).run Try.prog w = .ok (.enter 32 args) w := enters_of Try.func32 (by kernel_rfl) rfl
  have CR : Go.Proofs.CmpReads Try.prog 32 #[.pointer (some ⟨w.heap.size, 0, none⟩)] (vEnc o.n) (vCmp s.A o.n) g 0 ((H.map (vf o.n)).toArray).size w1 := by
    intro m os dk hdk x y
    have CC := sortWorld_chg (vEnc o.n) w1 g m dk os
    have GW := G1.keep CC (fun b hb c => gn (by simp at c; rw [← c]; exact hb))
    refine wcl_calls _ o s GW.ord GW.act w.heap.size ?_ x.1 y.1 (by omega) (by omega)
    have hne : w.heap.size ∉ [g] := by
      simp
      have := sza.out
      omega
    show World.cell? _ _ = _
    have hb1 : w.heap.size < w1.heap.size := by have := B1.size; have := sza.out; omega
    unfold World.cell? at cb1 ⊢
    rw [CC.block _ hb1 hne]
    exact cb1
  have SC := Try.slices_SortFunc_total (vEnc o.n) (fun _ => rfl) (vCmp s.A o.n) (vSwo s.A o.n) 32 #[.pointer (some ⟨w.heap.size, 0, none⟩)] g 0 cap (H.map (vf o.n)).toArray w1 eg CR.lays (owns_holds _ _ (by simp [hlen.out]) OW) hgs (by simp [hlen.out]; omega) (vTot s.A o.n)
  have esz : (H.map (vf o.n)).toArray.size = s.hl := by simp [hlen.out]
  rw [esz] at SC
  replace SC := hide SC
  replace OW := hide OW
  replace B1 := hide B1
  replace cb1 := hide cb1
  replace G1 := hide G1
  clear CR eg esz nn cb
  go_wp2_with fail
  refine SC.out.mono ?_
  rintro e w2 ⟨rfl, n, os, rfl⟩
  clear SC
  go_wp2
  go_ret
  generalize hm : ((H.map (vf o.n)).mergeSort fun x y => !(Go.Proofs.ltOf (vCmp s.A o.n)) y x) = srt at *
  refine ⟨_, srt.map (·.1), rfl, SL.out, by rw [List.length_map]; exact SLn.out, ?_, ?_⟩
  · have := owns_sorted (vEnc o.n) OW.out srt.toArray (by simp [SLn.out]) n os
    rw [List.length_map, SLn.out, List.map_map]
    exact owns_base this (by have := sza.out; omega)
  · exact below_chg (BA.out.then_below B1.out) (S := [g]) (fun b hb => by simp at hb; subst hb; have := sza.out; omega) (sortWorld_chg _ _ _ _ _ _)
end Go.Proofs.Ytigbclhkmjcjjaa
