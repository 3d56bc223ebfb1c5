/-
  Take: the foremost of those that wait.
-/
import Derived.Test.YtigbclhkmjcjjaaOrdBump
namespace Go.Proofs.Ytigbclhkmjcjjaa
open Go.RowKit
set_option linter.unusedVariables false
namespace O
/-- The foremost stands first. -/
theorem heap_top {A H : List Nat} (h : Heap A H) : ∀ i, i < H.length → ahd A (H.getD i 0) (H.getD 0 0) = false := by
  intro i
  induction i using Nat.strongRecOn with
  | ind i ih =>
    intro hi
    by_cases h0 : i = 0
    · subst h0; exact ahd_irr _ _
    · have h1 := h i (by omega) hi (Nat.zero_le _)
      have hp : par i < i := by unfold par; omega
      exact not_trans h1 (ih (par i) hp (by omega))
/-- Behind the foremost is taken: the heap less its last, which stood first. -/
theorem hv_take {n : Nat} {H : List Nat} {pl : List Int} (h : HV n H pl) (h0 : 0 < H.length) :
    HV n ((swp H 0 (H.length - 1)).take (H.length - 1)) ((swpl H pl 0 (H.length - 1)).set (H.getD 0 0) (-1)) ∧ ∀ v, ((swpl H pl 0 (H.length - 1)).set (H.getD 0 0) (-1)).getD v 0 = -1 ↔ (pl.getD v 0 = -1 ∨ v = H.getD 0 0) := by
  have hb := h.2.2.1 0 h0
  obtain ⟨⟨g1, g2, g3, g4⟩, hi⟩ := hv_swp h (i := 0) (j := H.length - 1) h0 (by omega)
  have hs := fun k => swp_at H h0 (by omega : H.length - 1 < H.length) k
  have hlen : (swp H 0 (H.length - 1)).length = H.length := swp_length _ _ _
  have el : (swp H 0 (H.length - 1)).getD (H.length - 1) 0 = H.getD 0 0 := by rw [hs, if_pos rfl]
  generalize hH' : swp H 0 (H.length - 1) = H' at *
  generalize hpl' : swpl H pl 0 (H.length - 1) = pl' at *
  have hinj : ∀ i, i < H.length - 1 → H'.getD i 0 ≠ H.getD 0 0 := by
    intro i hi c
    have a := (g3 i (by omega)).2.2
    have b := (g3 (H.length - 1) (by omega)).2.2
    rw [el] at b
    rw [c, b] at a
    omega
  have hlt : H.getD 0 0 < pl'.length := by omega
  have hset : ∀ v, (pl'.set (H.getD 0 0) (-1)).getD v 0 = if v = H.getD 0 0 then -1 else pl'.getD v 0 := by
    intro v
    rw [getD_set']
    by_cases c : v = H.getD 0 0
    · rw [if_pos ⟨c.symm, by omega⟩, if_pos c]
    · rw [if_neg (fun z => c z.1.symm), if_neg c]
  have htk : (H'.take (H.length - 1)).length = H.length - 1 := by rw [List.length_take]; omega
  refine ⟨⟨by rw [List.length_set]; exact g1, ?_, fun i hi' => ?_, fun v v1 v2 => ?_⟩, fun v => ?_⟩
  · have a := cnt_set (pl := pl') (v := H.getD 0 0) hb.1 hlt (-1)
    have b := (g3 (H.length - 1) (by omega)).2.2
    rw [el] at b
    rw [if_neg (by rw [b]; omega), if_pos rfl] at a
    omega
  · rw [htk] at hi'
    rw [take_getD hi', hset, if_neg (hinj i hi')]
    exact g3 i (by omega)
  · rw [hset]
    by_cases c : v = H.getD 0 0
    · rw [if_pos c]; exact .inl rfl
    · rw [if_neg c]
      rcases g4 v v1 v2 with d | ⟨i, hi', d, e⟩
      · exact .inl d
      · have hne : i ≠ H.length - 1 := fun z => c (by rw [← e, z, el])
        exact .inr ⟨i, by rw [htk]; omega, d, by rw [take_getD (by omega)]; exact e⟩
  · rw [hset]
    by_cases c : v = H.getD 0 0
    · rw [if_pos c]; exact ⟨fun _ => .inr c, fun _ => rfl⟩
    · rw [if_neg c, hi v]; exact ⟨.inl, fun z => z.elim id (fun y => absurd y c)⟩
theorem dn_take {A H : List Nat} (h : Heap A H) (h0 : 0 < H.length) : Dn A ((swp H 0 (H.length - 1)).take (H.length - 1)) 0 0 := by
  have hs := fun k => swp_at H h0 (by omega : H.length - 1 < H.length) k
  have htk : ((swp H 0 (H.length - 1)).take (H.length - 1)).length = H.length - 1 := by rw [List.length_take, swp_length]; omega
  refine ⟨fun i hi0 hi _ hne => ?_, fun c => absurd c (by omega)⟩
  rw [htk] at hi
  have hp : par i < i := by unfold par; omega
  have hk := h i hi0 (by omega) (Nat.zero_le _)
  unfold ok at *
  rw [take_getD hi, take_getD (by omega), hs, hs, if_neg (by omega), if_neg (by omega), if_neg (by omega), if_neg hne]
  exact hk
end O
theorem Good.len {w : World} {o : Oid} {s : OS} (h : Good w o s) : (s.Z.take s.hl).length = s.hl := by
  have h1 : s.Z.length = o.n := h.ord.2.2.2.2.2.2.2.1
  have h2 := h.ord.hhl
  rw [List.length_take]; omega
theorem take_none (w : World) (o : Oid) (s : OS) (h : Ord w o s) (h0 : s.hl = 0) : Calls Try.prog 16 #[optr o] w fun e w' => e = .returned (.int .i64 0) ∧ w' = w := by
  have c3 := h.c3
  rw [h0] at c3
  clear h
  go_enter Try.func16, Try.ntmps16
  go_wp2
  go_ret
  exact ⟨rfl, rfl⟩
set_option maxRecDepth 100000 in
set_option maxHeartbeats 8000000 in
theorem take_calls (w : World) (o : Oid) (s : OS) (h : Good w o s) (h0 : 0 < s.hl) :
    Calls Try.prog 16 #[optr o] w fun e w' => e = .returned (.int .i64 (s.Z.getD 0 0 : Nat)) ∧
      (∃ s', Good w' o s' ∧ s'.A = s.A ∧ s'.r = s.r ∧ s'.ph = s.ph ∧ s'.hl + 1 = s.hl ∧ ∀ v, s'.pl.getD v 0 = -1 ↔ (s.pl.getD v 0 = -1 ∨ v = s.Z.getD 0 0)) ∧ Chg (blks o) w w' := by
  have hn := h.ord.hn
  have hl := h.ord.hhl
  have hlen := h.len
  obtain ⟨m, hm⟩ : ∃ m, s.hl = m + 1 := ⟨s.hl - 1, by omega⟩
  have et : (s.Z.take s.hl).getD 0 0 = s.Z.getD 0 0 := O.take_getD h0
  have c3 := h.ord.c3
  have cz := h.ord.hea (j := 0) (by omega)
  have bz := h.hv.2.2.1 0 (by omega)
  have hb := h.hv.2.2.1 m (by omega)
  have em : (s.Z.take s.hl).getD m 0 = s.Z.getD m 0 := O.take_getD (by omega)
  rw [et] at bz
  rw [em] at hb
  have SW := swap_calls w o s h.ord 0 m h0 (by omega) bz.2.1 hb.2.1
  obtain ⟨g1, g2⟩ := O.hv_take h.hv (by omega)
  have g3 := O.dn_take h.heap (by omega)
  have e1 : (s.Z.take s.hl).length - 1 = m := by omega
  have t1 : O.swp (s.Z.take s.hl) 0 m = (O.swp s.Z 0 m).take s.hl := (O.swp_take (by omega) (by omega)).symm
  have t2 : O.swpl (s.Z.take s.hl) s.pl 0 m = O.swpl s.Z s.pl 0 m := (O.swpl_take (by omega) (by omega)).symm
  rw [e1, et, t1, t2, List.take_take, Nat.min_eq_left (by omega)] at g1
  rw [e1, et, t2] at g2
  rw [e1, t1, List.take_take, Nat.min_eq_left (by omega)] at g3
  clear e1 t1 t2
  obtain ⟨z, hz⟩ : ∃ z, s.Z.getD 0 0 = z := ⟨_, rfl⟩
  rw [hz] at cz bz g1 g2 ⊢
  rw [hm] at c3
  have z1 : (z : Int) < (o.n : Int) + 1 := by omega
  have zn : z ≤ o.n := bz.2.1
  have H := hide h
  replace SW := hide SW
  replace g1 := hide g1
  replace g2 := hide g2
  replace g3 := hide g3
  replace hz := hide hz
  clear h et em bz hb hlen
  have mn : m + 1 ≤ o.n := by omega
  replace hm := hide hm
  replace hl := hide hl
  clear h0
  go_enter Try.func16, Try.ntmps16
  go_wp2_with fail
  refine SW.out.mono ?_
  rintro e w1 ⟨rfl, O1, C1⟩
  clear c3 cz
  have O2 := O1.setLen m (by omega)
  have c3 := O1.c3
  rw [show (s.swp 0 m).hl = m + 1 from hm.out] at c3
  have f3 := O1.free 3
  have c4 := O2.c4
  have cp := O2.pla zn
  have fp := O2.plaFree z
  have O3 := O2.setPla z (-1)
  have C3 : Chg (blks o) w ((w1.setCell ⟨o.P, 3, none⟩ (.slice (some ⟨o.gh, 0, none⟩) m o.n)).setCell ⟨o.gl, z, none⟩ (.int .i64 (-1))) :=
    ((C1.mono (S' := blks o) (fun b hb => by simp [blks] at *; rcases hb with rfl | rfl <;> simp)).set (by simp [blks]) _).set (by simp [blks]) _
  generalize List.getD _ z 0 = pz at cp
  have SK := sink_calls _ o _ O3 g1.out H.out.act 0 0 (Nat.le_refl _) (by rcases Nat.eq_zero_or_pos m with q | q; exact .inr ⟨q, rfl⟩; exact .inl q) g3.out
  replace O1 := hide O1
  replace O2 := hide O2
  replace O3 := hide O3
  replace C1 := hide C1
  replace C3 := hide C3
  replace SK := hide SK
  go_wp2_with fail
  refine SK.out.mono ?_
  rintro e w2 ⟨rfl, ⟨Z, pl, hh, hp⟩, C2⟩
  go_wp2
  go_ret
  refine ⟨rfl, ⟨_, ⟨hh.ord, hh.hv, hp, H.out.act, H.out.rise⟩, rfl, rfl, rfl, hm.out.symm, fun v => (hh.same v).trans (g2.out v)⟩, C3.out.trans (C2.mono (S' := blks o) (fun b hb => by simp [blks] at *; rcases hb with rfl | rfl <;> simp))⟩
end Go.Proofs.Ytigbclhkmjcjjaa
