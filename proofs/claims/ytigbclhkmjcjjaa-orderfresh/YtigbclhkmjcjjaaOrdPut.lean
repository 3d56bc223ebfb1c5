/-
  Put: a variable waits again.
-/
import Derived.Test.YtigbclhkmjcjjaaOrdTake
import Derived.ArgAppend
namespace Go.Proofs.Ytigbclhkmjcjjaa
open Go.RowKit
set_option linter.unusedVariables false
namespace O
theorem snoc_at {H : List Nat} {v i : Nat} (hi : i < H.length) : (H ++ [v]).getD i 0 = H.getD i 0 := by
  rw [List.getD_eq_getElem?_getD, List.getElem?_append_left hi, List.getD_eq_getElem?_getD]
theorem snoc_last (H : List Nat) (v : Nat) : (H ++ [v]).getD H.length 0 = v := by
  rw [List.getD_eq_getElem?_getD, List.getElem?_append_right (Nat.le_refl _)]
  simp
theorem hv_put {n : Nat} {H : List Nat} {pl : List Int} {v : Nat} (h : HV n H pl) (h1 : 1 ≤ v) (h2 : v ≤ n) (hw : pl.getD v 0 = -1) :
    HV n (H ++ [v]) (pl.set v (H.length : Int)) ∧ ∀ u, (pl.set v (H.length : Int)).getD u 0 = -1 ↔ (pl.getD u 0 = -1 ∧ u ≠ v) := by
  obtain ⟨g1, g2, g3, g4⟩ := h
  have hset : ∀ u, (pl.set v (H.length : Int)).getD u 0 = if u = v then (H.length : Int) else pl.getD u 0 := by
    intro u
    rw [getD_set']
    by_cases c : u = v
    · rw [if_pos ⟨c.symm, by omega⟩, if_pos c]
    · rw [if_neg (fun z => c z.1.symm), if_neg c]
  have hne : ∀ i, i < H.length → H.getD i 0 ≠ v := by
    intro i hi c
    have := (g3 i hi).2.2
    rw [c, hw] at this
    omega
  refine ⟨⟨by rw [List.length_set]; exact g1, ?_, fun i hi => ?_, fun u u1 u2 => ?_⟩, fun u => ?_⟩
  · have a := cnt_set (pl := pl) (v := v) h1 (by omega) (H.length : Int)
    rw [if_pos hw, if_neg (by omega)] at a
    simp only [List.length_append, List.length_cons, List.length_nil]
    omega
  · simp only [List.length_append, List.length_cons, List.length_nil] at hi
    by_cases c : i = H.length
    · subst c
      rw [snoc_last, hset, if_pos rfl]
      exact ⟨h1, h2, rfl⟩
    · have hi' : i < H.length := by omega
      rw [snoc_at hi', hset, if_neg (hne i hi')]
      exact g3 i hi'
  · rw [hset]
    simp only [List.length_append, List.length_cons, List.length_nil]
    by_cases c : u = v
    · rw [if_pos c]
      exact .inr ⟨H.length, by omega, rfl, by rw [snoc_last, c]⟩
    · rw [if_neg c]
      rcases g4 u u1 u2 with d | ⟨i, hi, d, e⟩
      · exact .inl d
      · exact .inr ⟨i, by omega, d, by rw [snoc_at hi]; exact e⟩
  · rw [hset]
    by_cases c : u = v
    · rw [if_pos c]
      exact ⟨fun z => by omega, fun z => absurd c z.2⟩
    · rw [if_neg c]
      exact ⟨fun z => ⟨z, c⟩, fun z => z.1⟩
theorem up_put {A H : List Nat} {v : Nat} (h : Heap A H) : Up A (H ++ [v]) H.length := by
  refine ⟨fun i h0 hi hne => ?_, fun h0 i hi0 hi hpar => ?_⟩
  · simp only [List.length_append, List.length_cons, List.length_nil] at hi
    have hk := h i h0 (by omega) (Nat.zero_le _)
    unfold ok at *
    rw [snoc_at (by omega), snoc_at (by unfold par; omega)]
    exact hk
  · simp only [List.length_append, List.length_cons, List.length_nil] at hi
    unfold par at hpar
    omega
theorem take_put {Z : List Nat} {m v : Nat} (h : m < Z.length) : (Z.set m v).take (m + 1) = Z.take m ++ [v] := by
  rw [List.take_set, List.take_succ_eq_append_getElem h, List.set_append_right _ _ (by simp; omega)]
  have : m - (Z.take m).length = 0 := by simp; omega
  rw [this]
  rfl
end O
theorem ordInfoInt : (Try.prog.info? 3).map (fun i => (i.zero, i.size, i.bytes)) = some (some (.int .i64 0), 1, 8) := by kernel_rfl
theorem ordSliceInt : Try.prog.underlying 26 = some (.slice 3) := by kernel_rfl
theorem wpList_append_at {P : Program} (w : World) {ops : Array Oper} {rest : List Oper} {o : Oper} {a : Act} {Q : Exit → Act → World → Prop}
    (hg : o.guard = none) (s x : Operand) (t : TypeId) (hop : o.op = Op.call { callee := Callee.builtin Builtin.append, args := #[s, x], argTypes := #[t, t] })
    (sv xv r : Value) (w' : World) (hs : a.eval s = sv) (hx : a.eval x = xv) (hrun : (Builtin.append_ #[t, t] o.type #[sv, xv]).run P w = .ok r w')
    (hK : wpList P ops Q rest (a.put o.dst r) w') : wpList P ops Q (o :: rest) a w := by
  refine wpList_plain hg fun K hK' => ?_
  unfold Oper.wp
  simp [execOp, hop, resolve, invoke, builtin, hs, hx, hrun, Result.andThen]
  exact hK' _ _ hK
theorem Chg.alloc {S : List Nat} {w w1 : World} (h : Chg S w w1) (x : Obj) : Chg S w (w1.alloc x) := h.trans (Chg.of_below (grown_below (World.grownBy_alloc w1 x none)))
theorem put_bad (w : World) (o : Oid) (s : OS) (h : Ord w o s) (v : Int) (hv : v < 1 ∨ (o.n : Int) < v) : Calls Try.prog 20 #[optr o, .int .i64 v] w fun e w' => e = .returned (.int .i64 70) ∧ w' = w := by
  have C := hide (check_bad w o s h v hv)
  clear h hv
  go_enter Try.func20, Try.ntmps20
  go_wp2_with (go_at_call 25; refine C.out.mono ?_; rintro e w1 ⟨rfl, rfl⟩)
  go_ret
  exact ⟨rfl, rfl⟩
theorem put_has (w : World) (o : Oid) (s : OS) (h : Ord w o s) (v : Nat) (h1 : 1 ≤ v) (h2 : v ≤ o.n) (hw : s.pl.getD v 0 ≠ -1) : Calls Try.prog 20 #[optr o, .int .i64 v] w fun e w' => e = .returned (.int .i64 0) ∧ w' = w := by
  have C := hide (check_ok w o s h v h1 h2)
  have c0 := h.c4
  have ca := h.pla h2
  have v1 : (v : Int) < (o.n : Int) + 1 := by omega
  clear h
  generalize s.pl.getD v 0 = x at *
  go_enter Try.func20, Try.ntmps20
  go_wp2_with (go_at_call 25; refine C.out.mono ?_; rintro e w1 ⟨rfl, rfl⟩)
  go_ret
  exact ⟨rfl, rfl⟩
set_option maxRecDepth 100000 in
set_option maxHeartbeats 8000000 in
theorem put_calls (w : World) (o : Oid) (s : OS) (h : Good w o s) (v : Nat) (h1 : 1 ≤ v) (h2 : v ≤ o.n) (hw : s.pl.getD v 0 = -1) :
    Calls Try.prog 20 #[optr o, .int .i64 v] w fun e w' => e = .returned (.int .i64 0) ∧
      (∃ s', Good w' o s' ∧ s'.A = s.A ∧ s'.r = s.r ∧ s'.ph = s.ph ∧ s'.hl = s.hl + 1 ∧ ∀ u, s'.pl.getD u 0 = -1 ↔ (s.pl.getD u 0 = -1 ∧ u ≠ v)) ∧ Chg (blks o) w w' := by
  obtain ⟨i0, hi, hz0, hz1, hz2⟩ := info_parts ordInfoInt
  have C := hide (check_ok w o s h.ord v h1 h2)
  have hn := h.ord.hn
  have hl := h.ord.hhl
  have hlen := h.len
  have hzl : s.Z.length = o.n := h.ord.2.2.2.2.2.2.2.1
  have room : s.hl < o.n := by
    have := O.cnt_lt h.hv.1 h1 h2 hw
    have e := h.hv.2.1
    omega
  obtain ⟨g1, g2⟩ := O.hv_put h.hv h1 h2 hw
  have g3 := O.up_put (v := v) h.heap
  rw [hlen, ← O.take_put (by omega)] at g1 g3
  rw [hlen] at g2
  have c3 := h.ord.c3
  have c4 := h.ord.c4
  have cp := h.ord.pla h2
  have fp := h.ord.plaFree v
  rw [hw] at cp
  have v1 : (v : Int) < (o.n : Int) + 1 := by omega
  have O1 : Hid (Ord (w.setCell ⟨o.gl, v, none⟩ (.int .i64 (s.hl : Int))) o { s with pl := s.pl.set v (s.hl : Int) }) := h.ord.setPla v (s.hl : Int)
  have C1 : Hid (Chg (blks o) w (w.setCell ⟨o.gl, v, none⟩ (.int .i64 (s.hl : Int)))) := (Chg.refl _ w).set (by simp [blks]) _
  have H := hide h
  replace g1 := hide g1
  replace g2 := hide g2
  replace g3 := hide g3
  replace hzl := hide hzl
  replace hlen := hide hlen
  have hwh := hide hw
  clear h hw
  go_enter Try.func20, Try.ntmps20
  go_wp2_with (go_at_call 25; refine C.out.mono ?_; rintro e w1 ⟨rfl, rfl⟩)
  go_region
  clear c3 c4 cp fp
  generalize (World.setCell w1 _ _) = W1 at O1 C1 ⊢
  replace O1 : Hid (Ord W1.drew o { s with pl := s.pl.set v (s.hl : Int) }) := O1.out.drew
  replace C1 : Hid (Chg (blks o) w1 W1.drew) := C1.out.drew
  generalize W1.drew = W2 at O1 C1 ⊢
  have c3 := O1.out.c3
  simp only at c3
  have q : Chg [] W2 (W2.alloc (.cells #[.int .i64 (v : Int)] 3)) := (Chg.refl _ W2).alloc _
  have O15 := O1.out.keep q (fun _ _ => by simp)
  have O2 : Hid (Ord ((W2.alloc (.cells #[.int .i64 (v : Int)] 3)).setCell ⟨o.gh, s.hl, none⟩ (.int .i64 (v : Int))) o { s with pl := s.pl.set v (s.hl : Int), Z := s.Z.set s.hl v }) := O15.setHea s.hl v
  have C2 : Hid (Chg (blks o) w1 ((W2.alloc (.cells #[.int .i64 (v : Int)] 3)).setCell ⟨o.gh, s.hl, none⟩ (.int .i64 (v : Int)))) := (C1.out.alloc _).set (by simp [blks]) _
  have hrun : (Builtin.append_ #[26, 26] 26 #[.slice (some ⟨o.gh, 0, none⟩) s.hl o.n, .slice (some ⟨W2.heap.size, 0, none⟩) 1 1]).run Try.prog (W2.alloc (.cells #[.int .i64 (v : Int)] 3)) = .ok (.slice (some ⟨o.gh, 0, none⟩) (s.hl + 1) o.n) ((W2.alloc (.cells #[.int .i64 (v : Int)] 3)).setCell ⟨o.gh, s.hl, none⟩ (.int .i64 (v : Int))) := by
    have hcell : (W2.alloc (.cells #[.int .i64 (v : Int)] 3)).cell? ⟨W2.heap.size, 0, none⟩ = some (.int .i64 (v : Int)) := by
      rw [cell_of_row _ _ _ _ _ _ (heap_alloc_new W2 _)]
      rfl
    have hx := O15.hea (j := s.hl) room
    have hf := O15.heaFree s.hl
    have R := run_append_room_cells (P := Try.prog) (W2.alloc (.cells #[.int .i64 (v : Int)] 3)) 26 26 3 i0 ordSliceInt hi o.gh 0 s.hl o.n ⟨W2.heap.size, 0, none⟩ 1 1 [.int .i64 (v : Int)] (by rw [hz1]; rfl)
      (by
        intro j u hj
        match j, hj with
        | 0, hj =>
          simp at hj
          subst hj
          exact hcell)
      (by intro u hu; simp at hu; subst hu; rfl) room
      (by intro j hj; rw [hz1]; simp at hj; subst hj; simp only [Nat.mul_one, Nat.zero_add, Nat.add_zero]; rw [hx]; rfl)
      (by intro j hj; rw [hz1]; simp at hj; subst hj; simp only [Nat.mul_one, Nat.zero_add, Nat.add_zero]; exact hf)
    rw [hz1] at R
    simpa [World.setCells] using R
  replace hrun := hide hrun
  clear O15 q C hi hz0 hz1 hz2
  have ev : (s.pl.set v (s.hl : Int)).getD v 0 = (s.hl : Int) := by
    have hpl : s.pl.length = o.n + 1 := H.out.ord.2.2.2.2.2.2.2.2.1
    rw [O.getD_set', if_pos ⟨rfl, by omega⟩]
  replace ev := hide ev
  go_wp2_with (at_builtin; (refine wpList_append_at _ rfl _ _ 26 rfl _ _ _ _ rfl rfl hrun.out ?_; clear hrun c3; generalize (World.setCell (World.alloc W2 _) _ _) = W4 at O2 C2 ⊢; have d3 := O2.out.c3; have f3 := O2.out.free 3; have O3 := O2.out.setLen (s.hl + 1) room; have d4 := O3.c4; have dv := O3.pla h2; simp only [ev.out] at dv; simp only at d3; replace O3 := hide O3))
  refine (lift_calls _ o _ O3.out g1.out H.out.act s.hl (by show s.hl < s.hl + 1; omega) g3.out).mono ?_
  rintro e w2 ⟨rfl, ⟨Z, pl, hh, hp⟩, C3⟩
  go_wp2
  go_ret
  refine ⟨rfl, ⟨_, ⟨hh.ord, hh.hv, hp, H.out.act, H.out.rise⟩, rfl, rfl, rfl, rfl, fun u => (hh.same u).trans (g2.out u)⟩, (C2.out.set (g := o.P) (j := 3) (by simp [blks]) _).trans (C3.mono (S' := blks o) (fun b hb => by simp [blks] at *; rcases hb with rfl | rfl <;> simp))⟩
end Go.Proofs.Ytigbclhkmjcjjaa
