/-
  Lists of nodes, of links and of ints that came in, with their bulk.
-/
import Derived.Test.YtcpmeehchmdljaaEufBulk
import Derived.Test.YtcpmeehchmdljaaEufMem
import Derived.Deep.SlicePairs
import Derived.OpenShut
import Derived.SizedLaws
namespace Go.Proofs.Ytcpmeehchmdljaa
open Go.RowKit Go.Deep
set_option linter.unusedVariables false
theorem underFlat : ∃ f0 f1 : Field, Try.prog.underlying 31 = some (.struct #[f0, f1]) ∧ (f0.offset = 0 ∧ f0.type = 3) ∧ (f1.offset = 1 ∧ f1.type = 24) :=
  ⟨_, _, Try.underlying31, ⟨rfl, rfl⟩, rfl, rfl⟩
theorem underLink : ∃ f0 f1 f2 f3 f4 : Field, Try.prog.underlying 26 = some (.struct #[f0, f1, f2, f3, f4]) ∧ (f0.offset = 0 ∧ f0.type = 3) ∧ (f1.offset = 1 ∧ f1.type = 3) ∧ (f2.offset = 2 ∧ f2.type = 3) ∧ (f3.offset = 3 ∧ f3.type = 3) ∧ (f4.offset = 4 ∧ f4.type = 24) :=
  ⟨_, _, _, _, _, Try.underlying26, ⟨rfl, rfl⟩, ⟨rfl, rfl⟩, ⟨rfl, rfl⟩, ⟨rfl, rfl⟩, rfl, rfl⟩
theorem oCellsFlat : Try.prog.cellsOf 31 = 2 := by kernel_rfl
theorem oCellsLink : Try.prog.cellsOf 26 = 5 := by kernel_rfl
theorem oCellsInt : Try.prog.cellsOf 3 = 1 := by kernel_rfl
theorem oCellsInts : Try.prog.cellsOf 24 = 1 := by kernel_rfl
theorem oBytesFlat : Try.prog.bytesOf 31 = 32 := by kernel_rfl
theorem oBytesLink : Try.prog.bytesOf 26 = 56 := by kernel_rfl
theorem oBytesInt : Try.prog.bytesOf 3 = 8 := by kernel_rfl
theorem oInts : Try.prog.underlying 24 = some (.slice 3) := by kernel_rfl
theorem addrE {w : World} {a : Addr} {u : Value} (k f : Nat) (h : w.cell? ((a.add k).add f) = some u) : w.cell? ⟨a.block, a.off + k + f, none⟩ = some u := by
  have hs := World.cell?_spot h
  have e : (a.add k).add f = ⟨a.block, a.off + k + f, none⟩ := by
    obtain ⟨b, off, spot⟩ := a
    simp only [Addr.add] at hs ⊢
    split <;> split <;> simp_all
  rw [← e]
  exact h
set_option maxRecDepth 10000 in
theorem open_irow {H : Type} {enc : TypeId × Value → H} {w : World} {held : Bool} {fuel : Nat} {v : Value} {x : DataW H × List MemPlace}
    (h : DataW.trod enc Try.prog w 0 (fun _ => true) held fuel 24 [v] = some x) (hw : ∀ n ∈ x.1.weights Try.prog 24, n ≤ reachBytes) : ∃ xs, IRow w.heap.size w v xs ∧ xs.length ≤ Rows.uptoBulk x.1 := by
  rcases open_slice (t := 24) (e := 3) (by kernel_rfl) h with ⟨hcs, _⟩ | ⟨a, len, cap, m, n, D, Pl, hcs, hb, hl, hm, hmm, rfl, hx⟩
  · simp only [List.cons.injEq, and_true] at hcs
    subst hcs
    exact ⟨[], ⟨none, 0, rfl, by simp, fun h => absurd rfl h⟩, Nat.zero_le _⟩
  · simp only [List.cons.injEq, and_true] at hcs
    subst hcs
    simp only [if_true] at hmm
    subst hmm
    have hs := hw _ (by simp only [DataW.weights, oInts]; exact List.mem_cons_self ..)
    simp only [List.length_map, List.length_range, oBytesInt] at hs
    unfold reachBytes at hs
    rw [oCellsInt] at hx
    have each : ∀ j, j < m → ∃ x : Int, w.cell? ⟨a.block, a.off + j * 1 + 0, none⟩ = some (.int .i64 x) := by
      intro j hj
      obtain ⟨cs, h1, h2⟩ := hx j hj
      obtain ⟨_, hlen, hcell⟩ := World.cells?_some h1
      match cs, hlen with
      | [v0], _ =>
        obtain ⟨n0, e0, -, -⟩ := DataW.trod_int Try.underlying3 h2
        cases e0
        exact ⟨n0, addrE (j * 1) 0 (hcell 0 (by omega))⟩
    have inh : Inhabited Int := ⟨0⟩
    obtain ⟨X, hX⟩ := choose_lt each
    obtain ⟨b, off, spot⟩ := a
    by_cases h0 : len = 0
    · subst h0
      exact ⟨[], ⟨some ⟨b, off, spot⟩, m, rfl, by simp, fun h => absurd rfl h⟩, Nat.zero_le _⟩
    · have hsp : spot = none := by
        obtain ⟨cs, h1, _⟩ := hx 0 (by omega)
        obtain ⟨_, hlen, hcell⟩ := World.cells?_some h1
        have := hcell 0 (by omega)
        match cs, hlen with
        | [v0], _ => simpa [Addr.add] using World.cell?_spot this
      subst hsp
      refine ⟨(List.range len).map X, ⟨some ⟨b, off, none⟩, m, by simp, by simp; omega, fun _ => ⟨b, off, rfl, ?_, fun j hj => ?_⟩⟩, ?_⟩
      · exact World.block_lt_of_cell? w ⟨b, _, none⟩ (hX 0 (by omega))
      · simp only [List.length_map, List.length_range] at hj
        have e : ((List.range len).map X).getD j 0 = X j := by simp [List.getD_eq_getElem?_getD, hj]
        rw [e]
        have := hX j (by omega)
        rw [Nat.mul_one, Nat.add_zero] at this
        exact this
      · refine Nat.le_trans ?_ (Nat.le_trans (Nat.le_succ _) (bulks.slice_elems _ _))
        refine Nat.le_trans ?_ (bulks.length_le _)
        simp
theorem weights_all {H : Type} (P : Program) (e : TypeId) : ∀ (l : List (DataW H)) (d : DataW H), d ∈ l → ∀ n ∈ d.weights P e, n ∈ DataW.weightsAll P e l
  | c :: l, d, h, n, hn => by
    rw [DataW.weightsAll, List.mem_append]
    rcases List.mem_cons.1 h with rfl | h
    · exact .inl hn
    · exact .inr (weights_all P e l d h n hn)
set_option maxRecDepth 10000 in
theorem open_flats {H : Type} {enc : TypeId × Value → H} {w : World} {held : Bool} {fuel : Nat} {v : Value} {x : DataW H × List MemPlace} (hv : ∃ a n c, v = .slice a n c)
    (h : DataW.trod enc Try.prog w 0 (fun _ => true) held fuel 22 v.cells.toList = some x) (hw : ∀ n ∈ x.1.weights Try.prog 22, n ≤ reachBytes) : ∃ fs, Flats w.heap.size w v fs ∧ fs.length ≤ Rows.uptoBulk x.1 ∧ ∀ j, j < fs.length → (fs.getD j E.f0).args.length ≤ Rows.uptoBulk x.1 := by
  obtain ⟨va, vn, vc, rfl⟩ := hv
  rcases open_slice (t := 22) (e := 31) (by kernel_rfl) h with ⟨hcs, _⟩ | ⟨a, len, cap, m, n, D, Pl, hcs, hb, hl, hm, hmm, rfl, hx⟩
  · simp [Value.cells] at hcs
    obtain ⟨rfl, rfl, rfl⟩ := hcs
    exact ⟨[], ⟨none, 0, rfl, by simp, fun h => absurd rfl h⟩, by simp, fun j hj => absurd hj (Nat.not_lt_zero _)⟩
  · simp [Value.cells] at hcs
    obtain ⟨rfl, rfl, rfl⟩ := hcs
    simp only [if_true] at hmm
    subst hmm
    have hu2 : Try.prog.underlying 22 = some (.slice 31) := by kernel_rfl
    have hs := hw _ (by simp only [DataW.weights, hu2]; exact List.mem_cons_self ..)
    simp only [List.length_map, List.length_range, oBytesFlat] at hs
    unfold reachBytes at hs
    have hel : ∀ j, j < vn → ∀ n ∈ (D j).weights Try.prog 31, n ≤ reachBytes := by
      intro j hj n hn
      refine hw n ?_
      simp only [DataW.weights, hu2]
      refine List.mem_cons_of_mem _ (List.mem_append_left _ ?_)
      exact weights_all _ _ _ (D j) (List.mem_map.2 ⟨j, List.mem_range.2 hj, rfl⟩) n hn
    obtain ⟨f0, f1, hu, ⟨o0, t0⟩, o1, t1⟩ := underFlat
    rw [oCellsFlat] at hx
    have each : ∀ j, j < vn → ∃ x : E.Fl, w.cell? ⟨a.block, a.off + j * 2 + 0, none⟩ = some (.int .i64 x.fn) ∧ (∃ u, w.cell? ⟨a.block, a.off + j * 2 + 1, none⟩ = some u ∧ IRow w.heap.size w u x.args) ∧ x.args.length ≤ Rows.uptoBulk (D j) := by
      intro j hj
      obtain ⟨cs, h1, h2⟩ := hx j (by omega)
      obtain ⟨_, hlen, hcell⟩ := World.cells?_some h1
      obtain ⟨xs, k, hk, hxy, _, hxl, hf⟩ := DataW.trod_struct hu h2
      match cs, hlen with
      | [v0, v1], _ =>
        match xs, hxl with
        | [y0, y1], _ =>
          have g0 := hf 0 f0 rfl
          have g1 := hf 1 f1 rfl
          simp [o0, t0, oCellsInt] at g0
          simp [o1, t1, oCellsInts] at g1
          obtain ⟨n0, e0, -, -⟩ := DataW.trod_int Try.underlying3 g0
          cases e0
          have hD : D j = .agg [y0.1, y1.1] := congrArg Prod.fst hxy
          obtain ⟨xs, hxs, hbk⟩ := open_irow g1 (fun n hn => hel j hj n (by
            rw [hD]
            simp only [DataW.weights, hu]
            exact DataW.weights_mem_each (j := 1) (t := 24) (d := y1.1) (by simp [t1]) rfl n hn))
          exact ⟨⟨n0, xs⟩, addrE (j * 2) 0 (hcell 0 (by omega)), ⟨v1, addrE (j * 2) 1 (hcell 1 (by omega)), hxs⟩, by rw [hD]; simp only [Rows.uptoBulk, Rows.uptoBulkAll]; omega⟩
    have inh : Inhabited E.Fl := ⟨E.f0⟩
    obtain ⟨X, hX⟩ := choose_lt each
    obtain ⟨b, off, spot⟩ := a
    by_cases h0 : vn = 0
    · subst h0
      exact ⟨[], ⟨some ⟨b, off, spot⟩, m, rfl, by simp, fun h => absurd rfl h⟩, by simp, fun j hj => absurd hj (Nat.not_lt_zero _)⟩
    · have hsp : spot = none := by
        obtain ⟨cs, h1, _⟩ := hx 0 (by omega)
        obtain ⟨_, hlen, hcell⟩ := World.cells?_some h1
        have := hcell 0 (by omega)
        match cs, hlen with
        | [v0, v1], _ => simpa [Addr.add] using World.cell?_spot this
      subst hsp
      refine ⟨(List.range vn).map X, ⟨some ⟨b, off, none⟩, m, by simp, by simp; omega, fun _ => ⟨b, off, rfl, ?_, fun j hj => ?_⟩⟩, ?_, fun j hj => ?_⟩
      · exact World.block_lt_of_cell? w ⟨b, _, none⟩ (hX 0 (by omega)).1
      · simp only [List.length_map, List.length_range] at hj
        have e : ((List.range vn).map X).getD j E.f0 = X j := by simp [List.getD_eq_getElem?_getD, hj]
        rw [e]
        exact ⟨(hX j (by omega)).1, (hX j (by omega)).2.1⟩
      · refine Nat.le_trans ?_ (Nat.le_trans (Nat.le_succ _) (bulks.slice_elems _ _))
        refine Nat.le_trans ?_ (bulks.length_le _)
        simp
      · simp only [List.length_map, List.length_range] at hj
        have e : ((List.range vn).map X).getD j E.f0 = X j := by simp [List.getD_eq_getElem?_getD, hj]
        rw [e]
        refine Nat.le_trans (hX j (by omega)).2.2 (Nat.le_trans ?_ (Nat.le_trans (Nat.le_succ _) (bulks.slice_elems _ _)))
        exact bulks.part_le (List.mem_map.2 ⟨j, List.mem_range.2 hj, rfl⟩)
theorem wf_I64 {n : Int} (h : (Lit.int .i64 n).wf = true) : I64 n := by
  have h' : (decide (IntKind.i64.min ≤ n) && decide (n ≤ IntKind.i64.max)) = true := h
  have e1 : IntKind.i64.min = -9223372036854775808 := by decide
  have e2 : IntKind.i64.max = 9223372036854775807 := by decide
  rw [e1, e2] at h'
  unfold I64
  simpa using h'
set_option maxRecDepth 10000 in
theorem open_links {H : Type} {enc : TypeId × Value → H} {w : World} {held : Bool} {fuel : Nat} {v : Value} {x : DataW H × List MemPlace} (hv : ∃ a n c, v = .slice a n c)
    (h : DataW.trod enc Try.prog w 0 (fun _ => true) held fuel 23 v.cells.toList = some x) (hw : ∀ n ∈ x.1.weights Try.prog 23, n ≤ reachBytes) : ∃ ls, Links w.heap.size w v ls ∧ ls.length ≤ Rows.uptoBulk x.1 ∧ ∀ j, j < ls.length → (ls.getD j E.l0).kids.length ≤ Rows.uptoBulk x.1 := by
  obtain ⟨va, vn, vc, rfl⟩ := hv
  rcases open_slice (t := 23) (e := 26) (by kernel_rfl) h with ⟨hcs, _⟩ | ⟨a, len, cap, m, n, D, Pl, hcs, hb, hl, hm, hmm, rfl, hx⟩
  · simp [Value.cells] at hcs
    obtain ⟨rfl, rfl, rfl⟩ := hcs
    exact ⟨[], ⟨none, 0, rfl, by simp, fun h => absurd rfl h⟩, by simp, fun j hj => absurd hj (Nat.not_lt_zero _)⟩
  · simp [Value.cells] at hcs
    obtain ⟨rfl, rfl, rfl⟩ := hcs
    simp only [if_true] at hmm
    subst hmm
    have hu2 : Try.prog.underlying 23 = some (.slice 26) := by kernel_rfl
    have hs := hw _ (by simp only [DataW.weights, hu2]; exact List.mem_cons_self ..)
    simp only [List.length_map, List.length_range, oBytesLink] at hs
    unfold reachBytes at hs
    have hel : ∀ j, j < vn → ∀ n ∈ (D j).weights Try.prog 26, n ≤ reachBytes := by
      intro j hj n hn
      refine hw n ?_
      simp only [DataW.weights, hu2]
      refine List.mem_cons_of_mem _ (List.mem_append_left _ ?_)
      exact weights_all _ _ _ (D j) (List.mem_map.2 ⟨j, List.mem_range.2 hj, rfl⟩) n hn
    obtain ⟨f0, f1, f2, f3, f4, hu, ⟨o0, t0⟩, ⟨o1, t1⟩, ⟨o2, t2⟩, ⟨o3, t3⟩, o4, t4⟩ := underLink
    rw [oCellsLink] at hx
    have each : ∀ j, j < vn → ∃ x : E.Lk, w.cell? ⟨a.block, a.off + j * 5 + 0, none⟩ = some (.int .i64 x.kind) ∧ w.cell? ⟨a.block, a.off + j * 5 + 1, none⟩ = some (.int .i64 x.a) ∧ w.cell? ⟨a.block, a.off + j * 5 + 2, none⟩ = some (.int .i64 x.b) ∧ w.cell? ⟨a.block, a.off + j * 5 + 3, none⟩ = some (.int .i64 x.tag) ∧ (∃ u, w.cell? ⟨a.block, a.off + j * 5 + 4, none⟩ = some u ∧ IRow w.heap.size w u x.kids) ∧ (I64 x.a ∧ I64 x.b ∧ I64 x.tag) ∧ x.kids.length ≤ Rows.uptoBulk (D j) := by
      intro j hj
      obtain ⟨cs, h1, h2⟩ := hx j (by omega)
      obtain ⟨_, hlen, hcell⟩ := World.cells?_some h1
      obtain ⟨xs, k, hk, hxy, _, hxl, hf⟩ := DataW.trod_struct hu h2
      match cs, hlen with
      | [v0, v1, v2, v3, v4], _ =>
        match xs, hxl with
        | [y0, y1, y2, y3, y4], _ =>
          have g0 := hf 0 f0 rfl
          have g1 := hf 1 f1 rfl
          have g2 := hf 2 f2 rfl
          have g3 := hf 3 f3 rfl
          have g4 := hf 4 f4 rfl
          simp [o0, t0, oCellsInt] at g0
          simp [o1, t1, oCellsInt] at g1
          simp [o2, t2, oCellsInt] at g2
          simp [o3, t3, oCellsInt] at g3
          simp [o4, t4, oCellsInts] at g4
          obtain ⟨n0, e0, -, -⟩ := DataW.trod_int Try.underlying3 g0
          obtain ⟨n1, e1, -, w1⟩ := DataW.trod_int Try.underlying3 g1
          obtain ⟨n2, e2, -, w2⟩ := DataW.trod_int Try.underlying3 g2
          obtain ⟨n3, e3, -, w3⟩ := DataW.trod_int Try.underlying3 g3
          cases e0; cases e1; cases e2; cases e3
          have hD : D j = .agg [y0.1, y1.1, y2.1, y3.1, y4.1] := congrArg Prod.fst hxy
          obtain ⟨xs, hxs, hbk⟩ := open_irow g4 (fun n hn => hel j hj n (by
            rw [hD]
            simp only [DataW.weights, hu]
            exact DataW.weights_mem_each (j := 4) (t := 24) (d := y4.1) (by simp [t4]) rfl n hn))
          exact ⟨⟨n0, n1, n2, n3, xs⟩, addrE (j * 5) 0 (hcell 0 (by omega)), addrE (j * 5) 1 (hcell 1 (by omega)), addrE (j * 5) 2 (hcell 2 (by omega)), addrE (j * 5) 3 (hcell 3 (by omega)), ⟨v4, addrE (j * 5) 4 (hcell 4 (by omega)), hxs⟩, ⟨wf_I64 w1, wf_I64 w2, wf_I64 w3⟩, by rw [hD]; simp only [Rows.uptoBulk, Rows.uptoBulkAll]; omega⟩
    have inh : Inhabited E.Lk := ⟨E.l0⟩
    obtain ⟨X, hX⟩ := choose_lt each
    obtain ⟨b, off, spot⟩ := a
    by_cases h0 : vn = 0
    · subst h0
      exact ⟨[], ⟨some ⟨b, off, spot⟩, m, rfl, by simp, fun h => absurd rfl h⟩, by simp, fun j hj => absurd hj (Nat.not_lt_zero _)⟩
    · have hsp : spot = none := by
        obtain ⟨cs, h1, _⟩ := hx 0 (by omega)
        obtain ⟨_, hlen, hcell⟩ := World.cells?_some h1
        have := hcell 0 (by omega)
        match cs, hlen with
        | [v0, v1, v2, v3, v4], _ => simpa [Addr.add] using World.cell?_spot this
      subst hsp
      refine ⟨(List.range vn).map X, ⟨some ⟨b, off, none⟩, m, by simp, by simp; omega, fun _ => ⟨b, off, rfl, ?_, fun j hj => ?_⟩⟩, ?_, fun j hj => ?_⟩
      · exact World.block_lt_of_cell? w ⟨b, _, none⟩ (hX 0 (by omega)).1
      · simp only [List.length_map, List.length_range] at hj
        have e : ((List.range vn).map X).getD j E.l0 = X j := by simp [List.getD_eq_getElem?_getD, hj]
        rw [e]
        obtain ⟨h0, h1, h2, h3, h4, h5, -⟩ := hX j (by omega)
        exact ⟨h0, h1, h2, h3, h4, h5⟩
      · refine Nat.le_trans ?_ (Nat.le_trans (Nat.le_succ _) (bulks.slice_elems _ _))
        refine Nat.le_trans ?_ (bulks.length_le _)
        simp
      · simp only [List.length_map, List.length_range] at hj
        have e : ((List.range vn).map X).getD j E.l0 = X j := by simp [List.getD_eq_getElem?_getD, hj]
        rw [e]
        obtain ⟨-, -, -, -, -, -, hk⟩ := hX j (by omega)
        refine Nat.le_trans hk (Nat.le_trans ?_ (Nat.le_trans (Nat.le_succ _) (bulks.slice_elems _ _)))
        exact bulks.part_le (List.mem_map.2 ⟨j, List.mem_range.2 hj, rfl⟩)
end Go.Proofs.Ytcpmeehchmdljaa
