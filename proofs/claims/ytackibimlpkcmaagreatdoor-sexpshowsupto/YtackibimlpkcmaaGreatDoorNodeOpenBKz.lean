/-
  A list of nodes that came in, and how much it holds.
-/
import Derived.Test.YtackibimlpkcmaaGreatDoorRows
import Derived.Test.YtackibimlpkcmaaGreatDoorKz28
import Derived.Deep.SlicePairs
import Derived.OpenShut
import Derived.SizedLaws
/- ==== NodeOpenB ==== -/
namespace Go.Proofs.YtackibimlpkcmaaGreatDoor
open Go.RowKit Go.Deep
set_option linter.unusedVariables false
theorem underNode : ∃ f0 f1 f2 f3 f4 : Field, Tryz.prog.underlying 42 = some (.struct #[f0, f1, f2, f3, f4]) ∧ (f0.offset = 0 ∧ f0.type = 3) ∧ (f1.offset = 1 ∧ f1.type = 3) ∧ (f2.offset = 2 ∧ f2.type = 3) ∧ (f3.offset = 3 ∧ f3.type = 3) ∧ (f4.offset = 4 ∧ f4.type = 9) :=
  ⟨_, _, _, _, _, Tryz.underlying42, ⟨rfl, rfl⟩, ⟨rfl, rfl⟩, ⟨rfl, rfl⟩, ⟨rfl, rfl⟩, rfl, rfl⟩
theorem cellsNode : Tryz.prog.cellsOf 42 = 5 := by kernel_rfl
theorem cellsInt : Tryz.prog.cellsOf 3 = 1 := by kernel_rfl
theorem cellsString : Tryz.prog.cellsOf 9 = 1 := by kernel_rfl
theorem bytesNode : Tryz.prog.bytesOf 42 = 48 := by kernel_rfl
theorem addr5 {w : World} {a : Addr} {u : Value} (j f : Nat) (h : w.cell? ((a.add (j * 5)).add f) = some u) : w.cell? ⟨a.block, a.off + j * 5 + f, none⟩ = some u := by
  have hs := World.cell?_spot h
  have e : (a.add (j * 5)).add f = ⟨a.block, a.off + j * 5 + f, none⟩ := by
    obtain ⟨b, off, spot⟩ := a
    simp only [Addr.add] at hs ⊢
    split <;> split <;> simp_all
  rw [← e]
  exact h
theorem wt_bulk {H : Type} : ∀ (ns : List Nd) (ds : List (DataW H)), ns.length = ds.length → (∀ j, j < ns.length → (ns.getD j Nd.z).text.data.toList.length + 6 ≤ Rows.uptoBulk (ds.getD j .nil)) → wt ns ≤ 2 * Rows.uptoBulkAll ds ∧ ns.length ≤ Rows.uptoBulkAll ds
  | [], ds, _, _ => ⟨Nat.zero_le _, Nat.zero_le _⟩
  | x :: ns, [], h, _ => by simp at h
  | x :: ns, d :: ds, h, hj => by
    have h0 := hj 0 (by simp)
    have ih := wt_bulk ns ds (by simpa using h) (fun j hjl => by
      have := hj (j + 1) (by simp; omega)
      simpa using this)
    simp only [List.getD_cons_zero] at h0
    simp only [wt, Rows.uptoBulkAll, List.length_cons]
    omega
set_option maxRecDepth 100000 in
theorem open_nodesB {H : Type} {enc : TypeId × Value → H} {w : World} {held : Bool} {fuel : Nat} {v : Value} {x : DataW H × List MemPlace} (hv : ∃ a n c, v = .slice a n c)
    (h : DataW.trod enc Tryz.prog w 0 (fun _ => true) held fuel 22 v.cells.toList = some x) (hbk : Rows.uptoBulk x.1 ≤ 1048576) : ∃ ns, Nds w.heap.size w v ns ∧ wt ns ≤ 2 * Rows.uptoBulk x.1 ∧ ns.length ≤ Rows.uptoBulk x.1 := by
  obtain ⟨va, vn, vc, rfl⟩ := hv
  rcases open_slice (t := 22) (e := 42) (by kernel_rfl) h with ⟨hcs, _⟩ | ⟨a, len, cap, m, n, D, Pl, hcs, hb, hl, hm, hmm, rfl, hx⟩
  · simp [Value.cells] at hcs
    obtain ⟨rfl, rfl, rfl⟩ := hcs
    exact ⟨[], ⟨none, 0, rfl, by simp, by simp, by simp, fun h => absurd rfl h⟩, Nat.zero_le _, Nat.zero_le _⟩
  · simp [Value.cells] at hcs
    obtain ⟨rfl, rfl, rfl⟩ := hcs
    simp only [if_true] at hmm
    subst hmm
    obtain ⟨f0, f1, f2, f3, f4, hu, ⟨o0, t0⟩, ⟨o1, t1⟩, ⟨o2, t2⟩, ⟨o3, t3⟩, o4, t4⟩ := underNode
    rw [cellsNode] at hx
    have each : ∀ j, j < m → ∃ x : Nd, (w.cell? ⟨a.block, a.off + j * 5, none⟩ = some (.int .i64 x.kind) ∧ w.cell? ⟨a.block, a.off + j * 5 + 1, none⟩ = some (.int .i64 x.pos) ∧ w.cell? ⟨a.block, a.off + j * 5 + 2, none⟩ = some (.int .i64 x.fin) ∧ w.cell? ⟨a.block, a.off + j * 5 + 3, none⟩ = some (.int .i64 x.size) ∧ w.cell? ⟨a.block, a.off + j * 5 + 4, none⟩ = some (.string x.text)) ∧ x.text.data.toList.length + 6 ≤ Rows.uptoBulk (D j) := by
      intro j hj
      obtain ⟨cs, h1, h2⟩ := hx j hj
      obtain ⟨_, hlen, hcell⟩ := World.cells?_some h1
      obtain ⟨xs, k, hk, hxy, _, hxl, hf⟩ := DataW.trod_struct hu h2
      match cs, hlen with
      | [v0, v1, v2, v3, v4], _ =>
        match xs, hxl with
        | [y0, y1, y2, y3, y4], _ =>
          have g0 := hf 0 f0 rfl
          have g1 := hf 1 f1 rfl
          have g2 := hf 2 f2 rfl
          have g3 := hf 3 f3 rfl
          have g4 := hf 4 f4 rfl
          simp [o0, t0, cellsInt] at g0
          simp [o1, t1, cellsInt] at g1
          simp [o2, t2, cellsInt] at g2
          simp [o3, t3, cellsInt] at g3
          simp [o4, t4, cellsString] at g4
          obtain ⟨n0, e0, z0, -⟩ := DataW.trod_int Tryz.underlying3 g0
          obtain ⟨n1, e1, z1, -⟩ := DataW.trod_int Tryz.underlying3 g1
          obtain ⟨n2, e2, z2, -⟩ := DataW.trod_int Tryz.underlying3 g2
          obtain ⟨n3, e3, z3, -⟩ := DataW.trod_int Tryz.underlying3 g3
          obtain ⟨s4, e4, z4, -⟩ := DataW.trod_string Tryz.underlying9 g4
          cases e0; cases e1; cases e2; cases e3; cases e4
          have hD : D j = .agg [.lit (.int .i64 n0), .lit (.int .i64 n1), .lit (.int .i64 n2), .lit (.int .i64 n3), .lit (.string s4.data.toList)] := by
            have := (Prod.mk.inj hxy).1
            rw [this, z0, z1, z2, z3, z4]
            rfl
          refine ⟨⟨n0, n1, n2, n3, s4⟩, ⟨addr5 j 0 (hcell 0 (by omega)), addr5 j 1 (hcell 1 (by omega)), addr5 j 2 (hcell 2 (by omega)), addr5 j 3 (hcell 3 (by omega)), addr5 j 4 (hcell 4 (by omega))⟩, ?_⟩
          rw [hD]
          simp only [Rows.uptoBulk, Rows.uptoBulkAll]
          omega
    have inh : Inhabited Nd := ⟨Nd.z⟩
    obtain ⟨X, hX⟩ := choose_lt each
    have hw := wt_bulk ((List.range vn).map X) ((List.range vn).map D) (by simp) (fun j hj => by
        simp only [List.length_map, List.length_range] at hj
        have e : ((List.range vn).map X).getD j Nd.z = X j := by simp [List.getD_eq_getElem?_getD, hj]
        have e2 : ((List.range vn).map D).getD j .nil = D j := by simp [List.getD_eq_getElem?_getD, hj]
        rw [e, e2]
        exact (hX j (by omega)).2)
    have hlen2 : ((List.range vn).map X).length = vn := by simp
    rw [hlen2] at hw
    simp only [Rows.uptoBulk] at hbk ⊢
    obtain ⟨b, off, spot⟩ := a
    refine ⟨(List.range vn).map X, ⟨some ⟨b, off, spot⟩, m, by rw [hlen2], by rw [hlen2]; omega, ⟨by unfold maxLen at hm; omega, by rw [hlen2]; omega⟩, fun e => (by cases e), fun hne => ?_⟩, by omega, by rw [hlen2]; omega⟩
    have h0 : 0 < vn := by
      apply Nat.pos_of_ne_zero
      rintro rfl
      simp at hne
    have hsp : spot = none := by
      obtain ⟨cs, h1, _⟩ := hx 0 (by omega)
      obtain ⟨_, hlen, hcell⟩ := World.cells?_some h1
      have := hcell 0 (by omega)
      match cs, hlen with
      | [v0, v1, v2, v3, v4], _ => simpa [Addr.add] using World.cell?_spot this
    subst hsp
    refine ⟨b, off, rfl, ?_, fun j hj => ?_⟩
    · exact World.block_lt_of_cell? w ⟨b, _, none⟩ (hX 0 (by omega)).1.1
    · rw [hlen2] at hj
      have e : ((List.range vn).map X).getD j Nd.z = X j := by simp [List.getD_eq_getElem?_getD, hj]
      rw [e]
      exact (hX j (by omega)).1
end Go.Proofs.YtackibimlpkcmaaGreatDoor
