/-
  Pairs of delta numbers that came in.
-/
import Derived.Test.YtlepicdpelkmlaaGreatDoorRows
import Derived.Test.YtlepicdpelkmlaaGreatDoorAll1
import Derived.Deep.SlicePairs
import Derived.OpenShut
import Derived.SizedLaws
namespace Go.Proofs.YtlepicdpelkmlaaGreatDoor
open Go.RowKit Go.Deep
set_option linter.unusedVariables false
/-- A pair: a low delta number, a high one. -/
structure Pq where
  la : ByteArray
  lb : ByteArray
  ha : ByteArray
  hb : ByteArray
def Pq.z : Pq := ⟨ByteArray.empty, ByteArray.empty, ByteArray.empty, ByteArray.empty⟩
def Pq.sz (p : Pq) : Nat := p.la.data.toList.length + p.lb.data.toList.length + p.ha.data.toList.length + p.hb.data.toList.length
/-- The slice value v holds the pairs ps. -/
def QRow (w : World) (v : Value) (ps : List Pq) : Prop :=
  ∃ a cap, v = .slice a ps.length cap ∧ ps.length ≤ cap ∧ cap ≤ 9223372036854775807 ∧
    (ps ≠ [] → ∃ b off, a = some ⟨b, off, none⟩ ∧ ∀ j, j < ps.length →
      w.cell? ⟨b, off + j * 4, none⟩ = some (.string (ps.getD j Pq.z).la) ∧ w.cell? ⟨b, off + j * 4 + 1, none⟩ = some (.string (ps.getD j Pq.z).lb) ∧ w.cell? ⟨b, off + j * 4 + 2, none⟩ = some (.string (ps.getD j Pq.z).ha) ∧ w.cell? ⟨b, off + j * 4 + 3, none⟩ = some (.string (ps.getD j Pq.z).hb))
theorem QRow.below {w w' : World} {v : Value} {ps : List Pq} (h : QRow w v ps) (q : Below w.heap.size w w') : QRow w' v ps := by
  obtain ⟨a, cap, rfl, h1, h2, h4⟩ := h
  refine ⟨a, cap, rfl, h1, h2, fun hne => ?_⟩
  obtain ⟨g, off, rfl, hc⟩ := h4 hne
  refine ⟨g, off, rfl, fun j hj => ?_⟩
  obtain ⟨c0, c1, c2, c3⟩ := hc j hj
  have hg : g < w.heap.size := World.block_lt_of_cell? w _ c0
  exact ⟨(q.cell (p := ⟨g, _, none⟩) hg).trans c0, (q.cell (p := ⟨g, _, none⟩) hg).trans c1, (q.cell (p := ⟨g, _, none⟩) hg).trans c2, (q.cell (p := ⟨g, _, none⟩) hg).trans c3⟩
theorem QRow.at_ {w : World} {a : Option Addr} {n cap : Nat} {ps : List Pq} (h : QRow w (.slice a n cap) ps) {j : Nat} (hj : j < ps.length) :
    ∃ b off, a = some ⟨b, off, none⟩ ∧ w.cell? ⟨b, off + j * 4, none⟩ = some (.string (ps.getD j Pq.z).la) ∧ w.cell? ⟨b, off + j * 4 + 1, none⟩ = some (.string (ps.getD j Pq.z).lb) ∧ w.cell? ⟨b, off + j * 4 + 2, none⟩ = some (.string (ps.getD j Pq.z).ha) ∧ w.cell? ⟨b, off + j * 4 + 3, none⟩ = some (.string (ps.getD j Pq.z).hb) := by
  obtain ⟨a', cap', e, h1, h2, h4⟩ := h
  cases e
  obtain ⟨b, off, rfl, hc⟩ := h4 (by rintro rfl; exact absurd hj (Nat.not_lt_zero _))
  exact ⟨b, off, rfl, hc j hj⟩
theorem QRow.shape {w : World} {v : Value} {ps : List Pq} (h : QRow w v ps) : ∃ a cap, v = .slice a ps.length cap ∧ ps.length ≤ cap ∧ cap ≤ 9223372036854775807 := by
  obtain ⟨a, cap, rfl, h1, h2, h4⟩ := h
  exact ⟨a, cap, rfl, h1, h2⟩
theorem underPair : ∃ f0 f1 : Field, Tryz.prog.underlying 43 = some (.struct #[f0, f1]) ∧ (f0.offset = 0 ∧ f0.type = 41) ∧ (f1.offset = 2 ∧ f1.type = 41) :=
  ⟨_, _, Tryz.underlying43, ⟨rfl, rfl⟩, rfl, rfl⟩
theorem underDelta : ∃ f0 f1 : Field, Tryz.prog.underlying 41 = some (.struct #[f0, f1]) ∧ (f0.offset = 0 ∧ f0.type = 9) ∧ (f1.offset = 1 ∧ f1.type = 9) :=
  ⟨_, _, Tryz.underlying41, ⟨rfl, rfl⟩, rfl, rfl⟩
theorem cellsPair : Tryz.prog.cellsOf 43 = 4 := by kernel_rfl
theorem cellsDelta : Tryz.prog.cellsOf 41 = 2 := by kernel_rfl
theorem cellsStr : Tryz.prog.cellsOf 9 = 1 := by kernel_rfl
theorem addr4q {w : World} {a : Addr} {u : Value} (j f : Nat) (h : w.cell? ((a.add (j * 4)).add f) = some u) : w.cell? ⟨a.block, a.off + j * 4 + f, none⟩ = some u := by
  have hs := World.cell?_spot h
  have e : (a.add (j * 4)).add f = ⟨a.block, a.off + j * 4 + f, none⟩ := by
    obtain ⟨b, off, spot⟩ := a
    simp only [Addr.add] at hs ⊢
    split <;> split <;> simp_all
  rw [← e]
  exact h
theorem bulk_at {H : Type} : ∀ (ds : List (DataW H)) (j : Nat), j < ds.length → Rows.uptoBulk (ds.getD j .nil) ≤ Rows.uptoBulkAll ds
  | [], j, h => absurd h (Nat.not_lt_zero _)
  | d :: r, 0, _ => by simp only [List.getD_cons_zero, Rows.uptoBulkAll]; omega
  | d :: r, j + 1, h => by
    have := bulk_at r j (by simpa using h)
    simp only [List.getD_cons_succ, Rows.uptoBulkAll]
    omega
theorem bulk_len {H : Type} : ∀ (ds : List (DataW H)), (∀ j, j < ds.length → 1 ≤ Rows.uptoBulk (ds.getD j .nil)) → ds.length ≤ Rows.uptoBulkAll ds
  | [], _ => Nat.zero_le _
  | d :: r, h => by
    have h0 := h 0 (by simp)
    have ih := bulk_len r (fun j hj => by have := h (j + 1) (by simp; omega); simpa using this)
    simp only [List.getD_cons_zero] at h0
    simp only [Rows.uptoBulkAll, List.length_cons]
    omega
set_option maxRecDepth 100000 in
theorem open_pairs {H : Type} {enc : TypeId × Value → H} {w : World} {held : Bool} {fuel : Nat} {v : Value} {x : DataW H × List MemPlace} (hv : ∃ a n c, v = .slice a n c)
    (h : DataW.trod enc Tryz.prog w 0 (fun _ => true) held fuel 22 v.cells.toList = some x) : ∃ ps, QRow w v ps ∧ ps.length ≤ Rows.uptoBulk x.1 ∧ ∀ j, j < ps.length → (ps.getD j Pq.z).sz ≤ Rows.uptoBulk x.1 := by
  obtain ⟨va, vn, vc, rfl⟩ := hv
  rcases open_slice (t := 22) (e := 43) (by kernel_rfl) h with ⟨hcs, _⟩ | ⟨a, len, cap, m, n, D, Pl, hcs, hb, hl, hm, hmm, rfl, hx⟩
  · simp [Value.cells] at hcs
    obtain ⟨rfl, rfl, rfl⟩ := hcs
    exact ⟨[], ⟨none, 0, rfl, by simp, by simp, fun h => absurd rfl h⟩, Nat.zero_le _, fun j hj => absurd hj (Nat.not_lt_zero _)⟩
  · simp [Value.cells] at hcs
    obtain ⟨rfl, rfl, rfl⟩ := hcs
    simp only [if_true] at hmm
    subst hmm
    obtain ⟨f0, f1, hu, ⟨o0, t0⟩, o1, t1⟩ := underPair
    obtain ⟨k0, k1, hd, ⟨p0, s0⟩, p1, s1⟩ := underDelta
    rw [cellsPair] at hx
    have each : ∀ j, j < m → ∃ x : Pq, (w.cell? ⟨a.block, a.off + j * 4, none⟩ = some (.string x.la) ∧ w.cell? ⟨a.block, a.off + j * 4 + 1, none⟩ = some (.string x.lb) ∧ w.cell? ⟨a.block, a.off + j * 4 + 2, none⟩ = some (.string x.ha) ∧ w.cell? ⟨a.block, a.off + j * 4 + 3, none⟩ = some (.string x.hb)) ∧ x.sz + 1 ≤ Rows.uptoBulk (D j) := by
      intro j hj
      obtain ⟨cs, h1, h2⟩ := hx j hj
      obtain ⟨_, hlen, hcell⟩ := World.cells?_some h1
      obtain ⟨xs, k, hk, hxy, _, hxl, hf⟩ := DataW.trod_struct hu h2
      match cs, hlen with
      | [v0, v1, v2, v3], _ =>
        match xs, hxl with
        | [y0, y1], _ =>
          have g0 := hf 0 f0 rfl
          have g1 := hf 1 f1 rfl
          simp [o0, t0, cellsDelta] at g0
          simp [o1, t1, cellsDelta] at g1
          obtain ⟨us, _, _, uxy, _, uxl, uf⟩ := DataW.trod_struct hd g0
          obtain ⟨ws, _, _, wxy, _, wxl, wf⟩ := DataW.trod_struct hd g1
          match us, uxl with
          | [a0, a1], _ =>
            match ws, wxl with
            | [b0, b1], _ =>
              have q0 := uf 0 k0 rfl
              have q1 := uf 1 k1 rfl
              have q2 := wf 0 k0 rfl
              have q3 := wf 1 k1 rfl
              simp [p0, s0, cellsStr] at q0 q2
              simp [p1, s1, cellsStr] at q1 q3
              obtain ⟨c0, e0, z0, -⟩ := DataW.trod_string Tryz.underlying9 q0
              obtain ⟨c1, e1, z1, -⟩ := DataW.trod_string Tryz.underlying9 q1
              obtain ⟨c2, e2, z2, -⟩ := DataW.trod_string Tryz.underlying9 q2
              obtain ⟨c3, e3, z3, -⟩ := DataW.trod_string Tryz.underlying9 q3
              cases e0; cases e1; cases e2; cases e3
              have hD : D j = .agg [.agg [.lit (.string c0.data.toList), .lit (.string c1.data.toList)], .agg [.lit (.string c2.data.toList), .lit (.string c3.data.toList)]] := by
                have := (Prod.mk.inj hxy).1
                rw [this, uxy, wxy, z0, z1, z2, z3]
                rfl
              refine ⟨⟨c0, c1, c2, c3⟩, ⟨addr4q j 0 (hcell 0 (by omega)), addr4q j 1 (hcell 1 (by omega)), addr4q j 2 (hcell 2 (by omega)), addr4q j 3 (hcell 3 (by omega))⟩, ?_⟩
              rw [hD]
              simp only [Rows.uptoBulk, Rows.uptoBulkAll, Pq.sz]
              omega
    have inh : Inhabited Pq := ⟨Pq.z⟩
    obtain ⟨X, hX⟩ := choose_lt each
    have hlen2 : ((List.range vn).map X).length = vn := by simp
    have hlenD : ((List.range vn).map D).length = vn := by simp
    have eX : ∀ j, j < vn → ((List.range vn).map X).getD j Pq.z = X j := fun j hj => by simp [List.getD_eq_getElem?_getD, hj]
    have eD : ∀ j, j < vn → ((List.range vn).map D).getD j .nil = D j := fun j hj => by simp [List.getD_eq_getElem?_getD, hj]
    have hb1 := bulk_len ((List.range vn).map D) (fun j hj => by
      rw [hlenD] at hj
      rw [eD j hj]
      have := (hX j (by omega)).2
      omega)
    rw [hlenD] at hb1
    have hb2 : ∀ j, j < vn → (X j).sz ≤ Rows.uptoBulkAll ((List.range vn).map D) := fun j hj => by
      have h1 := bulk_at ((List.range vn).map D) j (by rw [hlenD]; exact hj)
      rw [eD j hj] at h1
      have := (hX j (by omega)).2
      omega
    simp only [Rows.uptoBulk]
    obtain ⟨b, off, spot⟩ := a
    refine ⟨(List.range vn).map X, ⟨some ⟨b, off, spot⟩, m, by rw [hlen2], by rw [hlen2]; omega, by unfold maxLen at hm; omega, fun hne => ?_⟩, by omega, fun j hj => ?_⟩
    · have h0 : 0 < vn := by
        apply Nat.pos_of_ne_zero
        rintro rfl
        simp at hne
      have hsp : spot = none := by
        obtain ⟨cs, h1, _⟩ := hx 0 (by omega)
        obtain ⟨_, hlen, hcell⟩ := World.cells?_some h1
        have := hcell 0 (by omega)
        match cs, hlen with
        | [v0, v1, v2, v3], _ => simpa [Addr.add] using World.cell?_spot this
      subst hsp
      refine ⟨b, off, rfl, fun j hj => ?_⟩
      rw [hlen2] at hj
      rw [eX j hj]
      exact (hX j (by omega)).1
    · rw [hlen2] at hj
      rw [eX j hj]
      have := hb2 j hj
      omega
end Go.Proofs.YtlepicdpelkmlaaGreatDoor
