/-
  A list of tokens that came in.
-/
import Derived.Test.YtigcakppnbfpkaaGreatDoorRows
import Derived.Test.YtigcakppnbfpkaaGreatDoorJoin2
import Derived.Deep.SlicePairs
import Derived.OpenShut
import Derived.SizedLaws
namespace Go.Proofs.YtigcakppnbfpkaaGreatDoor
open Go.RowKit Go.Deep
set_option linter.unusedVariables false
theorem underTok : ∃ f0 f1 f2 f3 : Field, Tryz.prog.underlying 24 = some (.struct #[f0, f1, f2, f3]) ∧ (f0.offset = 0 ∧ f0.type = 3) ∧ (f1.offset = 1 ∧ f1.type = 3) ∧ (f2.offset = 2 ∧ f2.type = 3) ∧ (f3.offset = 3 ∧ f3.type = 9) :=
  ⟨_, _, _, _, Tryz.underlying24, ⟨rfl, rfl⟩, ⟨rfl, rfl⟩, ⟨rfl, rfl⟩, rfl, rfl⟩
theorem cellsTok4 : Tryz.prog.cellsOf 24 = 4 := by kernel_rfl
theorem cellsInt1 : Tryz.prog.cellsOf 3 = 1 := by kernel_rfl
theorem cellsStr1 : Tryz.prog.cellsOf 9 = 1 := by kernel_rfl
theorem addr4 {w : World} {a : Addr} {u : Value} (j f : Nat) (h : w.cell? ((a.add (j * 4)).add f) = some u) : w.cell? ⟨a.block, a.off + j * 4 + f, none⟩ = some u := by
  have hs := World.cell?_spot h
  have e : (a.add (j * 4)).add f = ⟨a.block, a.off + j * 4 + f, none⟩ := by
    obtain ⟨b, off, spot⟩ := a
    simp only [Addr.add] at hs ⊢
    split <;> split <;> simp_all
  rw [← e]
  exact h
theorem jtot_bulk {H : Type} : ∀ (ts : List J) (ds : List (DataW H)), ts.length = ds.length → (∀ j, j < ts.length → 2 * (ts.getD j j0).text.length + 3 ≤ 2 * Rows.uptoBulk (ds.getD j .nil)) → jtot ts ≤ 2 * Rows.uptoBulkAll ds
  | [], ds, _, _ => Nat.zero_le _
  | t :: ts, [], h, _ => by simp at h
  | t :: ts, d :: ds, h, hj => by
    have h0 := hj 0 (by simp)
    have ih := jtot_bulk ts ds (by simpa using h) (fun j hjl => by
      have := hj (j + 1) (by simp; omega)
      simpa using this)
    simp only [List.getD_cons_zero] at h0
    simp only [jtot, Rows.uptoBulkAll]
    omega
set_option maxRecDepth 100000 in
theorem open_toks {H : Type} {enc : TypeId × Value → H} {w : World} {held : Bool} {fuel : Nat} {v : Value} {x : DataW H × List MemPlace} (hv : ∃ a n c, v = .slice a n c)
    (h : DataW.trod enc Tryz.prog w 0 (fun _ => true) held fuel 22 v.cells.toList = some x) : ∃ ts, JRow w v ts ∧ jtot ts ≤ 2 * Rows.uptoBulk x.1 := by
  obtain ⟨va, vn, vc, rfl⟩ := hv
  rcases open_slice (t := 22) (e := 24) (by kernel_rfl) h with ⟨hcs, _⟩ | ⟨a, len, cap, m, n, D, Pl, hcs, hb, hl, hm, hmm, rfl, hx⟩
  · simp [Value.cells] at hcs
    obtain ⟨rfl, rfl, rfl⟩ := hcs
    exact ⟨[], ⟨none, 0, rfl, by simp, by simp, fun h => absurd rfl h⟩, Nat.zero_le _⟩
  · simp [Value.cells] at hcs
    obtain ⟨rfl, rfl, rfl⟩ := hcs
    simp only [if_true] at hmm
    subst hmm
    obtain ⟨f0, f1, f2, f3, hu, ⟨o0, t0⟩, ⟨o1, t1⟩, ⟨o2, t2⟩, o3, t3⟩ := underTok
    rw [cellsTok4] at hx
    have each : ∀ j, j < m → ∃ x : J, w.cell? ⟨a.block, a.off + j * 4, none⟩ = some (.int .i64 x.kind) ∧ w.cell? ⟨a.block, a.off + j * 4 + 1, none⟩ = some (.int .i64 x.beg) ∧ w.cell? ⟨a.block, a.off + j * 4 + 2, none⟩ = some (.int .i64 x.fin) ∧ w.cell? ⟨a.block, a.off + j * 4 + 3, none⟩ = some (.string ⟨x.text.toArray⟩) ∧ 2 * x.text.length + 3 ≤ 2 * Rows.uptoBulk (D j) := by
      intro j hj
      obtain ⟨cs, h1, h2⟩ := hx j hj
      obtain ⟨_, hlen, hcell⟩ := World.cells?_some h1
      obtain ⟨xs, k, hk, hxy, _, hxl, hf⟩ := DataW.trod_struct hu h2
      match cs, hlen with
      | [v0, v1, v2, v3], _ =>
        match xs, hxl with
        | [y0, y1, y2, y3], _ =>
          have g0 := hf 0 f0 rfl
          have g1 := hf 1 f1 rfl
          have g2 := hf 2 f2 rfl
          have g3 := hf 3 f3 rfl
          simp [o0, t0, cellsInt1] at g0
          simp [o1, t1, cellsInt1] at g1
          simp [o2, t2, cellsInt1] at g2
          simp [o3, t3, cellsStr1] at g3
          obtain ⟨n0, e0, z0, -⟩ := DataW.trod_int Tryz.underlying3 g0
          obtain ⟨n1, e1, z1, -⟩ := DataW.trod_int Tryz.underlying3 g1
          obtain ⟨n2, e2, z2, -⟩ := DataW.trod_int Tryz.underlying3 g2
          obtain ⟨s3, e3, z3, -⟩ := DataW.trod_string Tryz.underlying9 g3
          cases e0; cases e1; cases e2; cases e3
          have hD : D j = .agg [.lit (.int .i64 n0), .lit (.int .i64 n1), .lit (.int .i64 n2), .lit (.string s3.data.toList)] := by
            have := (Prod.mk.inj hxy).1
            rw [this, z0, z1, z2, z3]
            rfl
          refine ⟨⟨n0, n1, n2, s3.data.toList⟩, addr4 j 0 (hcell 0 (by omega)), addr4 j 1 (hcell 1 (by omega)), addr4 j 2 (hcell 2 (by omega)), addr4 j 3 (hcell 3 (by omega)), ?_⟩
          rw [hD]
          simp only [Rows.uptoBulk, Rows.uptoBulkAll]
          omega
    have inh : Inhabited J := ⟨j0⟩
    obtain ⟨X, hX⟩ := choose_lt each
    obtain ⟨b, off, spot⟩ := a
    refine ⟨(List.range vn).map X, ⟨some ⟨b, off, spot⟩, m, by simp, by simp; omega, by unfold maxLen at hm; omega, fun hne => ?_⟩, ?_⟩
    · have h0 : 0 < vn := by
        apply Nat.pos_of_ne_zero
        rintro rfl
        simp at hne
      have hsp : spot = none := by
        obtain ⟨cs, h1, _⟩ := hx 0 (by omega)
        obtain ⟨_, hlen, hcell⟩ := World.cells?_some h1
        have := hcell 0 (by omega)
        match cs, hlen with
        | [v0, v1, v2, v3], _ => simpa [Addr.add] using World.cell?_spot this
      subst hsp
      refine ⟨b, off, rfl, fun j hj => ?_⟩
      simp only [List.length_map, List.length_range] at hj
      have e : ((List.range vn).map X).getD j j0 = X j := by simp [List.getD_eq_getElem?_getD, hj]
      rw [e]
      obtain ⟨c0, c1, c2, c3, -⟩ := hX j (by omega)
      exact ⟨c0, c1, c2, c3⟩
    · have := jtot_bulk ((List.range vn).map X) ((List.range vn).map D) (by simp) (fun j hj => by
        simp only [List.length_map, List.length_range] at hj
        have e : ((List.range vn).map X).getD j j0 = X j := by simp [List.getD_eq_getElem?_getD, hj]
        have e2 : ((List.range vn).map D).getD j .nil = D j := by simp [List.getD_eq_getElem?_getD, hj]
        rw [e, e2]
        exact (hX j (by omega)).2.2.2.2)
      simp only [Rows.uptoBulk]
      omega
end Go.Proofs.YtigcakppnbfpkaaGreatDoor
