/-
  A list of steps that came in.
-/
import Derived.Test.YtigbclhkmjcjjaaOrdTimes
import Derived.Deep.SlicePairs
import Derived.OpenShut
import Derived.SizedLaws
namespace Go.Proofs.Ytigbclhkmjcjjaa
open Go.RowKit Go.Deep
set_option linter.unusedVariables false
theorem underOp : ∃ f0 f1 f2 f3 f4 : Field, Try.prog.underlying 45 = some (.struct #[f0, f1, f2, f3, f4]) ∧ (f0.offset = 0 ∧ f0.type = 3) ∧ (f1.offset = 1 ∧ f1.type = 4) ∧ (f2.offset = 2 ∧ f2.type = 3) ∧ (f3.offset = 3 ∧ f3.type = 4) ∧ (f4.offset = 4 ∧ f4.type = 3) :=
  ⟨_, _, _, _, _, Try.underlying45, ⟨rfl, rfl⟩, ⟨rfl, rfl⟩, ⟨rfl, rfl⟩, ⟨rfl, rfl⟩, rfl, rfl⟩
theorem cellsOp : Try.prog.cellsOf 45 = 5 := by kernel_rfl
theorem cellsInt : Try.prog.cellsOf 3 = 1 := by kernel_rfl
theorem cellsBool : Try.prog.cellsOf 4 = 1 := by kernel_rfl
theorem bytesOp : Try.prog.bytesOf 45 = 40 := by kernel_rfl
theorem addr5 {w : World} {a : Addr} {u : Value} (j f : Nat) (h : w.cell? ((a.add (j * 5)).add f) = some u) : w.cell? ⟨a.block, a.off + j * 5 + f, none⟩ = some u := by
  have hs := World.cell?_spot h
  have e : (a.add (j * 5)).add f = ⟨a.block, a.off + j * 5 + f, none⟩ := by
    obtain ⟨b, off, spot⟩ := a
    simp only [Addr.add] at hs ⊢
    split <;> split <;> simp_all
  rw [← e]
  exact h
set_option maxRecDepth 10000 in
theorem open_ops {H : Type} {enc : TypeId × Value → H} {w : World} {held : Bool} {fuel : Nat} {v : Value} {x : DataW H × List MemPlace} (hv : ∃ a n c, v = .slice a n c)
    (h : DataW.trod enc Try.prog w 0 (fun _ => true) held fuel 22 v.cells.toList = some x) (hlt : ∀ p ∈ x.2, p.block < w.heap.size)
    (hsz : ∀ el sp, x.1 = .slice el sp → (el.length + sp.length) * 40 ≤ reachBytes) : ∃ ns, Pops w.heap.size w v ns := by
  obtain ⟨va, vn, vc, rfl⟩ := hv
  rcases open_slice (t := 22) (e := 45) (by kernel_rfl) h with ⟨hcs, _⟩ | ⟨a, len, cap, m, n, D, Pl, hcs, hb, hl, hm, hmm, rfl, hx⟩
  · simp [Value.cells] at hcs
    obtain ⟨rfl, rfl, rfl⟩ := hcs
    exact ⟨[], none, 0, rfl, by simp, fun h => absurd rfl h⟩
  · simp [Value.cells] at hcs
    obtain ⟨rfl, rfl, rfl⟩ := hcs
    simp only [if_true] at hmm
    subst hmm
    have hs := hsz _ _ rfl
    simp only [List.length_map, List.length_range] at hs
    unfold reachBytes at hs
    obtain ⟨f0, f1, f2, f3, f4, hu, ⟨o0, t0⟩, ⟨o1, t1⟩, ⟨o2, t2⟩, ⟨o3, t3⟩, o4, t4⟩ := underOp
    rw [cellsOp] at hx hlt
    have each : ∀ j, j < m → ∃ x : POp, w.cell? ⟨a.block, a.off + j * 5, none⟩ = some (.int .i64 x.kind) ∧ w.cell? ⟨a.block, a.off + j * 5 + 1, none⟩ = some (.bool x.sec) ∧ w.cell? ⟨a.block, a.off + j * 5 + 2, none⟩ = some (.int .i64 x.n) ∧ w.cell? ⟨a.block, a.off + j * 5 + 3, none⟩ = some (.bool x.up) ∧ w.cell? ⟨a.block, a.off + j * 5 + 4, none⟩ = some (.int .i64 x.times) := by
      intro j hj
      obtain ⟨cs, h1, h2⟩ := hx j hj
      obtain ⟨_, hlen, hcell⟩ := World.cells?_some h1
      obtain ⟨xs, k, hk, hxy, _, hxl, hf⟩ := DataW.trod_struct hu h2
      match cs, hlen with
      | [v0, v1, v2, v3, v4], _ =>
        match xs, hxl with
        | [y0, y1, y2, y3, y4], _ =>
          have g0 := hf 0 f0 rfl
          have g1 := hf 1 f1 rfl
          have g2 := hf 2 f2 rfl
          have g3 := hf 3 f3 rfl
          have g4 := hf 4 f4 rfl
          simp [o0, t0, cellsInt] at g0
          simp [o1, t1, cellsBool] at g1
          simp [o2, t2, cellsInt] at g2
          simp [o3, t3, cellsBool] at g3
          simp [o4, t4, cellsInt] at g4
          obtain ⟨n0, e0, -, -⟩ := DataW.trod_int Try.underlying3 g0
          obtain ⟨n1, e1, -, -⟩ := DataW.trod_bool Try.underlying4 g1
          obtain ⟨n2, e2, -, -⟩ := DataW.trod_int Try.underlying3 g2
          obtain ⟨n3, e3, -, -⟩ := DataW.trod_bool Try.underlying4 g3
          obtain ⟨s4, e4, -, -⟩ := DataW.trod_int Try.underlying3 g4
          cases e0; cases e1; cases e2; cases e3; cases e4
          exact ⟨⟨n0, n1, n2, n3, s4⟩, addr5 j 0 (hcell 0 (by omega)), addr5 j 1 (hcell 1 (by omega)), addr5 j 2 (hcell 2 (by omega)), addr5 j 3 (hcell 3 (by omega)), addr5 j 4 (hcell 4 (by omega))⟩
    have inh : Inhabited POp := ⟨POp.z⟩
    obtain ⟨X, hX⟩ := choose_lt each
    obtain ⟨b, off, spot⟩ := a
    by_cases h0 : vn = 0
    · subst h0
      exact ⟨[], some ⟨b, off, spot⟩, m, rfl, by simp, fun h => absurd rfl h⟩
    · have hsp : spot = none := by
        obtain ⟨cs, h1, _⟩ := hx 0 (by omega)
        obtain ⟨_, hlen, hcell⟩ := World.cells?_some h1
        have := hcell 0 (by omega)
        match cs, hlen with
        | [v0, v1, v2, v3, v4], _ => simpa [Addr.add] using World.cell?_spot this
      subst hsp
      refine ⟨(List.range vn).map X, some ⟨b, off, none⟩, m, by simp, by simp; omega, fun _ => ⟨b, off, rfl, ?_, fun j hj => ?_⟩⟩
      · exact World.block_lt_of_cell? w ⟨b, _, none⟩ (hX 0 (by omega)).1
      · simp only [List.length_map, List.length_range] at hj
        have e : ((List.range vn).map X).getD j POp.z = X j := by simp [List.getD_eq_getElem?_getD, hj]
        rw [e]
        exact hX j (by omega)
end Go.Proofs.Ytigbclhkmjcjjaa
