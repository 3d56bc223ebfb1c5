/-
  swap: two that wait change their places.
-/
import Derived.Test.YtigbclhkmjcjjaaOrdMem
import Derived.Deep.QuietTactic
import Derived.BigQuiet
import Derived.BigRegion
namespace Go.Proofs.Ytigbclhkmjcjjaa
open Go.RowKit
set_option linter.unusedVariables false
def OS.swp (s : OS) (i j : Nat) : OS := { s with Z := O.swp s.Z i j, pl := O.swpl s.Z s.pl i j }
set_option maxRecDepth 100000 in
set_option maxHeartbeats 4000000 in
theorem swap_calls (w : World) (o : Oid) (s : OS) (h : Ord w o s) (i j : Nat) (hi : i < s.hl) (hj : j < s.hl) (bi : s.Z.getD i 0 ≤ o.n) (bj : s.Z.getD j 0 ≤ o.n) :
    Calls Try.prog 34 #[optr o, .int .i64 i, .int .i64 j] w fun e w' => e = .returned (.tuple #[]) ∧ Ord w' o (s.swp i j) ∧ Chg [o.gh, o.gl] w w' := by
  have hn := h.hn
  have hl := h.hhl
  have HO := hide h
  have c3 := h.c3
  have ci := h.hea (j := i) (by omega)
  have cj := h.hea (j := j) (by omega)
  have fi := h.heaFree i
  have fj := h.heaFree j
  have hzl : s.Z.length = o.n := h.2.2.2.2.2.2.2.1
  replace hzl := hide hzl
  clear h
  have i1 : (i : Int) < (s.hl : Int) := by omega
  have j1 : (j : Int) < (s.hl : Int) := by omega
  obtain ⟨x, hx⟩ : ∃ x, s.Z.getD i 0 = x := ⟨_, rfl⟩
  obtain ⟨y, hy⟩ : ∃ y, s.Z.getD j 0 = y := ⟨_, rfl⟩
  rw [hx] at ci bi
  rw [hy] at cj bj
  have O1 : Ord (w.setCell ⟨o.gh, i, none⟩ (.int .i64 (y : Int))) o { s with Z := s.Z.set i y } := HO.out.setHea i y
  have cj2 := O1.hea (j := j) (by omega)
  have fj2 := O1.heaFree j
  have e2 : (s.Z.set i y).getD j 0 = y := by
    rw [O.getD_set']
    split
    · rfl
    · exact hy
  have cj2' : (w.setCell ⟨o.gh, i, none⟩ (.int .i64 (y : Int))).cell? ⟨o.gh, j, none⟩ = some (.int .i64 (y : Int)) := by
    rw [cj2]
    show some (Value.int .i64 (((s.Z.set i y).getD j 0 : Nat) : Int)) = _
    rw [e2]
  have O2 : Ord ((w.setCell ⟨o.gh, i, none⟩ (.int .i64 (y : Int))).setCell ⟨o.gh, j, none⟩ (.int .i64 (x : Int))) o { s with Z := O.swp s.Z i j } := by
    have := O1.setHea j x
    rw [← hx, ← hy] at this
    rw [← hx, ← hy]
    exact this
  have C2 : Chg [o.gh, o.gl] w ((w.setCell ⟨o.gh, i, none⟩ (.int .i64 (y : Int))).setCell ⟨o.gh, j, none⟩ (.int .i64 (x : Int))) := ((Chg.refl _ w).set (by simp) _).set (by simp) _
  have z2 : (O.swp s.Z i j).getD i 0 = y ∧ (O.swp s.Z i j).getD j 0 = x := by
    have hs := fun k => O.swp_at s.Z (i := i) (j := j) (by rw [hzl.out]; omega) (by rw [hzl.out]; omega) k
    refine ⟨?_, ?_⟩
    · rw [hs]
      by_cases e : i = j
      · rw [if_pos e, hx, ← hy, ← hx, e]
      · rw [if_neg e, if_pos rfl, hy]
    · rw [hs, if_pos rfl, hx]
  clear cj2 O1 e2
  replace O2 := hide O2
  replace C2 := hide C2
  replace z2 := hide z2
  replace hx := hide hx
  replace hy := hide hy
  replace hn := hide hn
  replace hl := hide hl
  replace hi := hide hi
  replace hj := hide hj
  go_enter Try.func34, Try.ntmps34
  go_wp2_with fail
  go_region
  clear cj2' fj2 c3 ci cj fi fj
  generalize (World.setCell (World.setCell _ _ _) _ _) = W1 at O2 C2 ⊢
  obtain ⟨za, zb⟩ := z2.out
  have ilt : i < o.n := by have := hi.out; have := hl.out; omega
  have jlt : j < o.n := by have := hj.out; have := hl.out; omega
  have y1 : (y : Int) < (o.n : Int) + 1 := by omega
  have x1 : (x : Int) < (o.n : Int) + 1 := by omega
  have d3 := O2.out.c3
  have d4 := O2.out.c4
  have di := O2.out.hea (j := i) ilt
  have dp := O2.out.pla (j := y) bj
  have df := O2.out.plaFree y
  simp only [za] at di
  clear za
  generalize List.getD s.pl y 0 = py at dp
  have O3 := O2.out.setPla y (i : Int)
  have C3 := C2.out.set (g := o.gl) (j := y) (by simp) (.int .i64 (i : Int))
  replace O3 := hide O3
  replace C3 := hide C3
  go_wp2_with fail
  go_region
  clear d3 d4 di dp df
  generalize (World.setCell W1 _ _) = W2 at O3 C3 ⊢
  have d3 := O3.out.c3
  have d4 := O3.out.c4
  have di := O3.out.hea (j := j) jlt
  have dp := O3.out.pla (j := x) bi
  have df := O3.out.plaFree x
  simp only [zb] at di
  clear zb
  generalize List.getD (List.set s.pl y (i : Int)) x 0 = px at dp
  have O4 := O3.out.setPla x (j : Int)
  have C4 := C3.out.set (g := o.gl) (j := x) (by simp) (.int .i64 (j : Int))
  replace O4 := hide O4
  replace C4 := hide C4
  go_wp2_with fail
  go_region
  go_wp2
  go_end0
  refine ⟨rfl, ?_, C4.out.drewN 3⟩
  obtain ⟨za, zb⟩ := z2.out
  have := O4.out
  unfold OS.swp O.swpl
  rw [za, zb]
  exact this
end Go.Proofs.Ytigbclhkmjcjjaa
