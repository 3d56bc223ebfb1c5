/-
  An order in memory: its block and its four lists; what changes and what stays.
-/
import Derived.Test.YtigbclhkmjcjjaaBase
import Derived.Test.YtigbclhkmjcjjaaOrdMath
import Derived.Test.YtigbclhkmjcjjaaFltMath
import Derived.Deep.RegionHeld3
import Derived.Laws.OwnMore
import Derived.Laws.FloatArith
namespace Go.Proofs.Ytigbclhkmjcjjaa
open Go.RowKit
set_option linter.unusedVariables false
/-- Where an order lies: its own block, those of activities, phases, heap, places; how many variables it has. -/
structure Oid where
  P : Nat
  ga : Nat
  gp : Nat
  gh : Nat
  gl : Nat
  n : Nat
/-- What an order holds. -/
structure OS where
  A : List Nat
  r : Nat
  ph : List Bool
  Z : List Nat
  hl : Nat
  pl : List Int
def blk (o : Oid) (s : OS) : Array Value :=
  #[.slice (some ⟨o.ga, 0, none⟩) (o.n + 1) (o.n + 1), .float .f32 s.r, .slice (some ⟨o.gp, 0, none⟩) (o.n + 1) (o.n + 1), .slice (some ⟨o.gh, 0, none⟩) s.hl o.n, .slice (some ⟨o.gl, 0, none⟩) (o.n + 1) (o.n + 1)]
def OwnF (w : World) (g : Nat) (A : List Nat) : Prop := w.heap[g]? = some (.cells (A.map (Value.float .f32)).toArray 50 (0, 0))
def OwnB (w : World) (g : Nat) (ph : List Bool) : Prop := w.heap[g]? = some (.cells (ph.map Value.bool).toArray 4 (0, 0))
def OwnZ (w : World) (g : Nat) (Z : List Nat) : Prop := w.heap[g]? = some (.cells (Z.map fun v : Nat => Value.int .i64 (v : Int)).toArray 3 (0, 0))
/-- The order o holds s. -/
def Ord (w : World) (o : Oid) (s : OS) : Prop :=
  w.heap[o.P]? = some (.cells (blk o s) 54 (0, 0)) ∧ OwnF w o.ga s.A ∧ OwnB w o.gp s.ph ∧ OwnZ w o.gh s.Z ∧ Own .i64 3 w o.gl s.pl ∧
  s.A.length = o.n + 1 ∧ s.ph.length = o.n + 1 ∧ s.Z.length = o.n ∧ s.pl.length = o.n + 1 ∧ s.hl ≤ o.n ∧ o.gh ≠ o.gl ∧ o.n ≤ 1000000
section
variable {w w' : World} {o : Oid} {s : OS}
theorem block_cell {cs : Array Value} {t : TypeId} {g : Nat} (h : w.heap[g]? = some (.cells cs t (0, 0))) (j : Nat) : w.cell? ⟨g, j, none⟩ = cs[j]? := by
  rw [cell_of_row w g j cs t (0, 0) h]
theorem block_free {cs : Array Value} {t : TypeId} {g : Nat} (h : w.heap[g]? = some (.cells cs t (0, 0))) (j : Nat) : w.frozen? ⟨g, j, none⟩ = false := by
  simp [World.frozen?, h]
theorem Ord.c0 (h : Ord w o s) : w.cell? ⟨o.P, 0, none⟩ = some (.slice (some ⟨o.ga, 0, none⟩) (o.n + 1) (o.n + 1)) := by rw [block_cell h.1]; rfl
theorem Ord.c1 (h : Ord w o s) : w.cell? ⟨o.P, 1, none⟩ = some (.float .f32 s.r) := by rw [block_cell h.1]; rfl
theorem Ord.c2 (h : Ord w o s) : w.cell? ⟨o.P, 2, none⟩ = some (.slice (some ⟨o.gp, 0, none⟩) (o.n + 1) (o.n + 1)) := by rw [block_cell h.1]; rfl
theorem Ord.c3 (h : Ord w o s) : w.cell? ⟨o.P, 3, none⟩ = some (.slice (some ⟨o.gh, 0, none⟩) s.hl o.n) := by rw [block_cell h.1]; rfl
theorem Ord.c4 (h : Ord w o s) : w.cell? ⟨o.P, 4, none⟩ = some (.slice (some ⟨o.gl, 0, none⟩) (o.n + 1) (o.n + 1)) := by rw [block_cell h.1]; rfl
theorem Ord.free (h : Ord w o s) (j : Nat) : w.frozen? ⟨o.P, j, none⟩ = false := block_free h.1 j
theorem Ord.act (h : Ord w o s) {j : Nat} (hj : j ≤ o.n) : w.cell? ⟨o.ga, j, none⟩ = some (.float .f32 (s.A.getD j 0)) := by
  rw [block_cell h.2.1]
  have : j < s.A.length := by rw [h.2.2.2.2.2.1]; omega
  simp [List.getD_eq_getElem?_getD, List.getElem?_eq_getElem this]
theorem Ord.actFree (h : Ord w o s) (j : Nat) : w.frozen? ⟨o.ga, j, none⟩ = false := block_free h.2.1 j
theorem Ord.pha (h : Ord w o s) {j : Nat} (hj : j ≤ o.n) : w.cell? ⟨o.gp, j, none⟩ = some (.bool (s.ph.getD j false)) := by
  rw [block_cell h.2.2.1]
  have : j < s.ph.length := by rw [h.2.2.2.2.2.2.1]; omega
  simp [List.getD_eq_getElem?_getD, List.getElem?_eq_getElem this]
theorem Ord.phaFree (h : Ord w o s) (j : Nat) : w.frozen? ⟨o.gp, j, none⟩ = false := block_free h.2.2.1 j
theorem Ord.hea (h : Ord w o s) {j : Nat} (hj : j < o.n) : w.cell? ⟨o.gh, j, none⟩ = some (.int .i64 (s.Z.getD j 0 : Nat)) := by
  rw [block_cell h.2.2.2.1]
  have : j < s.Z.length := by rw [h.2.2.2.2.2.2.2.1]; omega
  simp [List.getD_eq_getElem?_getD, List.getElem?_eq_getElem this]
theorem Ord.heaFree (h : Ord w o s) (j : Nat) : w.frozen? ⟨o.gh, j, none⟩ = false := block_free h.2.2.2.1 j
theorem Ord.pla (h : Ord w o s) {j : Nat} (hj : j ≤ o.n) : w.cell? ⟨o.gl, j, none⟩ = some (.int .i64 (s.pl.getD j 0)) :=
  h.2.2.2.2.1.cell j (by rw [h.2.2.2.2.2.2.2.2.1]; omega)
theorem Ord.plaFree (h : Ord w o s) (j : Nat) : w.frozen? ⟨o.gl, j, none⟩ = false := h.2.2.2.2.1.frozen j
theorem Ord.hn (h : Ord w o s) : o.n ≤ 1000000 := h.2.2.2.2.2.2.2.2.2.2.2
theorem Ord.hhl (h : Ord w o s) : s.hl ≤ o.n := h.2.2.2.2.2.2.2.2.2.1
end
/-- Nothing but the blocks of S has changed of what was there. -/
structure Chg (S : List Nat) (w w' : World) : Prop where
  os : w'.os = w.os
  tape : w'.tape = w.tape
  output : w'.output = w.output
  size : w.heap.size ≤ w'.heap.size
  block : ∀ b, b < w.heap.size → b ∉ S → w'.heap[b]? = w.heap[b]?
section
variable {S S' : List Nat} {w w1 w2 : World}
theorem Chg.refl (S : List Nat) (w : World) : Chg S w w := ⟨rfl, rfl, rfl, Nat.le_refl _, fun _ _ _ => rfl⟩
theorem Chg.trans (h : Chg S w w1) (q : Chg S w1 w2) : Chg S w w2 :=
  ⟨q.os.trans h.os, q.tape.trans h.tape, q.output.trans h.output, Nat.le_trans h.size q.size, fun b hb hn => (q.block b (Nat.lt_of_lt_of_le hb h.size) hn).trans (h.block b hb hn)⟩
theorem Chg.mono (h : Chg S w w1) (hs : ∀ b, b ∈ S → b ∈ S') : Chg S' w w1 := ⟨h.os, h.tape, h.output, h.size, fun b hb hn => h.block b hb (fun c => hn (hs b c))⟩
theorem Chg.drew (h : Chg S w w1) : Chg S w w1.drew := ⟨h.os, h.tape, h.output, h.size, h.block⟩
theorem Chg.drewN (h : Chg S w w1) (n : Nat) : Chg S w (w1.drewN n) := ⟨h.os, h.tape, h.output, h.size, h.block⟩
theorem Chg.set (h : Chg S w w1) {g j : Nat} (hg : g ∈ S) (u : Value) : Chg S w (w1.setCell ⟨g, j, none⟩ u) :=
  ⟨h.os, h.tape, h.output, by simpa [World.setCell] using h.size, fun b hb hn => by
    rw [Below.heap_setCell _ _ _ _ (fun e => hn (by rw [e]; exact hg))]
    exact h.block b hb hn⟩
theorem Chg.below (h : Chg S w w1) {B : Nat} (hB : B ≤ w.heap.size) (hs : ∀ b, b ∈ S → B ≤ b) : Below B w w1 :=
  ⟨h.os, h.tape, h.output, h.size, fun b hb => h.block b (by omega) (fun c => by have := hs b c; omega)⟩
theorem Chg.of_below (h : Below w.heap.size w w1) : Chg S w w1 := ⟨h.os, h.tape, h.output, h.size, fun b hb _ => h.block b hb⟩
theorem Chg.keep (h : Chg S w w1) {b : Nat} {x : Obj} (hb : w.heap[b]? = some x) (hn : b ∉ S) : w1.heap[b]? = some x := by
  rw [h.block b (Array.getElem?_eq_some_iff.1 hb).1 hn]
  exact hb
end
/-- The blocks of an order. -/
def blks (o : Oid) : List Nat := [o.P, o.ga, o.gp, o.gh, o.gl]
theorem Ord.lt {w : World} {o : Oid} {s : OS} (h : Ord w o s) : ∀ b, b ∈ blks o → b < w.heap.size := by
  intro b hb
  simp only [blks, List.mem_cons, List.not_mem_nil, or_false] at hb
  rcases hb with rfl | rfl | rfl | rfl | rfl
  · exact (Array.getElem?_eq_some_iff.1 h.1).1
  · exact (Array.getElem?_eq_some_iff.1 h.2.1).1
  · exact (Array.getElem?_eq_some_iff.1 h.2.2.1).1
  · exact (Array.getElem?_eq_some_iff.1 h.2.2.2.1).1
  · exact h.2.2.2.2.1.lt
/-- The blocks of an order are five. -/
theorem Ord.apart {w : World} {o : Oid} {s : OS} (h : Ord w o s) : o.P ≠ o.ga ∧ o.P ≠ o.gp ∧ o.P ≠ o.gh ∧ o.P ≠ o.gl ∧ o.ga ≠ o.gp ∧ o.ga ≠ o.gh ∧ o.ga ≠ o.gl ∧ o.gp ≠ o.gh ∧ o.gp ≠ o.gl ∧ o.gh ≠ o.gl := by
  obtain ⟨h1, h2, h3, h4, h5, _, _, _, _, _, h6, _⟩ := h
  unfold OwnF at h2
  unfold OwnB at h3
  unfold OwnZ at h4
  unfold Own at h5
  have T : ∀ {a b : Nat} {x y : Array Value} {t u : TypeId}, w.heap[a]? = some (.cells x t (0, 0)) → w.heap[b]? = some (.cells y u (0, 0)) → t ≠ u → a ≠ b := by
    intro a b x y t u ha hb hne e
    subst e
    rw [ha] at hb
    cases hb
    exact hne rfl
  exact ⟨T h1 h2 (by decide), T h1 h3 (by decide), T h1 h4 (by decide), T h1 h5 (by decide), T h2 h3 (by decide), T h2 h4 (by decide), T h2 h5 (by decide), T h3 h4 (by decide), T h3 h5 (by decide), h6⟩
theorem Ord.keep {w w' : World} {o : Oid} {s : OS} {S : List Nat} (h : Ord w o s) (q : Chg S w w') (hS : ∀ b, b ∈ blks o → b ∉ S) : Ord w' o s := by
  obtain ⟨h1, h2, h3, h4, h5, hr⟩ := h
  have m : ∀ b, b ∈ blks o → b ∉ S := hS
  refine ⟨q.keep h1 (m _ (by simp [blks])), q.keep h2 (m _ (by simp [blks])), q.keep h3 (m _ (by simp [blks])), q.keep h4 (m _ (by simp [blks])), q.keep h5 (m _ (by simp [blks])), hr⟩
theorem Ord.drewN {w : World} {o : Oid} {s : OS} (h : Ord w o s) (k : Nat) : Ord (w.drewN k) o s := h
theorem Ord.drew {w : World} {o : Oid} {s : OS} (h : Ord w o s) : Ord w.drew o s := h
/- Stores. -/
theorem heap_set {w : World} {g : Nat} {cs : Array Value} {t : TypeId} (h : w.heap[g]? = some (.cells cs t (0, 0))) (j : Nat) (u : Value) : (w.setCell ⟨g, j, none⟩ u).heap[g]? = some (.cells (cs.setIfInBounds j u) t (0, 0)) := by
  simp [World.setCell, Array.getElem?_modify, h]
theorem heap_set_ne {w : World} {g b : Nat} (h : b ≠ g) (j : Nat) (u : Value) : (w.setCell ⟨g, j, none⟩ u).heap[b]? = w.heap[b]? := Below.heap_setCell _ _ _ _ h
section
variable {w : World} {o : Oid} {s : OS}
theorem Ord.setAct (h : Ord w o s) (j x : Nat) : Ord (w.setCell ⟨o.ga, j, none⟩ (.float .f32 x)) o { s with A := s.A.set j x } := by
  obtain ⟨a1, a2, a3, a4, a5, a6, a7, a8, a9, a10⟩ := h.apart
  obtain ⟨h1, h2, h3, h4, h5, e1, e2, e3, e4, hr⟩ := h
  refine ⟨(heap_set_ne a1 _ _).trans h1, ?_, (heap_set_ne (Ne.symm a5) _ _).trans h3, (heap_set_ne (Ne.symm a6) _ _).trans h4, (heap_set_ne (Ne.symm a7) _ _).trans h5, by rw [List.length_set]; exact e1, e2, e3, e4, hr⟩
  unfold OwnF at *
  rw [heap_set h2, List.map_set]
  simp
theorem Ord.setPha (h : Ord w o s) (j : Nat) (x : Bool) : Ord (w.setCell ⟨o.gp, j, none⟩ (.bool x)) o { s with ph := s.ph.set j x } := by
  obtain ⟨a1, a2, a3, a4, a5, a6, a7, a8, a9, a10⟩ := h.apart
  obtain ⟨h1, h2, h3, h4, h5, e1, e2, e3, e4, hr⟩ := h
  refine ⟨(heap_set_ne a2 _ _).trans h1, (heap_set_ne a5 _ _).trans h2, ?_, (heap_set_ne (Ne.symm a8) _ _).trans h4, (heap_set_ne (Ne.symm a9) _ _).trans h5, e1, by rw [List.length_set]; exact e2, e3, e4, hr⟩
  unfold OwnB at *
  rw [heap_set h3, List.map_set]
  simp
theorem Ord.setHea (h : Ord w o s) (j x : Nat) : Ord (w.setCell ⟨o.gh, j, none⟩ (.int .i64 (x : Int))) o { s with Z := s.Z.set j x } := by
  obtain ⟨a1, a2, a3, a4, a5, a6, a7, a8, a9, a10⟩ := h.apart
  obtain ⟨h1, h2, h3, h4, h5, e1, e2, e3, e4, hr⟩ := h
  refine ⟨(heap_set_ne a3 _ _).trans h1, (heap_set_ne a6 _ _).trans h2, (heap_set_ne a8 _ _).trans h3, ?_, (heap_set_ne (Ne.symm a10) _ _).trans h5, e1, e2, by rw [List.length_set]; exact e3, e4, hr⟩
  unfold OwnZ at *
  rw [heap_set h4, List.map_set]
  simp
theorem Ord.setPla (h : Ord w o s) (j : Nat) (x : Int) : Ord (w.setCell ⟨o.gl, j, none⟩ (.int .i64 x)) o { s with pl := s.pl.set j x } := by
  obtain ⟨a1, a2, a3, a4, a5, a6, a7, a8, a9, a10⟩ := h.apart
  obtain ⟨h1, h2, h3, h4, h5, e1, e2, e3, e4, hr⟩ := h
  exact ⟨(heap_set_ne a4 _ _).trans h1, (heap_set_ne a7 _ _).trans h2, (heap_set_ne a9 _ _).trans h3, (heap_set_ne a10 _ _).trans h4, h5.set j x, e1, e2, e3, by rw [List.length_set]; exact e4, hr⟩
theorem Ord.setRise (h : Ord w o s) (x : Nat) : Ord (w.setCell ⟨o.P, 1, none⟩ (.float .f32 x)) o { s with r := x } := by
  obtain ⟨a1, a2, a3, a4, a5, a6, a7, a8, a9, a10⟩ := h.apart
  obtain ⟨h1, h2, h3, h4, h5, hr⟩ := h
  refine ⟨?_, (heap_set_ne (Ne.symm a1) _ _).trans h2, (heap_set_ne (Ne.symm a2) _ _).trans h3, (heap_set_ne (Ne.symm a3) _ _).trans h4, (heap_set_ne (Ne.symm a4) _ _).trans h5, hr⟩
  rw [heap_set h1]
  rfl
theorem Ord.setLen (h : Ord w o s) (m : Nat) (hm : m ≤ o.n) : Ord (w.setCell ⟨o.P, 3, none⟩ (.slice (some ⟨o.gh, 0, none⟩) m o.n)) o { s with hl := m } := by
  obtain ⟨a1, a2, a3, a4, a5, a6, a7, a8, a9, a10⟩ := h.apart
  obtain ⟨h1, h2, h3, h4, h5, e1, e2, e3, e4, e5, hr⟩ := h
  refine ⟨?_, (heap_set_ne (Ne.symm a1) _ _).trans h2, (heap_set_ne (Ne.symm a2) _ _).trans h3, (heap_set_ne (Ne.symm a3) _ _).trans h4, (heap_set_ne (Ne.symm a4) _ _).trans h5, e1, e2, e3, e4, hm, hr⟩
  rw [heap_set h1]
  rfl
end
abbrev optr (o : Oid) : Value := .pointer (some ⟨o.P, 0, none⟩)
end Go.Proofs.Ytigbclhkmjcjjaa
