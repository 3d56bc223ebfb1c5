/-
  Nodes and the stack of open lists in memory.
-/
import Derived.Test.YtjbalgjdcdmjjaaDoorScanBehind
import Derived.Test.YtjbalgjdcdmjjaaDoorSexpMath
namespace Go.Proofs.YtjbalgjdcdmjjaaDoor
open Go.RowKit
set_option linter.unusedVariables false
theorem infoNode : (Tryd.prog.info? 47).map (fun i => (i.zero, i.size, i.bytes)) = some (some (.agg #[.int .i64 0, .int .i64 0, .int .i64 0, .int .i64 0, .string ⟨#[]⟩]), 5, 48) := by kernel_rfl
theorem sliceNode : Tryd.prog.underlying 43 = some (.slice 47) := by kernel_rfl
theorem infoInt : (Tryd.prog.info? 3).map (fun i => (i.zero, i.size, i.bytes)) = some (some (.int .i64 0), 1, 8) := by kernel_rfl
theorem sliceInt : Tryd.prog.underlying 53 = some (.slice 3) := by kernel_rfl
def nCells (x : X.N) : List Value := [.int .i64 x.kind, .int .i64 x.beg, .int .i64 x.fin, .int .i64 x.size, .string ⟨x.text.toArray⟩]
def nsCells : List X.N → List Value
  | [] => []
  | x :: r => nCells x ++ nsCells r
theorem nsCells_append (a b : List X.N) : nsCells (a ++ b) = nsCells a ++ nsCells b := by
  induction a with
  | nil => rfl
  | cons t r ih => simp [nsCells, ih]
theorem nsCells_length (a : List X.N) : (nsCells a).length = a.length * 5 := by
  induction a with
  | nil => rfl
  | cons t r ih => simp [nsCells, nCells, ih]; omega
theorem nsCells_at : ∀ (ns : List X.N) (j f : Nat), j < ns.length → f < 5 → (nsCells ns)[j * 5 + f]? = (nCells (ns.getD j X.n0))[f]?
  | [], j, f, h, _ => by simp at h
  | t :: r, 0, f, h, hf => by
    rw [Nat.zero_mul, Nat.zero_add]
    show (nCells t ++ nsCells r)[f]? = (nCells t)[f]?
    rw [List.getElem?_append_left (by simpa [nCells] using hf)]
  | t :: r, j + 1, f, h, hf => by
    have := nsCells_at r j f (by simpa using h) hf
    show (nCells t ++ nsCells r)[(j + 1) * 5 + f]? = _
    rw [List.getElem?_append_right (by simp [nCells]; omega)]
    rw [show (j + 1) * 5 + f - (nCells t).length = j * 5 + f from by simp [nCells]; omega, this]
    rfl
theorem nsCells_set : ∀ (ns : List X.N) (j a b : Nat), j < ns.length → nsCells (ns.set j ⟨(ns.getD j X.n0).kind, (ns.getD j X.n0).beg, a, b, (ns.getD j X.n0).text⟩) = ((nsCells ns).set (j * 5 + 3) (.int .i64 b)).set (j * 5 + 2) (.int .i64 a)
  | [], j, a, b, h => by simp at h
  | t :: r, 0, a, b, h => rfl
  | t :: r, j + 1, a, b, h => by
    have ih := nsCells_set r j a b (by simpa using h)
    show nCells t ++ nsCells (r.set j _) = ((nCells t ++ nsCells r).set ((j + 1) * 5 + 3) (.int .i64 b)).set ((j + 1) * 5 + 2) (.int .i64 a)
    have e1 : (nCells t).length = 5 := rfl
    rw [List.set_append_right _ _ (by omega), List.set_append_right _ _ (by omega), e1, show (j + 1) * 5 + 3 - 5 = j * 5 + 3 from by omega, show (j + 1) * 5 + 2 - 5 = j * 5 + 2 from by omega, ← ih]
    rfl
def OwnN (B : Nat) (w : World) (v : Value) (ns : List X.N) : Prop := w.ownsRow B 47 5 v ns.length (nsCells ns)
def OwnK (B : Nat) (w : World) (v : Value) (st : List Nat) : Prop := w.ownsRow B 3 1 v st.length (st.reverse.map fun n : Nat => .int .i64 (n : Int))
theorem OwnN.snoc {B : Nat} {w : World} {v : Value} {ns : List X.N} {x : X.N} {L : Nat} (hL : ns.length = L) (h : w.ownsRow B 47 5 v (L + 1) (nsCells ns ++ nCells x)) : OwnN B w v (ns ++ [x]) := by
  unfold OwnN
  rw [List.length_append, List.length_singleton, hL, nsCells_append]
  simpa [nsCells] using h
theorem OwnK.push {B : Nat} {w : World} {v : Value} {st : List Nat} {x : Nat} {L : Nat} (hL : st.length = L) (h : w.ownsRow B 3 1 v (L + 1) ((st.reverse.map fun n : Nat => .int .i64 (n : Int)) ++ [.int .i64 (x : Int)])) : OwnK B w v (x :: st) := by
  unfold OwnK
  rw [List.length_cons, hL]
  simpa using h
/-- The two rows lie in blocks of different kinds. -/
theorem own_apart {B B' : Nat} {w : World} {v u : Value} {ns : List X.N} {st : List Nat} (h : OwnN B w v ns) (k : OwnK B' w u st) : v.ownBlock = none ∨ v.ownBlock ≠ u.ownBlock := by
  rcases h.2 with ⟨rfl, _⟩ | ⟨g, cap, cur, rfl, _, hb, _⟩
  · exact .inl rfl
  · right
    rcases k.2 with ⟨rfl, _⟩ | ⟨g', cap', cur', rfl, _, hb', _⟩
    · simp [Value.ownBlock]
    · intro e
      simp [Value.ownBlock] at e
      subst e
      have := hb.symm.trans hb'
      simp at this
theorem OwnK.top {B : Nat} {w : World} {v : Value} {a : Nat} {st : List Nat} (h : OwnK B w v (a :: st)) :
    ∃ g cap, v = .slice (some ⟨g, 0, none⟩) (st.length + 1) cap ∧ st.length + 1 ≤ cap ∧ cap ≤ 9223372036854775807 ∧ B ≤ g ∧ g < w.heap.size ∧
      w.cell? ⟨g, st.length, none⟩ = some (.int .i64 (a : Int)) ∧ OwnK B w (.slice (some ⟨g, 0, none⟩) st.length cap) st ∧ w.cell? ⟨g, 0, none⟩ = some (.int .i64 ((a :: st).getLastD 0 : Nat)) := by
  have h' := h
  obtain ⟨h1, h2⟩ := h
  rcases h2 with ⟨_, h0⟩ | ⟨g, cap, cur, rfl, hB, hb, hn, hm, hs, ht⟩
  · simp at h0
  · rw [Nat.mul_one] at ht
    have hc := h'.cells (g := g) rfl
    refine ⟨g, cap, rfl, by simpa using hn, by unfold maxLen at hm; omega, hB, (Array.getElem?_eq_some_iff.1 hb).1, ?_, ?_, ?_⟩
    · have := hc st.length (.int .i64 (a : Int)) (by simp)
      rwa [add_zero'] at this
    · refine ⟨by simp, .inr ⟨g, cap, cur, rfl, hB, hb, by simp at hn; omega, hm, hs, ?_⟩⟩
      have e2 : cur.toList.take (st.length + 1) = (st.reverse.map fun n : Nat => Value.int .i64 (n : Int)) ++ [.int .i64 (a : Int)] := by simpa using ht
      have := congrArg (List.take st.length) e2
      rw [List.take_take, Nat.min_eq_left (by omega), List.take_append_of_le_length (by simp)] at this
      rw [Nat.mul_one]
      exact this.trans (List.take_of_length_le (by simp))
    · have e3 : ((a :: st).reverse.map fun n : Nat => Value.int .i64 (n : Int))[0]? = some (.int .i64 ((a :: st).getLastD 0 : Nat)) := by
        rw [List.getElem?_map, List.getElem?_reverse (by simp)]
        simp [List.getLastD_eq_getLast?, List.getLast?_eq_getElem?]
      have := hc 0 _ e3
      rwa [add_zero'] at this
theorem OwnN.at_ {B : Nat} {w : World} {v : Value} {ns : List X.N} (h : OwnN B w v ns) {j : Nat} (hj : j < ns.length) :
    ∃ g cap, v = .slice (some ⟨g, 0, none⟩) ns.length cap ∧ ns.length ≤ cap ∧ cap ≤ 9223372036854775807 ∧ B ≤ g ∧ g < w.heap.size ∧ (∀ k, w.frozen? ⟨g, k, none⟩ = false) ∧
      w.cell? ⟨g, j * 5, none⟩ = some (.int .i64 ((ns.getD j X.n0).kind : Int)) ∧ w.cell? ⟨g, j * 5 + 1, none⟩ = some (.int .i64 ((ns.getD j X.n0).beg : Int)) ∧ w.cell? ⟨g, j * 5 + 2, none⟩ = some (.int .i64 ((ns.getD j X.n0).fin : Int)) ∧
      w.cell? ⟨g, j * 5 + 3, none⟩ = some (.int .i64 ((ns.getD j X.n0).size : Int)) ∧ w.cell? ⟨g, j * 5 + 4, none⟩ = some (.string ⟨(ns.getD j X.n0).text.toArray⟩) ∧
      (∀ a b : Nat, OwnN B ((w.setCell ⟨g, j * 5 + 3, none⟩ (.int .i64 (b : Int))).setCell ⟨g, j * 5 + 2, none⟩ (.int .i64 (a : Int))) v (ns.set j ⟨(ns.getD j X.n0).kind, (ns.getD j X.n0).beg, a, b, (ns.getD j X.n0).text⟩)) := by
  have h' := h
  obtain ⟨h1, h2⟩ := h
  rcases h2 with ⟨_, h0⟩ | ⟨g, cap, cur, rfl, hB, hb, hn, hm, hs, ht⟩
  · omega
  · have hc := h'.cells (g := g) rfl
    have cc : ∀ f u, f < 5 → (nCells (ns.getD j X.n0))[f]? = some u → w.cell? ⟨g, j * 5 + f, none⟩ = some u := by
      intro f u hf hu
      have := hc (j * 5 + f) u ((nsCells_at ns j f hj hf).trans hu)
      rwa [add_zero'] at this
    refine ⟨g, cap, rfl, hn, by unfold maxLen at hm; omega, hB, (Array.getElem?_eq_some_iff.1 hb).1, fun k => frozen_of_row w g k cur _ hb, cc 0 _ (by decide) rfl, cc 1 _ (by decide) rfl, cc 2 _ (by decide) rfl, cc 3 _ (by decide) rfl, cc 4 _ (by decide) rfl, ?_⟩
    intro a b
    have b1 := heap_setCell_same w g (j * 5 + 3) cur _ (.int .i64 (b : Int)) hb
    have b2 := heap_setCell_same _ g (j * 5 + 2) _ _ (.int .i64 (a : Int)) b1
    refine ⟨nsCells_length _, .inr ⟨g, cap, _, by simp, hB, b2, by simpa using hn, hm, by simpa using hs, ?_⟩⟩
    rw [nsCells_set ns j a b hj, ← ht]
    simp only [Array.toList_setIfInBounds, List.length_set]
    rw [List.take_set, List.take_set]
end Go.Proofs.YtjbalgjdcdmjjaaDoor
