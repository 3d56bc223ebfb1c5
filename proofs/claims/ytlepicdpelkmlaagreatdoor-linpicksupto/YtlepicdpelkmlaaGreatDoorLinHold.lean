/-
  What LinPicks hands over: pairs are copied, with two marks behind them.
-/
import Derived.Test.YtlepicdpelkmlaaGreatDoorLinIn
import Derived.Maps.AppendAt
import Derived.Deep.AppendLies
import Derived.Deep.Cut
namespace Go.Proofs.YtlepicdpelkmlaaGreatDoor
open Go.RowKit Go.Deep
set_option linter.unusedVariables false
/-- The cells of a pair. -/
def Pq.cs (p : Pq) : List Value := [.string p.la, .string p.lb, .string p.ha, .string p.hb]
/-- The cells of two pairs that are marks. -/
def marks : List Value := [.string ⟨#[57, 48, 57]⟩, .string ⟨#[]⟩, .string ⟨#[]⟩, .string ⟨#[]⟩, .string ⟨#[57, 49, 48]⟩, .string ⟨#[]⟩, .string ⟨#[]⟩, .string ⟨#[]⟩]
def cutQ (v : Value) (n : Nat) : Value := match v with
  | .slice a _ c => .slice a n c
  | x => x
/-- The slice v holds the pairs ps, and two marks behind them. -/
def DP (w : World) (v : Value) (ps : List Pq) : Prop :=
  ∃ g cap cur, v = .slice (some ⟨g, 0, none⟩) (ps.length + 2) cap ∧ ps.length + 2 ≤ cap ∧ cap ≤ 9223372036854775807 ∧ w.heap[g]? = some (.cells cur 43 (0, 0)) ∧ ∀ i u, ((ps.map Pq.cs).flatten ++ marks)[i]? = some u → w.cell? ⟨g, i, none⟩ = some u
theorem flat4 : ∀ (ps : List Pq), ((ps.map Pq.cs).flatten).length = ps.length * 4
  | [] => by simp
  | p :: ps => by
    rw [List.map_cons, List.flatten_cons, List.length_append, flat4 ps, List.length_cons, Nat.succ_mul, Nat.add_comm]
    rfl
theorem flat4_at : ∀ (ps : List Pq) (j : Nat) (f : Nat), j < ps.length → f < 4 → ((ps.map Pq.cs).flatten)[j * 4 + f]? = (ps.getD j Pq.z).cs[f]?
  | [], j, f, h, hf => absurd h (Nat.not_lt_zero _)
  | p :: ps, 0, f, h, hf => by
    rw [List.map_cons, List.flatten_cons, Nat.zero_mul, Nat.zero_add, List.getElem?_append_left (by show f < 4; exact hf)]
    rfl
  | p :: ps, j + 1, f, h, hf => by
    have := flat4_at ps j f (by simpa using h) hf
    rw [List.map_cons, List.flatten_cons, List.getElem?_append_right (by show 4 ≤ _; omega)]
    show (ps.map Pq.cs).flatten[(j + 1) * 4 + f - 4]? = _
    rw [show (j + 1) * 4 + f - 4 = j * 4 + f by omega, this]
    rfl
theorem flat4_take (ps : List Pq) (k : Nat) (h : k < ps.length) : ((ps.take (k + 1)).map Pq.cs).flatten = ((ps.take k).map Pq.cs).flatten ++ (ps.getD k Pq.z).cs := by
  rw [List.take_add_one, List.getElem?_eq_getElem h, List.map_append, List.flatten_append, List.getD_eq_getElem?_getD, List.getElem?_eq_getElem h]
  simp
theorem DP.kept {w w' : World} {v : Value} {ps : List Pq} {r : Option Nat} (h : DP w v ps) (q : w.grownBy w' r) (hr : v.ownBlock ≠ r) : DP w' v ps := by
  obtain ⟨g, cap, cur, rfl, h1, h2, h3, h4⟩ := h
  have hb := q.block g ((Array.getElem?_eq_some_iff.1 h3).1) hr
  exact ⟨g, cap, cur, rfl, h1, h2, hb.trans h3, fun i u hu => (World.cell?_of_block (a := ⟨g, i, none⟩) hb).trans (h4 i u hu)⟩
theorem DP.below {w w' : World} {v : Value} {ps : List Pq} (h : DP w v ps) (q : Below w.heap.size w w') : DP w' v ps := by
  obtain ⟨g, cap, cur, rfl, h1, h2, h3, h4⟩ := h
  have hb := q.block g ((Array.getElem?_eq_some_iff.1 h3).1)
  exact ⟨g, cap, cur, rfl, h1, h2, hb.trans h3, fun i u hu => (World.cell?_of_block (a := ⟨g, i, none⟩) hb).trans (h4 i u hu)⟩
theorem DP.of_row {w : World} {base : Nat} {v : Value} {ps : List Pq} (h : w.ownsRow base 43 4 v (ps.length + 2) ((ps.map Pq.cs).flatten ++ marks)) : DP w v ps ∧ ∃ g c, v = .slice (some ⟨g, 0, none⟩) (ps.length + 2) c ∧ base ≤ g ∧ g < w.heap.size := by
  rcases h.2 with ⟨-, q⟩ | ⟨g, cap, cur, rfl, hB, hg, hn, hm, hs, ht⟩
  · omega
  · refine ⟨⟨g, cap, cur, rfl, hn, by unfold maxLen at hm; omega, hg, fun i u hu => ?_⟩, g, cap, rfl, hB, (Array.getElem?_eq_some_iff.1 hg).1⟩
    have := h.cells (g := g) rfl i u hu
    rw [Addr.add_lit, Nat.zero_add] at this
    exact this
/-- Of the copy what was copied. -/
theorem DP.row {w : World} {v : Value} {ps : List Pq} (h : DP w v ps) : QRow w (cutQ v ps.length) ps := by
  obtain ⟨g, cap, cur, rfl, h1, h2, h3, h4⟩ := h
  refine ⟨some ⟨g, 0, none⟩, cap, rfl, by omega, h2, fun _ => ⟨g, 0, rfl, fun j hj => ?_⟩⟩
  have at_ : ∀ f u, f < 4 → (ps.getD j Pq.z).cs[f]? = some u → w.cell? ⟨g, 0 + j * 4 + f, none⟩ = some u := fun f u hf hu => by
    rw [Nat.zero_add]
    refine h4 _ _ ?_
    rw [List.getElem?_append_left (by rw [flat4]; omega), flat4_at ps j f hj hf]
    exact hu
  exact ⟨at_ 0 _ (by decide) rfl, at_ 1 _ (by decide) rfl, at_ 2 _ (by decide) rfl, at_ 3 _ (by decide) rfl⟩
theorem DP.marks {w : World} {g cap : Nat} {ps : List Pq} (h : DP w (.slice (some ⟨g, 0, none⟩) (ps.length + 2) cap) ps) : ∀ f u, Go.Proofs.YtlepicdpelkmlaaGreatDoor.marks[f]? = some u → w.cell? ⟨g, ps.length * 4 + f, none⟩ = some u := by
  obtain ⟨g', cap', cur, e, h1, h2, h3, h4⟩ := h
  cases e
  intro f u hu
  refine h4 _ _ ?_
  rw [List.getElem?_append_right (by rw [flat4]; omega), flat4, show ps.length * 4 + f - ps.length * 4 = f by omega]
  exact hu
/-- The Hold at hb: it notes the copy m of what v holds, and nothing else. -/
def PH (w : World) (hb : Nat) (m v : Value) : Prop :=
  ∃ g1 k1 g2 k2, w.heap[hb]? = some (.cells #[.slice none 0 0, .slice none 0 0, .slice none 0 0, .slice none 0 0, .slice none 0 0, .slice none 0 0, .slice none 0 0, .slice none 0 0, .slice (some ⟨g1, 0, none⟩) 1 k1, .slice (some ⟨g2, 0, none⟩) 1 k2] 30 (0, 0)) ∧ w.cell? ⟨g1, 0, none⟩ = some m ∧ w.cell? ⟨g2, 0, none⟩ = some v
theorem PH.below {w w' : World} {hb : Nat} {m v : Value} (h : PH w hb m v) (q : Below w.heap.size w w') : PH w' hb m v := by
  obtain ⟨g1, k1, g2, k2, h1, h2, h3⟩ := h
  exact ⟨g1, k1, g2, k2, (q.block hb ((Array.getElem?_eq_some_iff.1 h1).1)).trans h1, (q.cell (p := ⟨g1, 0, none⟩) (World.block_lt_of_cell? w _ h2)).trans h2, (q.cell (p := ⟨g2, 0, none⟩) (World.block_lt_of_cell? w _ h3)).trans h3⟩
theorem hInfoPair : (Tryz.prog.info? 43).map (fun i => (i.zero, i.size, i.bytes)) = some (some (.agg #[.string ⟨#[]⟩, .string ⟨#[]⟩, .string ⟨#[]⟩, .string ⟨#[]⟩]), 4, 64) := by kernel_rfl
theorem hSlicePair : Tryz.prog.underlying 22 = some (.slice 43) := by kernel_rfl
theorem hInfoPairs : (Tryz.prog.info? 22).map (fun i => (i.zero, i.size, i.bytes)) = some (some (.slice none 0 0), 1, 24) := by kernel_rfl
theorem hSlicePairs : Tryz.prog.underlying 28 = some (.slice 22) := by kernel_rfl
theorem cells_newP (w : World) (xs : List Value) (t : TypeId) : ∀ j u, xs[j]? = some u → (w.alloc (.cells xs.toArray t)).cell? ((⟨w.heap.size, 0, none⟩ : Addr).add j) = some u := by
  intro j u hj
  have hb := heap_alloc_new w (.cells xs.toArray t)
  rw [Addr.add_lit, Nat.zero_add, cell_of_row _ _ _ _ _ _ hb]
  rw [List.getElem?_toArray]
  exact hj
theorem one_row {w : World} {base : Nat} {e : TypeId} {v x : Value} (h : w.ownsRow base e 1 v (0 + 1) ([] ++ [x])) : ∃ g k, v = .slice (some ⟨g, 0, none⟩) 1 k ∧ base ≤ g ∧ g < w.heap.size ∧ w.cell? ⟨g, 0, none⟩ = some x := by
  rcases h.2 with ⟨-, q⟩ | ⟨g, cap, cur, rfl, hB, hg, hn, hm, hs, ht⟩
  · omega
  · refine ⟨g, cap, rfl, hB, (Array.getElem?_eq_some_iff.1 hg).1, ?_⟩
    have := h.cells (g := g) rfl 0 x rfl
    rw [Addr.add_lit, Nat.zero_add] at this
    exact this
theorem hold_cell {w : World} {hb : Nat} {cur : Array Value} {t : TypeId} (h : w.heap[hb]? = some (.cells cur t (0, 0))) (i : Nat) (u : Value) (hu : cur[i]? = some u) : w.cell? ⟨hb, i, none⟩ = some u ∧ w.frozen? ⟨hb, i, none⟩ = false := by
  refine ⟨?_, ?_⟩
  · rw [cell_of_row _ _ _ _ _ _ h]
    exact hu
  · unfold World.frozen?
    simp [h]
theorem set_own (w : World) (g i : Nat) (v : Value) : w.grownBy (w.setCell ⟨g, i, none⟩ v) (some g) :=
  ⟨rfl, rfl, rfl, by simp [World.setCell], fun k _ hk => heap_setCell_other w ⟨g, i, none⟩ k v (fun c => hk (by rw [c]))⟩
end Go.Proofs.YtlepicdpelkmlaaGreatDoor
