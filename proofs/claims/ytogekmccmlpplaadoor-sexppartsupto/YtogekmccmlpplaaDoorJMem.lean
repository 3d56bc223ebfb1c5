/-
  Lists of tokens in memory of one's own.
-/
import Derived.Test.YtogekmccmlpplaaDoorJoin3
namespace Go.Proofs.YtogekmccmlpplaaDoor
open Go.RowKit
set_option linter.unusedVariables false
def jCell (t : J) : List Value := [.int .i64 t.kind, .int .i64 t.beg, .int .i64 t.fin, .string ⟨t.text.toArray⟩]
def jCells : List J → List Value
  | [] => []
  | t :: r => jCell t ++ jCells r
theorem jCells_length (ts : List J) : (jCells ts).length = ts.length * 4 := by
  induction ts with
  | nil => rfl
  | cons t r ih => simp [jCells, jCell, ih]; omega
theorem jCells_one (ts : List J) : ∀ u ∈ jCells ts, u.oneCell' = true := by
  induction ts with
  | nil => intro u hu; simp [jCells] at hu
  | cons t r ih =>
    intro u hu
    rcases List.mem_append.1 hu with hu | hu
    · simp [jCell] at hu
      rcases hu with rfl | rfl | rfl | rfl <;> rfl
    · exact ih u hu
theorem jc_at : ∀ (ts : List J) (more : List Value) (k : Nat), k < ts.length → (jCells ts ++ more)[k * 4]? = some (.int .i64 (ts.getD k j0).kind) ∧ (jCells ts ++ more)[k * 4 + 1]? = some (.int .i64 (ts.getD k j0).beg) ∧ (jCells ts ++ more)[k * 4 + 2]? = some (.int .i64 (ts.getD k j0).fin) ∧ (jCells ts ++ more)[k * 4 + 3]? = some (.string ⟨(ts.getD k j0).text.toArray⟩)
  | [], _, _, h => absurd h (Nat.not_lt_zero _)
  | t :: r, more, 0, _ => ⟨rfl, rfl, rfl, rfl⟩
  | t :: r, more, k + 1, h => by
    have ih := jc_at r more k (by simpa using h)
    have e : ∀ i, (jCells (t :: r) ++ more)[(k + 1) * 4 + i]? = (jCells r ++ more)[k * 4 + i]? := by
      intro i
      rw [show (k + 1) * 4 + i = k * 4 + i + 1 + 1 + 1 + 1 from by omega]
      rfl
    have e0 := e 0
    rw [Nat.add_zero, Nat.add_zero] at e0
    rw [e0, e 1, e 2, e 3]
    exact ih
theorem add_plain (b off j : Nat) : (⟨b, off, none⟩ : Addr).add j = ⟨b, off + j, none⟩ := by
  unfold Addr.add
  split <;> simp_all
/-- The cells of the list that came in. -/
theorem JRow.news {w : World} {ad : Addr} {n cap : Nat} {ts : List J} (h : JRow w (.slice (some ad) n cap) ts) : ∀ (j : Nat) u, (jCells ts)[j]? = some u → w.cell? (ad.add j) = some u := by
  intro j u hj
  have hjl : j < ts.length * 4 := by
    rw [← jCells_length]
    exact (List.getElem?_eq_some_iff.1 hj).1
  obtain ⟨b, off, e, c0, c1, c2, c3⟩ := h.at_ (j := j / 4) (by omega)
  cases e
  obtain ⟨d0, d1, d2, d3⟩ := jc_at ts [] (j / 4) (by omega)
  rw [List.append_nil] at d0 d1 d2 d3
  rw [add_plain]
  rcases (by omega : j = j / 4 * 4 ∨ j = j / 4 * 4 + 1 ∨ j = j / 4 * 4 + 2 ∨ j = j / 4 * 4 + 3) with e | e | e | e
  · rw [e] at hj ⊢
    rw [d0] at hj
    rw [← hj]
    exact c0
  · rw [e] at hj ⊢
    rw [d1] at hj
    rw [← hj]
    exact c1
  · rw [e] at hj ⊢
    rw [d2] at hj
    rw [← hj]
    exact c2
  · rw [e] at hj ⊢
    rw [d3] at hj
    rw [← hj]
    exact c3
theorem ownsRow.jrow {w : World} {B g n cap : Nat} {ts : List J} {more : List Value} (h : w.ownsRow B 69 4 (.slice (some ⟨g, 0, none⟩) n cap) n (jCells ts ++ more)) (hn : ts.length ≤ n) : JRow w (.slice (some ⟨g, 0, none⟩) ts.length cap) ts := by
  have hc := (ownsRow_zero h).cells (g := g) rfl
  obtain ⟨hb1, hb2⟩ : n ≤ cap ∧ cap ≤ maxLen := by
    rcases h.2 with ⟨e, _⟩ | ⟨b, cap', cur, e, _, _, h3, h4, _⟩
    · cases e
    · cases e
      exact ⟨h3, h4⟩
  refine ⟨some ⟨g, 0, none⟩, cap, rfl, by omega, by unfold maxLen at hb2; omega, fun _ => ⟨g, 0, rfl, fun j hj => ?_⟩⟩
  obtain ⟨d0, d1, d2, d3⟩ := jc_at ts more j hj
  have f0 := hc _ _ d0
  have f1 := hc _ _ d1
  have f2 := hc _ _ d2
  have f3 := hc _ _ d3
  rw [add_plain] at f0 f1 f2 f3
  rw [Nat.zero_add] at *
  exact ⟨f0, f1, f2, f3⟩
theorem new_cells (w : World) (arr : Array Value) (t : TypeId) : ∀ (j : Nat) u, arr.toList[j]? = some u → (w.alloc (.cells arr t)).cell? ((⟨w.heap.size, 0, none⟩ : Addr).add j) = some u := by
  intro j u h
  rw [add_plain, Nat.zero_add, cell_of_row _ _ j _ _ (0, 0) (heap_alloc_new w (.cells arr t))]
  rwa [Array.getElem?_toList] at h
theorem sl_tok (g N cap n : Nat) (h : n ≤ cap) (W : World) : (Instr.sliceAt 26 (.slice (some ⟨g, 0, none⟩) N cap) none (some (.int .i64 n)) none).run Tryd.prog W = .ok (.slice (some ⟨g, 0, none⟩) n cap) W := by
  have he : Tryd.prog.elem 26 = 69 := by kernel_rfl
  have hu : Tryd.prog.underlying 26 = some (.slice (Tryd.prog.elem 26)) := by rw [he]; exact sliceTok
  have h1 : (0 : Int) ≤ n := by omega
  have h2 : (n : Int) ≤ cap := by omega
  rw [run_sliceAt_slice (h := hu), run_slice_h (ht := hu) (h0 := h1) (h2 := h2), he]
  clear hu he
  go_simp
theorem JRow.drewN {w : World} {v : Value} {ts : List J} (h : JRow w v ts) (n : Nat) : JRow (w.drewN n) v ts := h
end Go.Proofs.YtogekmccmlpplaaDoor
