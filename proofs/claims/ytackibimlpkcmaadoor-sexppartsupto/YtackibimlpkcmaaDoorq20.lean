/- Laid together of: ScanRows, ScanBehind. -/
import Derived.Test.YtackibimlpkcmaaDoorq19
import Derived.Laws.StructEq
/- ==== ScanRows ==== -/
namespace Go.Proofs.YtackibimlpkcmaaDoor
open Go.RowKit
set_option linter.unusedVariables false
def tk0 : S.Tok := ⟨0, 0, 0, []⟩
/-- The slice value v holds the tokens ts. -/
def TRow (w : World) (v : Value) (ts : List S.Tok) : Prop :=
  ∃ a cap, v = .slice a ts.length cap ∧ ts.length ≤ cap ∧ cap ≤ 9223372036854775807 ∧
    (ts ≠ [] → ∃ b off, a = some ⟨b, off, none⟩ ∧ ∀ j, j < ts.length →
      w.cell? ⟨b, off + j * 4, none⟩ = some (.int .i64 (ts.getD j tk0).kind) ∧
      w.cell? ⟨b, off + j * 4 + 1, none⟩ = some (.int .i64 (ts.getD j tk0).beg) ∧
      w.cell? ⟨b, off + j * 4 + 2, none⟩ = some (.int .i64 (ts.getD j tk0).fin) ∧
      w.cell? ⟨b, off + j * 4 + 3, none⟩ = some (.string ⟨(ts.getD j tk0).text.toArray⟩))
theorem TRow.below {w w' : World} {v : Value} {ts : List S.Tok} (h : TRow w v ts) (q : Below w.heap.size w w') : TRow w' v ts := by
  obtain ⟨a, cap, rfl, h1, h2, h4⟩ := h
  refine ⟨a, cap, rfl, h1, h2, fun hne => ?_⟩
  obtain ⟨g, off, rfl, hc⟩ := h4 hne
  refine ⟨g, off, rfl, fun j hj => ?_⟩
  obtain ⟨c0, c1, c2, c3⟩ := hc j hj
  have hg : g < w.heap.size := World.block_lt_of_cell? w _ c0
  exact ⟨(q.cell (p := ⟨g, _, none⟩) hg).trans c0, (q.cell (p := ⟨g, _, none⟩) hg).trans c1, (q.cell (p := ⟨g, _, none⟩) hg).trans c2, (q.cell (p := ⟨g, _, none⟩) hg).trans c3⟩
theorem tks_get : ∀ (ts : List S.Tok) (j : Nat), j < ts.length → (tksCells ts)[j * 4]? = some (.int .i64 (ts.getD j tk0).kind) ∧ (tksCells ts)[j * 4 + 1]? = some (.int .i64 (ts.getD j tk0).beg) ∧ (tksCells ts)[j * 4 + 2]? = some (.int .i64 (ts.getD j tk0).fin) ∧ (tksCells ts)[j * 4 + 3]? = some (.string ⟨(ts.getD j tk0).text.toArray⟩)
  | [], j, h => by simp at h
  | t :: r, 0, h => ⟨rfl, rfl, rfl, rfl⟩
  | t :: r, j + 1, h => by
    have h2 := tks_get r j (by simpa using h)
    have e : ∀ k, (tksCells (t :: r))[(j + 1) * 4 + k]? = (tksCells r)[j * 4 + k]? := by
      intro k
      rw [show (j + 1) * 4 + k = j * 4 + k + 4 from by omega]
      rfl
    have e0 := e 0
    rw [Nat.add_zero, Nat.add_zero] at e0
    rw [e0, e 1, e 2, e 3]
    exact h2
theorem ownsRow.trow {w : World} {B : Nat} {v : Value} {ts : List S.Tok} (h : w.ownsRow B 69 4 v ts.length (tksCells ts)) : TRow w v ts := by
  rcases h.2 with ⟨rfl, h0⟩ | ⟨b, cap, cur, rfl, hB, hb, h3, h4, h5, h6⟩
  · exact ⟨none, 0, by rw [h0], by omega, by decide, fun hne => absurd (List.length_eq_zero_iff.1 h0) hne⟩
  · refine ⟨some ⟨b, 0, none⟩, cap, rfl, h3, by unfold maxLen at h4; omega, fun _ => ⟨b, 0, rfl, fun j hj => ?_⟩⟩
    obtain ⟨g0, g1, g2, g3⟩ := tks_get ts j hj
    have hc := h.cells (g := b) rfl
    rw [Nat.zero_add]
    refine ⟨?_, ?_, ?_, ?_⟩
    · rw [← add_zero']; exact hc _ _ g0
    · rw [← add_zero']; exact hc _ _ g1
    · rw [← add_zero']; exact hc _ _ g2
    · rw [← add_zero']; exact hc _ _ g3
theorem TRow.at_ {w : World} {a : Option Addr} {n cap : Nat} {ts : List S.Tok} (h : TRow w (.slice a n cap) ts) {j : Nat} (hj : j < ts.length) :
    ∃ b off, a = some ⟨b, off, none⟩ ∧ w.cell? ⟨b, off + j * 4, none⟩ = some (.int .i64 (ts.getD j tk0).kind) ∧
      w.cell? ⟨b, off + j * 4 + 1, none⟩ = some (.int .i64 (ts.getD j tk0).beg) ∧
      w.cell? ⟨b, off + j * 4 + 2, none⟩ = some (.int .i64 (ts.getD j tk0).fin) ∧
      w.cell? ⟨b, off + j * 4 + 3, none⟩ = some (.string ⟨(ts.getD j tk0).text.toArray⟩) := by
  obtain ⟨a', cap', e, h1, h2, h4⟩ := h
  cases e
  obtain ⟨b, off, rfl, hc⟩ := h4 (by intro e; rw [e] at hj; simp at hj)
  exact ⟨b, off, rfl, hc j hj⟩
theorem TRow.shape {w : World} {v : Value} {ts : List S.Tok} (h : TRow w v ts) : ∃ a cap, v = .slice a ts.length cap ∧ ts.length ≤ cap ∧ cap ≤ 9223372036854775807 := by
  obtain ⟨a, cap, rfl, h1, h2, h4⟩ := h
  exact ⟨a, cap, rfl, h1, h2⟩
theorem live_run : S.run resv .idle [40, 97, 32, 49] 0 = ([⟨1, 0, 1, [40]⟩, ⟨3, 1, 2, [97]⟩, ⟨5, 3, 4, [49]⟩], 0, 0) := by rfl
theorem Cls.below {w w' : World} (h : Cls w) (b : Below w.heap.size w w') : Cls w' := by
  intro j hj
  rw [b.cell (p := ⟨_, j, none⟩) h.lt]
  exact h j hj
end Go.Proofs.YtackibimlpkcmaaDoor
/- ==== ScanBehind ==== -/
namespace Go.RowKit
theorem Below.then_below {w w1 w2 : World} (h : Below w.heap.size w w1) (q : Below w1.heap.size w1 w2) : Below w.heap.size w w2 := h.trans (q.mono h.size)
end Go.RowKit
namespace Go.Proofs.YtackibimlpkcmaaDoor
open Go.RowKit
set_option linter.unusedVariables false
theorem stands_bound : ∀ (ts : List S.Tok) (l : List UInt8) (i e p : Nat), S.Stands resv ts l i e p → (∀ t ∈ ts, t.beg ≤ i + l.length ∧ t.fin ≤ i + l.length) ∧ p ≤ i + l.length
  | [], l, i, e, p, h => by
    refine ⟨fun t ht => by simp at ht, ?_⟩
    rcases h with ⟨_, h, _⟩ | ⟨_, _, h⟩
    · omega
    · exact h
  | t :: ts, l, i, e, p, h => by
    obtain ⟨n, m, h1, h2, h3, h4, -, -, h5⟩ := h
    have := stands_bound ts _ _ e p h5
    rw [List.length_drop] at this
    refine ⟨?_, by omega⟩
    intro u hu
    rcases List.mem_cons.1 hu with rfl | hu
    · omega
    · have := this.1 u hu
      omega
theorem run_bound (l : List UInt8) : (∀ t ∈ (S.run resv .idle l 0).1, t.beg ≤ l.length ∧ t.fin ≤ l.length) ∧ (S.run resv .idle l 0).2.2 ≤ l.length := by
  have := stands_bound _ _ _ _ _ (S.run_stands resv l 0)
  simpa using this
theorem run_many (l : List UInt8) : (S.run resv .idle l 0).1.length ≤ 2 * l.length + 1 := by
  have hr := S.run_append resv [] l .idle 0
  rw [List.append_nil, Nat.zero_add] at hr
  have f1 := feed_few l .idle 0
  rcases hfd : (S.feed resv .idle l 0).2 with q' | ⟨e, p⟩
  · rw [hfd] at hr
    have e1 : (S.run resv .idle l 0).1 = (S.feed resv .idle l 0).1 ++ (S.stop resv q' l.length).1 := by rw [hr]; rfl
    have f2 := stop_few q' l.length
    rw [e1, List.length_append]
    omega
  · rw [hfd] at hr
    have e1 : (S.run resv .idle l 0).1 = (S.feed resv .idle l 0).1 := by rw [hr]
    rw [e1]
    omega
theorem below_drewN {n : Nat} {w w' : World} (h : Below n w w') (k : Nat) : Below n w (w'.drewN k) := ⟨h.os, h.tape, h.output, h.size, h.block⟩
theorem run_at_tok (b o len cap n : Nat) (i : Int) (hn : i = n) (h1 : n < len) (w : World) : (Instr.indexAt 26 (.slice (some ⟨b, o, none⟩) len cap) (.int .i64 i)).run Tryd.prog w = .ok (.pointer (some ⟨b, o + n * 4, none⟩)) w := by
  have he : Tryd.prog.elem 26 = 69 := by kernel_rfl
  subst hn
  rw [run_indexAt_slice (h := by rw [he]; exact sliceTok), if_pos ⟨by omega, by omega⟩]
  simp [he, Addr.add]
theorem getD_mem {ts : List S.Tok} {j : Nat} (h : j < ts.length) : ts.getD j tk0 ∈ ts := by
  rw [List.getD_eq_getElem?_getD, List.getElem?_eq_getElem h]
  exact List.getElem_mem h
theorem getD_left (a b : List S.Tok) {j : Nat} (h : j < a.length) : (a ++ b).getD j tk0 = a.getD j tk0 := by
  rw [List.getD_eq_getElem?_getD, List.getD_eq_getElem?_getD, List.getElem?_append_left h]
theorem getD_right (a b : List S.Tok) {j : Nat} (h : j < b.length) : (a ++ b).getD (a.length + j) tk0 = b.getD j tk0 := by
  rw [List.getD_eq_getElem?_getD, List.getD_eq_getElem?_getD, List.getElem?_append_right (by omega)]
  congr 2
  omega
theorem getD_sh (n : Nat) (a : List S.Tok) {j : Nat} (h : j < a.length) : (a.map (S.shT n)).getD j tk0 = S.shT n (a.getD j tk0) := by
  rw [List.getD_eq_getElem?_getD, List.getD_eq_getElem?_getD, List.getElem?_map, List.getElem?_eq_getElem h]
  rfl
end Go.Proofs.YtackibimlpkcmaaDoor
