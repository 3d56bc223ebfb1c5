/-
  Lists of tokens as the laws read them; the laws' first question.
-/
import Derived.Test.YtjbalgjdcdmjjaaDoorScanToks
import Derived.Laws.StructEq
namespace Go.Proofs.YtjbalgjdcdmjjaaDoor
open Go.RowKit
set_option linter.unusedVariables false
def tk0 : S.Tok := ⟨0, 0, 0, []⟩
/-- The slice value v holds the tokens ts. -/
def TRow (w : World) (v : Value) (ts : List S.Tok) : Prop :=
  ∃ a cap, v = .slice a ts.length cap ∧ ts.length ≤ cap ∧ cap ≤ 9223372036854775807 ∧
    (ts ≠ [] → ∃ b off, a = some ⟨b, off, none⟩ ∧ ∀ j, j < ts.length →
      w.cell? ⟨b, off + j * 4, none⟩ = some (.int .i64 (ts.getD j tk0).kind) ∧
      w.cell? ⟨b, off + j * 4 + 1, none⟩ = some (.int .i64 (ts.getD j tk0).beg) ∧
      w.cell? ⟨b, off + j * 4 + 2, none⟩ = some (.int .i64 (ts.getD j tk0).fin) ∧
      w.cell? ⟨b, off + j * 4 + 3, none⟩ = some (.string ⟨(ts.getD j tk0).text.toArray⟩))
theorem TRow.below {w w' : World} {v : Value} {ts : List S.Tok} (h : TRow w v ts) (q : Below w.heap.size w w') : TRow w' v ts := by
  obtain ⟨a, cap, rfl, h1, h2, h4⟩ := h
  refine ⟨a, cap, rfl, h1, h2, fun hne => ?_⟩
  obtain ⟨g, off, rfl, hc⟩ := h4 hne
  refine ⟨g, off, rfl, fun j hj => ?_⟩
  obtain ⟨c0, c1, c2, c3⟩ := hc j hj
  have hg : g < w.heap.size := World.block_lt_of_cell? w _ c0
  exact ⟨(q.cell (p := ⟨g, _, none⟩) hg).trans c0, (q.cell (p := ⟨g, _, none⟩) hg).trans c1, (q.cell (p := ⟨g, _, none⟩) hg).trans c2, (q.cell (p := ⟨g, _, none⟩) hg).trans c3⟩
theorem tks_get : ∀ (ts : List S.Tok) (j : Nat), j < ts.length → (tksCells ts)[j * 4]? = some (.int .i64 (ts.getD j tk0).kind) ∧ (tksCells ts)[j * 4 + 1]? = some (.int .i64 (ts.getD j tk0).beg) ∧ (tksCells ts)[j * 4 + 2]? = some (.int .i64 (ts.getD j tk0).fin) ∧ (tksCells ts)[j * 4 + 3]? = some (.string ⟨(ts.getD j tk0).text.toArray⟩)
  | [], j, h => by simp at h
  | t :: r, 0, h => ⟨rfl, rfl, rfl, rfl⟩
  | t :: r, j + 1, h => by
    have h2 := tks_get r j (by simpa using h)
    have e : ∀ k, (tksCells (t :: r))[(j + 1) * 4 + k]? = (tksCells r)[j * 4 + k]? := by
      intro k
      rw [show (j + 1) * 4 + k = j * 4 + k + 4 from by omega]
      rfl
    have e0 := e 0
    rw [Nat.add_zero, Nat.add_zero] at e0
    rw [e0, e 1, e 2, e 3]
    exact h2
theorem ownsRow.trow {w : World} {B : Nat} {v : Value} {ts : List S.Tok} (h : w.ownsRow B 66 4 v ts.length (tksCells ts)) : TRow w v ts := by
  rcases h.2 with ⟨rfl, h0⟩ | ⟨b, cap, cur, rfl, hB, hb, h3, h4, h5, h6⟩
  · exact ⟨none, 0, by rw [h0], by omega, by decide, fun hne => absurd (List.length_eq_zero_iff.1 h0) hne⟩
  · refine ⟨some ⟨b, 0, none⟩, cap, rfl, h3, by unfold maxLen at h4; omega, fun _ => ⟨b, 0, rfl, fun j hj => ?_⟩⟩
    obtain ⟨g0, g1, g2, g3⟩ := tks_get ts j hj
    have hc := h.cells (g := b) rfl
    rw [Nat.zero_add]
    refine ⟨?_, ?_, ?_, ?_⟩
    · rw [← add_zero']; exact hc _ _ g0
    · rw [← add_zero']; exact hc _ _ g1
    · rw [← add_zero']; exact hc _ _ g2
    · rw [← add_zero']; exact hc _ _ g3
theorem TRow.at_ {w : World} {a : Option Addr} {n cap : Nat} {ts : List S.Tok} (h : TRow w (.slice a n cap) ts) {j : Nat} (hj : j < ts.length) :
    ∃ b off, a = some ⟨b, off, none⟩ ∧ w.cell? ⟨b, off + j * 4, none⟩ = some (.int .i64 (ts.getD j tk0).kind) ∧
      w.cell? ⟨b, off + j * 4 + 1, none⟩ = some (.int .i64 (ts.getD j tk0).beg) ∧
      w.cell? ⟨b, off + j * 4 + 2, none⟩ = some (.int .i64 (ts.getD j tk0).fin) ∧
      w.cell? ⟨b, off + j * 4 + 3, none⟩ = some (.string ⟨(ts.getD j tk0).text.toArray⟩) := by
  obtain ⟨a', cap', e, h1, h2, h4⟩ := h
  cases e
  obtain ⟨b, off, rfl, hc⟩ := h4 (by intro e; rw [e] at hj; simp at hj)
  exact ⟨b, off, rfl, hc j hj⟩
theorem TRow.shape {w : World} {v : Value} {ts : List S.Tok} (h : TRow w v ts) : ∃ a cap, v = .slice a ts.length cap ∧ ts.length ≤ cap ∧ cap ≤ 9223372036854775807 := by
  obtain ⟨a, cap, rfl, h1, h2, h4⟩ := h
  exact ⟨a, cap, rfl, h1, h2⟩
theorem live_run : S.run resv .idle [40, 97, 32, 49] 0 = ([⟨1, 0, 1, [40]⟩, ⟨3, 1, 2, [97]⟩, ⟨5, 3, 4, [49]⟩], 0, 0) := by rfl
theorem Cls.below {w w' : World} (h : Cls w) (b : Below w.heap.size w w') : Cls w' := by
  intro j hj
  rw [b.cell (p := ⟨_, j, none⟩) h.lt]
  exact h j hj
end Go.Proofs.YtjbalgjdcdmjjaaDoor
