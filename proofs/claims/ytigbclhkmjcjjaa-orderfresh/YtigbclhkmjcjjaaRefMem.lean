/-
  The document's order in memory, and its small calls.
-/
import Derived.Test.YtigbclhkmjcjjaaRefSum
import Derived.Test.YtigbclhkmjcjjaaOrdFit
namespace Go.Proofs.Ytigbclhkmjcjjaa
open Go.RowKit
set_option linter.unusedVariables false
/-- Where the document's order lies. -/
structure Rid where
  P : Nat
  ga : Nat
  gw : Nat
  gu : Nat
  ca : Nat
  cw : Nat
  cu : Nat
  n : Nat
/-- What it holds. -/
structure RS where
  A : List Nat
  r : Nat
  W : List Bool
  U : List Bool
def iv (x : Nat) : Value := .int .i64 (x : Int)
def rblk (o : Rid) (s : RS) : Array Value := #[.slice (some ⟨o.ga, 0, none⟩) (o.n + 1) o.ca, .int .i64 (s.r : Int), .slice (some ⟨o.gw, 0, none⟩) (o.n + 1) o.cw, .slice (some ⟨o.gu, 0, none⟩) (o.n + 1) o.cu]
/-- A block that begins with these. -/
def Beg (w : World) (g : Nat) (t : TypeId) (xs : List Value) : Prop := ∃ cur : Array Value, w.heap[g]? = some (.cells cur t (0, 0)) ∧ cur.toList.take xs.length = xs
section
variable {w : World} {g : Nat} {t : TypeId} {xs : List Value}
theorem Beg.cell (h : Beg w g t xs) {j : Nat} (hj : j < xs.length) : w.cell? ⟨g, j, none⟩ = xs[j]? := by
  obtain ⟨cur, hg, e⟩ := h
  rw [block_cell hg, ← Array.getElem?_toList]
  have := congrArg (fun l => l[j]?) e
  simp only [List.getElem?_take, if_pos hj] at this
  exact this
theorem Beg.free (h : Beg w g t xs) (j : Nat) : w.frozen? ⟨g, j, none⟩ = false := by
  obtain ⟨cur, hg, e⟩ := h
  exact block_free hg j
theorem Beg.keep {w' : World} (h : Beg w g t xs) (e : w'.heap[g]? = w.heap[g]?) : Beg w' g t xs := by
  obtain ⟨cur, hg, e2⟩ := h
  exact ⟨cur, e.trans hg, e2⟩
theorem Beg.set (h : Beg w g t xs) (j : Nat) (u : Value) : Beg (w.setCell ⟨g, j, none⟩ u) g t (xs.set j u) := by
  obtain ⟨cur, hg, e⟩ := h
  refine ⟨_, heap_set hg j u, ?_⟩
  rw [Array.toList_setIfInBounds, List.length_set, List.take_set, e]
theorem Beg.lt (h : Beg w g t xs) : g < w.heap.size := by
  obtain ⟨cur, hg, e⟩ := h
  exact (Array.getElem?_eq_some_iff.1 hg).1
end
/-- The document's order o holds s. -/
def ROrd (w : World) (o : Rid) (s : RS) : Prop :=
  w.heap[o.P]? = some (.cells (rblk o s) 72 (0, 0)) ∧ Beg w o.ga 3 (s.A.map iv) ∧ Beg w o.gw 4 (s.W.map Value.bool) ∧ Beg w o.gu 4 (s.U.map Value.bool) ∧
  s.A.length = o.n + 1 ∧ s.W.length = o.n + 1 ∧ s.U.length = o.n + 1 ∧ o.gw ≠ o.gu ∧ o.n ≤ 1000000
def rblks (o : Rid) : List Nat := [o.P, o.ga, o.gw, o.gu]
abbrev rptr (o : Rid) : Value := .pointer (some ⟨o.P, 0, none⟩)
section
variable {w w' : World} {o : Rid} {s : RS}
theorem ROrd.c0 (h : ROrd w o s) : w.cell? ⟨o.P, 0, none⟩ = some (.slice (some ⟨o.ga, 0, none⟩) (o.n + 1) o.ca) := by rw [block_cell h.1]; rfl
theorem ROrd.c1 (h : ROrd w o s) : w.cell? ⟨o.P, 1, none⟩ = some (.int .i64 (s.r : Int)) := by rw [block_cell h.1]; rfl
theorem ROrd.c2 (h : ROrd w o s) : w.cell? ⟨o.P, 2, none⟩ = some (.slice (some ⟨o.gw, 0, none⟩) (o.n + 1) o.cw) := by rw [block_cell h.1]; rfl
theorem ROrd.c3 (h : ROrd w o s) : w.cell? ⟨o.P, 3, none⟩ = some (.slice (some ⟨o.gu, 0, none⟩) (o.n + 1) o.cu) := by rw [block_cell h.1]; rfl
theorem ROrd.free (h : ROrd w o s) (j : Nat) : w.frozen? ⟨o.P, j, none⟩ = false := block_free h.1 j
theorem ROrd.hn (h : ROrd w o s) : o.n ≤ 1000000 := h.2.2.2.2.2.2.2.2
theorem ROrd.act (h : ROrd w o s) {j : Nat} (hj : j ≤ o.n) : w.cell? ⟨o.ga, j, none⟩ = some (.int .i64 (s.A.getD j 0 : Nat)) := by
  have hl : j < s.A.length := by rw [h.2.2.2.2.1]; omega
  rw [h.2.1.cell (by rw [List.length_map]; exact hl), List.getElem?_map, List.getElem?_eq_getElem hl, List.getD_eq_getElem?_getD, List.getElem?_eq_getElem hl]
  rfl
theorem ROrd.wai (h : ROrd w o s) {j : Nat} (hj : j ≤ o.n) : w.cell? ⟨o.gw, j, none⟩ = some (.bool (s.W.getD j false)) := by
  have hl : j < s.W.length := by rw [h.2.2.2.2.2.1]; omega
  rw [h.2.2.1.cell (by rw [List.length_map]; exact hl), List.getElem?_map, List.getElem?_eq_getElem hl, List.getD_eq_getElem?_getD, List.getElem?_eq_getElem hl]
  rfl
theorem ROrd.upp (h : ROrd w o s) {j : Nat} (hj : j ≤ o.n) : w.cell? ⟨o.gu, j, none⟩ = some (.bool (s.U.getD j false)) := by
  have hl : j < s.U.length := by rw [h.2.2.2.2.2.2.1]; omega
  rw [h.2.2.2.1.cell (by rw [List.length_map]; exact hl), List.getElem?_map, List.getElem?_eq_getElem hl, List.getD_eq_getElem?_getD, List.getElem?_eq_getElem hl]
  rfl
theorem beg_apart {a b : Nat} {t u : TypeId} {xs ys : List Value} (h : Beg w a t xs) (q : Beg w b u ys) (hne : t ≠ u) : a ≠ b := by
  intro e
  subst e
  obtain ⟨c, hc, _⟩ := h
  obtain ⟨d, hd, _⟩ := q
  rw [hc] at hd
  cases hd
  exact hne rfl
theorem beg_apartP {a b : Nat} {t u : TypeId} {x : Array Value} {ys : List Value} (h : w.heap[a]? = some (.cells x t (0, 0))) (q : Beg w b u ys) (hne : t ≠ u) : a ≠ b := by
  intro e
  subst e
  obtain ⟨d, hd, _⟩ := q
  rw [h] at hd
  cases hd
  exact hne rfl
theorem ROrd.apart (h : ROrd w o s) : o.P ≠ o.ga ∧ o.P ≠ o.gw ∧ o.P ≠ o.gu ∧ o.ga ≠ o.gw ∧ o.ga ≠ o.gu ∧ o.gw ≠ o.gu := by
  obtain ⟨h1, h2, h3, h4, _, _, _, h5, _⟩ := h
  exact ⟨beg_apartP h1 h2 (by decide), beg_apartP h1 h3 (by decide), beg_apartP h1 h4 (by decide), beg_apart h2 h3 (by decide), beg_apart h2 h4 (by decide), h5⟩
theorem ROrd.lt (h : ROrd w o s) : ∀ b, b ∈ rblks o → b < w.heap.size := by
  intro b hb
  simp only [rblks, List.mem_cons, List.not_mem_nil, or_false] at hb
  rcases hb with rfl | rfl | rfl | rfl
  · exact (Array.getElem?_eq_some_iff.1 h.1).1
  · exact h.2.1.lt
  · exact h.2.2.1.lt
  · exact h.2.2.2.1.lt
theorem ROrd.keep {S : List Nat} (h : ROrd w o s) (q : Chg S w w') (hS : ∀ b, b ∈ rblks o → b ∉ S) : ROrd w' o s := by
  have lt := h.lt
  have m : ∀ b, b ∈ rblks o → w'.heap[b]? = w.heap[b]? := fun b hb => q.block b (lt b hb) (hS b hb)
  obtain ⟨h1, h2, h3, h4, hr⟩ := h
  exact ⟨(m _ (by simp [rblks])).trans h1, h2.keep (m _ (by simp [rblks])), h3.keep (m _ (by simp [rblks])), h4.keep (m _ (by simp [rblks])), hr⟩
theorem ROrd.drewN (h : ROrd w o s) (k : Nat) : ROrd (w.drewN k) o s := h
theorem ROrd.setAct (h : ROrd w o s) (j x : Nat) : ROrd (w.setCell ⟨o.ga, j, none⟩ (.int .i64 (x : Int))) o { s with A := s.A.set j x } := by
  obtain ⟨a1, a2, a3, a4, a5, a6⟩ := h.apart
  obtain ⟨h1, h2, h3, h4, e1, e2, e3, hr⟩ := h
  refine ⟨(heap_set_ne a1 _ _).trans h1, ?_, h3.keep (heap_set_ne (Ne.symm a4) _ _), h4.keep (heap_set_ne (Ne.symm a5) _ _), by rw [List.length_set]; exact e1, e2, e3, hr⟩
  have := h2.set j (iv x)
  rw [← List.map_set] at this
  exact this
theorem ROrd.setW (h : ROrd w o s) (j : Nat) (x : Bool) : ROrd (w.setCell ⟨o.gw, j, none⟩ (.bool x)) o { s with W := s.W.set j x } := by
  obtain ⟨a1, a2, a3, a4, a5, a6⟩ := h.apart
  obtain ⟨h1, h2, h3, h4, e1, e2, e3, hr⟩ := h
  refine ⟨(heap_set_ne a2 _ _).trans h1, h2.keep (heap_set_ne a4 _ _), ?_, h4.keep (heap_set_ne (Ne.symm a6) _ _), e1, by rw [List.length_set]; exact e2, e3, hr⟩
  have := h3.set j (.bool x)
  rw [← List.map_set] at this
  exact this
theorem ROrd.setU (h : ROrd w o s) (j : Nat) (x : Bool) : ROrd (w.setCell ⟨o.gu, j, none⟩ (.bool x)) o { s with U := s.U.set j x } := by
  obtain ⟨a1, a2, a3, a4, a5, a6⟩ := h.apart
  obtain ⟨h1, h2, h3, h4, e1, e2, e3, hr⟩ := h
  refine ⟨(heap_set_ne a3 _ _).trans h1, h2.keep (heap_set_ne a5 _ _), h3.keep (heap_set_ne a6 _ _), ?_, e1, e2, by rw [List.length_set]; exact e3, hr⟩
  have := h4.set j (.bool x)
  rw [← List.map_set] at this
  exact this
theorem ROrd.setRise (h : ROrd w o s) (x : Nat) : ROrd (w.setCell ⟨o.P, 1, none⟩ (.int .i64 (x : Int))) o { s with r := x } := by
  obtain ⟨a1, a2, a3, a4, a5, a6⟩ := h.apart
  obtain ⟨h1, h2, h3, h4, hr⟩ := h
  refine ⟨?_, h2.keep (heap_set_ne (Ne.symm a1) _ _), h3.keep (heap_set_ne (Ne.symm a2) _ _), h4.keep (heap_set_ne (Ne.symm a3) _ _), hr⟩
  rw [heap_set h1]
  rfl
end
set_option maxHeartbeats 1600000 in
theorem known_calls (w : World) (o : Rid) (s : RS) (h : ROrd w o s) (v : Int) : Calls Try.prog 60 #[rptr o, .int .i64 v] w fun e w' => e = .returned (.bool (decide (1 ≤ v ∧ v ≤ o.n))) ∧ w' = w := by
  have c0 := h.c0
  have hn := h.hn
  clear h
  by_cases d1 : v < 1
  · have e : decide (1 ≤ v ∧ v ≤ (o.n : Int)) = false := by simp; omega
    rw [e]
    have d2 : decide (1 ≤ v) = false := by simp; omega
    have d3 : ¬ 1 ≤ v := by omega
    clear d1
    go_enter Try.func60, Try.ntmps60
    go_wp2
    go_ret
    exact ⟨rfl, rfl⟩
  · have d2 : decide (1 ≤ v) = true := by simp; omega
    have d3 : 1 ≤ v := by omega
    have e : decide (1 ≤ v ∧ v ≤ (o.n : Int)) = decide (v < (o.n : Int) + 1) := by
      by_cases c : v ≤ (o.n : Int)
      · rw [decide_eq_true ⟨d3, c⟩, decide_eq_true (by omega)]
      · rw [decide_eq_false (fun z => c z.2), decide_eq_false (by omega)]
    rw [e]
    clear d1 e
    go_enter Try.func60, Try.ntmps60
    go_wp2
    go_ret
    exact ⟨rfl, rfl⟩
end Go.Proofs.Ytigbclhkmjcjjaa
