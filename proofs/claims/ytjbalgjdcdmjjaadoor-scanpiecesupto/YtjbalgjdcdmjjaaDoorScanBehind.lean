/-
  The law ScanBehind.
-/
import Derived.Test.YtjbalgjdcdmjjaaDoorScanRows
namespace Go.RowKit
theorem Below.then_below {w w1 w2 : World} (h : Below w.heap.size w w1) (q : Below w1.heap.size w1 w2) : Below w.heap.size w w2 := h.trans (q.mono h.size)
end Go.RowKit
namespace Go.Proofs.YtjbalgjdcdmjjaaDoor
open Go.RowKit
set_option linter.unusedVariables false
theorem stands_bound : ∀ (ts : List S.Tok) (l : List UInt8) (i e p : Nat), S.Stands resv ts l i e p → (∀ t ∈ ts, t.beg ≤ i + l.length ∧ t.fin ≤ i + l.length) ∧ p ≤ i + l.length
  | [], l, i, e, p, h => by
    refine ⟨fun t ht => by simp at ht, ?_⟩
    rcases h with ⟨_, h, _⟩ | ⟨_, _, h⟩
    · omega
    · exact h
  | t :: ts, l, i, e, p, h => by
    obtain ⟨n, m, h1, h2, h3, h4, -, -, h5⟩ := h
    have := stands_bound ts _ _ e p h5
    rw [List.length_drop] at this
    refine ⟨?_, by omega⟩
    intro u hu
    rcases List.mem_cons.1 hu with rfl | hu
    · omega
    · have := this.1 u hu
      omega
theorem run_bound (l : List UInt8) : (∀ t ∈ (S.run resv .idle l 0).1, t.beg ≤ l.length ∧ t.fin ≤ l.length) ∧ (S.run resv .idle l 0).2.2 ≤ l.length := by
  have := stands_bound _ _ _ _ _ (S.run_stands resv l 0)
  simpa using this
theorem run_many (l : List UInt8) : (S.run resv .idle l 0).1.length ≤ 2 * l.length + 1 := by
  have hr := S.run_append resv [] l .idle 0
  rw [List.append_nil, Nat.zero_add] at hr
  have f1 := feed_few l .idle 0
  rcases hfd : (S.feed resv .idle l 0).2 with q' | ⟨e, p⟩
  · rw [hfd] at hr
    have e1 : (S.run resv .idle l 0).1 = (S.feed resv .idle l 0).1 ++ (S.stop resv q' l.length).1 := by rw [hr]; rfl
    have f2 := stop_few q' l.length
    rw [e1, List.length_append]
    omega
  · rw [hfd] at hr
    have e1 : (S.run resv .idle l 0).1 = (S.feed resv .idle l 0).1 := by rw [hr]
    rw [e1]
    omega
theorem below_drewN {n : Nat} {w w' : World} (h : Below n w w') (k : Nat) : Below n w (w'.drewN k) := ⟨h.os, h.tape, h.output, h.size, h.block⟩
theorem run_at_tok (b o len cap n : Nat) (i : Int) (hn : i = n) (h1 : n < len) (w : World) : (Instr.indexAt 26 (.slice (some ⟨b, o, none⟩) len cap) (.int .i64 i)).run Tryd.prog w = .ok (.pointer (some ⟨b, o + n * 4, none⟩)) w := by
  have he : Tryd.prog.elem 26 = 66 := by kernel_rfl
  subst hn
  rw [run_indexAt_slice (h := by rw [he]; exact sliceTok), if_pos ⟨by omega, by omega⟩]
  simp [he, Addr.add]
theorem getD_mem {ts : List S.Tok} {j : Nat} (h : j < ts.length) : ts.getD j tk0 ∈ ts := by
  rw [List.getD_eq_getElem?_getD, List.getElem?_eq_getElem h]
  exact List.getElem_mem h
theorem getD_left (a b : List S.Tok) {j : Nat} (h : j < a.length) : (a ++ b).getD j tk0 = a.getD j tk0 := by
  rw [List.getD_eq_getElem?_getD, List.getD_eq_getElem?_getD, List.getElem?_append_left h]
theorem getD_right (a b : List S.Tok) {j : Nat} (h : j < b.length) : (a ++ b).getD (a.length + j) tk0 = b.getD j tk0 := by
  rw [List.getD_eq_getElem?_getD, List.getD_eq_getElem?_getD, List.getElem?_append_right (by omega)]
  congr 2
  omega
theorem getD_sh (n : Nat) (a : List S.Tok) {j : Nat} (h : j < a.length) : (a.map (S.shT n)).getD j tk0 = S.shT n (a.getD j tk0) := by
  rw [List.getD_eq_getElem?_getD, List.getD_eq_getElem?_getD, List.getElem?_map, List.getElem?_eq_getElem h]
  rfl
end Go.Proofs.YtjbalgjdcdmjjaaDoor
