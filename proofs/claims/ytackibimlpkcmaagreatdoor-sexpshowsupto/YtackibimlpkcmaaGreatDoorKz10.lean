/- Laid together of: ScanBehind, ScanStands. -/
import Derived.Test.YtackibimlpkcmaaGreatDoorKz9
/- ==== ScanBehind ==== -/
namespace Go.RowKit
theorem Below.then_below {w w1 w2 : World} (h : Below w.heap.size w w1) (q : Below w1.heap.size w1 w2) : Below w.heap.size w w2 := h.trans (q.mono h.size)
end Go.RowKit
namespace Go.Proofs.YtackibimlpkcmaaGreatDoor
open Go.RowKit
set_option linter.unusedVariables false
theorem stands_bound : ∀ (ts : List S.Tok) (l : List UInt8) (i e p : Nat), S.Stands resv ts l i e p → (∀ t ∈ ts, t.beg ≤ i + l.length ∧ t.fin ≤ i + l.length) ∧ p ≤ i + l.length
  | [], l, i, e, p, h => by
    refine ⟨fun t ht => by simp at ht, ?_⟩
    rcases h with ⟨_, h, _⟩ | ⟨_, _, h⟩
    · omega
    · exact h
  | t :: ts, l, i, e, p, h => by
    obtain ⟨n, m, h1, h2, h3, h4, -, -, h5⟩ := h
    have := stands_bound ts _ _ e p h5
    rw [List.length_drop] at this
    refine ⟨?_, by omega⟩
    intro u hu
    rcases List.mem_cons.1 hu with rfl | hu
    · omega
    · have := this.1 u hu
      omega
theorem run_bound (l : List UInt8) : (∀ t ∈ (S.run resv .idle l 0).1, t.beg ≤ l.length ∧ t.fin ≤ l.length) ∧ (S.run resv .idle l 0).2.2 ≤ l.length := by
  have := stands_bound _ _ _ _ _ (S.run_stands resv l 0)
  simpa using this
theorem run_many (l : List UInt8) : (S.run resv .idle l 0).1.length ≤ 2 * l.length + 1 := by
  have hr := S.run_append resv [] l .idle 0
  rw [List.append_nil, Nat.zero_add] at hr
  have f1 := feed_few l .idle 0
  rcases hfd : (S.feed resv .idle l 0).2 with q' | ⟨e, p⟩
  · rw [hfd] at hr
    have e1 : (S.run resv .idle l 0).1 = (S.feed resv .idle l 0).1 ++ (S.stop resv q' l.length).1 := by rw [hr]; rfl
    have f2 := stop_few q' l.length
    rw [e1, List.length_append]
    omega
  · rw [hfd] at hr
    have e1 : (S.run resv .idle l 0).1 = (S.feed resv .idle l 0).1 := by rw [hr]
    rw [e1]
    omega
theorem below_drewN {n : Nat} {w w' : World} (h : Below n w w') (k : Nat) : Below n w (w'.drewN k) := ⟨h.os, h.tape, h.output, h.size, h.block⟩
theorem run_at_tok (b o len cap n : Nat) (i : Int) (hn : i = n) (h1 : n < len) (w : World) : (Instr.indexAt 36 (.slice (some ⟨b, o, none⟩) len cap) (.int .i64 i)).run Tryz.prog w = .ok (.pointer (some ⟨b, o + n * 4, none⟩)) w := by
  have he : Tryz.prog.elem 36 = 61 := by kernel_rfl
  subst hn
  rw [run_indexAt_slice (h := by rw [he]; exact sliceTok), if_pos ⟨by omega, by omega⟩]
  simp [he, Addr.add]
theorem getD_mem {ts : List S.Tok} {j : Nat} (h : j < ts.length) : ts.getD j tk0 ∈ ts := by
  rw [List.getD_eq_getElem?_getD, List.getElem?_eq_getElem h]
  exact List.getElem_mem h
theorem getD_left (a b : List S.Tok) {j : Nat} (h : j < a.length) : (a ++ b).getD j tk0 = a.getD j tk0 := by
  rw [List.getD_eq_getElem?_getD, List.getD_eq_getElem?_getD, List.getElem?_append_left h]
theorem getD_right (a b : List S.Tok) {j : Nat} (h : j < b.length) : (a ++ b).getD (a.length + j) tk0 = b.getD j tk0 := by
  rw [List.getD_eq_getElem?_getD, List.getD_eq_getElem?_getD, List.getElem?_append_right (by omega)]
  congr 2
  omega
theorem getD_sh (n : Nat) (a : List S.Tok) {j : Nat} (h : j < a.length) : (a.map (S.shT n)).getD j tk0 = S.shT n (a.getD j tk0) := by
  rw [List.getD_eq_getElem?_getD, List.getD_eq_getElem?_getD, List.getElem?_map, List.getElem?_eq_getElem h]
  rfl
end Go.Proofs.YtackibimlpkcmaaGreatDoor
/- ==== ScanStands ==== -/
namespace Go.Proofs.YtackibimlpkcmaaGreatDoor
open Go.RowKit
set_option linter.unusedVariables false
theorem run_mid (s : ByteArray) (i j : Int) (a b : Nat) (hi : i = a) (hj : j = b) (h1 : a ≤ b) (h2 : b ≤ s.size) (W : World) :
    (Instr.sliceAt 9 (.string s) (some (.int .i64 i)) (some (.int .i64 j)) none).run Tryz.prog W = .ok (.string (s.extract a b)) W := by
  have hu : Tryz.prog.underlying 9 = some .string := by kernel_rfl
  subst hi hj
  rw [run_sliceAt_string (h := hu)]
  have h3 : (0 : Int) ≤ (a : Int) := by omega
  have h4 : (a : Int) ≤ (b : Int) := by omega
  have h5 : (b : Int) ≤ (s.size : Int) := by omega
  go_simp
theorem run_from (s : ByteArray) (m n : Nat) (i : Int) (hz : s.size = m) (h0 : 0 ≤ i) (h1 : i ≤ m) (hn : i.toNat = n) (W : World) : (Instr.sliceAt 9 (.string s) (some (.int .i64 i)) none none).run Tryz.prog W = .ok (.string (s.extract n m)) W := by
  have hu : Tryz.prog.underlying 9 = some .string := by kernel_rfl
  subst hn
  rw [run_sliceAt_string (h := hu)]
  go_simp
theorem extract_mid {s : ByteArray} {l : List UInt8} (hs : s.data.toList = l) (a b : Nat) : (s.extract a b).data.toList = (l.take b).drop a := by
  subst hs
  simp [ByteArray.data_extract, List.drop_take]
theorem ne_byte {b : UInt8} {n : Nat} (hn : n < 256) (h : b ≠ UInt8.ofNat n) : ¬ (b.toNat : Int) = n := fun e => h (by
  apply UInt8.toNat_inj.1
  have : b.toNat = n := by omega
  rw [this]
  simp [Nat.mod_eq_of_lt hn])
theorem drop_tok (L : List S.Tok) (k : Nat) (h : k < L.length) : L.drop k = L.getD k tk0 :: L.drop (k + 1) := by
  rw [List.drop_eq_getElem_cons h, List.getD_eq_getElem?_getD, List.getElem?_eq_getElem h]
  rfl
/-- The loop's word: the tokens from k on stand behind E. -/
def StAt (L : List S.Tok) (l : List UInt8) (e p k E : Nat) : Prop := E ≤ l.length ∧ S.Stands resv (L.drop k) (l.drop E) E e p
theorem StAt.next {L : List S.Tok} {l : List UInt8} {e p k E : Nat} (h : StAt L l e p k E) (hk : k < L.length) {t : S.Tok} (ht : L.getD k tk0 = t) :
    E ≤ t.beg ∧ t.beg < t.fin ∧ t.fin ≤ l.length ∧ S.gapB false ((l.take t.beg).drop E) = true ∧ S.run resv .idle ((l.take t.fin).drop t.beg) 0 = ([⟨t.kind, 0, t.fin - t.beg, t.text⟩], 0, 0) ∧ StAt L l e p (k + 1) t.fin := by
  obtain ⟨hE, h⟩ := h
  rw [drop_tok L k hk, ht] at h
  obtain ⟨n, m, h1, h2, h3, h4, h5, h6, h7⟩ := h
  rw [List.length_drop] at h2
  rw [List.drop_drop] at h6 h7
  have e1 : (l.take t.beg).drop E = (l.drop E).take n := by rw [List.drop_take, h3]; congr 1; omega
  have e2 : (l.take t.fin).drop t.beg = (l.drop (E + n)).take m := by rw [List.drop_take, h3, h4]; congr 1; omega
  refine ⟨by omega, by omega, by omega, by rw [e1]; exact h5, ?_, by omega, ?_⟩
  · rw [e2, h6, show t.fin - t.beg = m from by omega]
  · rw [h4]
    rw [show E + (n + m) = E + n + m from by omega] at h7
    exact h7
end Go.Proofs.YtackibimlpkcmaaGreatDoor
