/-
  The law ScanStands.
-/
import Derived.Test.YtjbalgjdcdmjjaaDoorScanBehind
namespace Go.Proofs.YtjbalgjdcdmjjaaDoor
open Go.RowKit
set_option linter.unusedVariables false
theorem run_mid (s : ByteArray) (i j : Int) (a b : Nat) (hi : i = a) (hj : j = b) (h1 : a ≤ b) (h2 : b ≤ s.size) (W : World) :
    (Instr.sliceAt 9 (.string s) (some (.int .i64 i)) (some (.int .i64 j)) none).run Tryd.prog W = .ok (.string (s.extract a b)) W := by
  have hu : Tryd.prog.underlying 9 = some .string := by kernel_rfl
  subst hi hj
  rw [run_sliceAt_string (h := hu)]
  have h3 : (0 : Int) ≤ (a : Int) := by omega
  have h4 : (a : Int) ≤ (b : Int) := by omega
  have h5 : (b : Int) ≤ (s.size : Int) := by omega
  go_simp
theorem run_from (s : ByteArray) (m n : Nat) (i : Int) (hz : s.size = m) (h0 : 0 ≤ i) (h1 : i ≤ m) (hn : i.toNat = n) (W : World) : (Instr.sliceAt 9 (.string s) (some (.int .i64 i)) none none).run Tryd.prog W = .ok (.string (s.extract n m)) W := by
  have hu : Tryd.prog.underlying 9 = some .string := by kernel_rfl
  subst hn
  rw [run_sliceAt_string (h := hu)]
  go_simp
theorem extract_mid {s : ByteArray} {l : List UInt8} (hs : s.data.toList = l) (a b : Nat) : (s.extract a b).data.toList = (l.take b).drop a := by
  subst hs
  simp [ByteArray.data_extract, List.drop_take]
theorem ne_byte {b : UInt8} {n : Nat} (hn : n < 256) (h : b ≠ UInt8.ofNat n) : ¬ (b.toNat : Int) = n := fun e => h (by
  apply UInt8.toNat_inj.1
  have : b.toNat = n := by omega
  rw [this]
  simp [Nat.mod_eq_of_lt hn])
theorem drop_tok (L : List S.Tok) (k : Nat) (h : k < L.length) : L.drop k = L.getD k tk0 :: L.drop (k + 1) := by
  rw [List.drop_eq_getElem_cons h, List.getD_eq_getElem?_getD, List.getElem?_eq_getElem h]
  rfl
/-- The loop's word: the tokens from k on stand behind E. -/
def StAt (L : List S.Tok) (l : List UInt8) (e p k E : Nat) : Prop := E ≤ l.length ∧ S.Stands resv (L.drop k) (l.drop E) E e p
theorem StAt.next {L : List S.Tok} {l : List UInt8} {e p k E : Nat} (h : StAt L l e p k E) (hk : k < L.length) {t : S.Tok} (ht : L.getD k tk0 = t) :
    E ≤ t.beg ∧ t.beg < t.fin ∧ t.fin ≤ l.length ∧ S.gapB false ((l.take t.beg).drop E) = true ∧ S.run resv .idle ((l.take t.fin).drop t.beg) 0 = ([⟨t.kind, 0, t.fin - t.beg, t.text⟩], 0, 0) ∧ StAt L l e p (k + 1) t.fin := by
  obtain ⟨hE, h⟩ := h
  rw [drop_tok L k hk, ht] at h
  obtain ⟨n, m, h1, h2, h3, h4, h5, h6, h7⟩ := h
  rw [List.length_drop] at h2
  rw [List.drop_drop] at h6 h7
  have e1 : (l.take t.beg).drop E = (l.drop E).take n := by rw [List.drop_take, h3]; congr 1; omega
  have e2 : (l.take t.fin).drop t.beg = (l.drop (E + n)).take m := by rw [List.drop_take, h3, h4]; congr 1; omega
  refine ⟨by omega, by omega, by omega, by rw [e1]; exact h5, ?_, by omega, ?_⟩
  · rw [e2, h6, show t.fin - t.beg = m from by omega]
  · rw [h4]
    rw [show E + (n + m) = E + n + m from by omega] at h7
    exact h7
end Go.Proofs.YtjbalgjdcdmjjaaDoor
