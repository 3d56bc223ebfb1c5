/- Laid together of: PartLaw, ScanStands. -/
import Derived.Test.YtackibimlpkcmaaDoorq4
import Derived.Test.YtackibimlpkcmaaDoorJoinedLawq
import Derived.Test.YtackibimlpkcmaaDoorq7
import Derived.Test.YtackibimlpkcmaaDoorq21
import Derived.Test.YtackibimlpkcmaaDoorq20
/- ==== PartLaw ==== -/
namespace Go.Proofs.YtackibimlpkcmaaDoor
open Go.RowKit
set_option linter.unusedVariables false
/-- The rest of what stands in the list at i, that ends at e with the token c: the last token before it ends at fr. -/
def Kd (ts : List S.Tok) (f : List X.N) (c : S.Tok) (i e fr : Nat) (ks : List Nat) : Prop :=
  ∃ p k Mr, ks = kl (f.map toNd) e k p ∧ X.Lp ts f c fr p Mr ∧ p + Mr.length = e ∧ Mr.length ≤ k ∧ i < p
theorem toNd_size (f : List X.N) (p : Nat) : ((f.map toNd).getD p Nd.z).size.toNat = (f.getD p X.n0).size := by
  rw [toNd_at]
  show ((f.getD p X.n0).size : Int).toNat = _
  rw [Int.toNat_natCast]
theorem Kd.step {l : List UInt8} {ts : List S.Tok} {f : List X.N} {c : S.Tok} {i e fr q : Nat} {ks : List Nat} (hr : S.run resv .idle l 0 = (ts, 0, 0)) (h : Kd ts f c i e fr (q :: ks)) :
    i < q ∧ q < e ∧ q < f.length ∧ fr ≤ (f.getD q X.n0).beg ∧ (f.getD q X.n0).beg ≤ (f.getD q X.n0).fin ∧ (f.getD q X.n0).fin ≤ c.beg ∧
    S.run resv .idle ((l.drop fr).take ((f.getD q X.n0).beg - fr)) 0 = ([], 0, 0) ∧ Kd ts f c i e (f.getD q X.n0).fin ks := by
  obtain ⟨p, k, Mr, h1, h2, h3, h4, h5⟩ := h
  cases k with
  | zero => cases h1
  | succ k =>
    rcases Nat.lt_or_ge p e with z | z
    · rw [kl_go _ _ _ _ z, toNd_size] at h1
      obtain ⟨rfl, h1⟩ := List.cons.inj h1
      obtain ⟨n, g0, g1, g2, g3, g4, g5, g6, g7, Mr', g8, g9⟩ := h2.step resv hr (by rintro rfl; simp at h3; omega)
      rw [g0] at h1 ⊢
      exact ⟨h5, z, g1, g2, g3, g4, g7, _, k, Mr', h1, g8, by omega, by omega, by omega⟩
    · rw [kl_end _ _ _ _ z] at h1
      cases h1
theorem Kd.last {l : List UInt8} {ts : List S.Tok} {f : List X.N} {c : S.Tok} {i e fr : Nat} (hr : S.run resv .idle l 0 = (ts, 0, 0)) (h : Kd ts f c i e fr []) :
    fr ≤ c.beg ∧ S.run resv .idle ((l.drop fr).take (c.beg - fr)) 0 = ([], 0, 0) := by
  obtain ⟨p, k, Mr, h1, h2, h3, h4, h5⟩ := h
  have : Mr = [] := by
    cases Mr with
    | nil => rfl
    | cons x y =>
      rw [List.length_cons] at h3 h4
      cases k with
      | zero => omega
      | succ k =>
        rw [kl_go _ _ _ _ (by omega)] at h1
        cases h1
  subst this
  exact h2.last resv hr
/-- What is known of the node i of a text without an error. -/
structure NI (l : List UInt8) (ts : List S.Tok) (f : List X.N) (i : Nat) : Prop where
  range : (f.getD i X.n0).beg < (f.getD i X.n0).fin ∧ (f.getD i X.n0).fin ≤ l.length
  size : 1 ≤ (f.getD i X.n0).size ∧ i + (f.getD i X.n0).size ≤ f.length
  part : ∃ m', X.out (S.run resv .idle ((l.drop (f.getD i X.n0).beg).take ((f.getD i X.n0).fin - (f.getD i X.n0).beg)) 0).1 (S.run resv .idle ((l.drop (f.getD i X.n0).beg).take ((f.getD i X.n0).fin - (f.getD i X.n0).beg)) 0).2.1 (S.run resv .idle ((l.drop (f.getD i X.n0).beg).take ((f.getD i X.n0).fin - (f.getD i X.n0).beg)) 0).2.2 = (m', 0, 0) ∧ (f.drop i).take (f.getD i X.n0).size = m'.map (X.mvN (f.getD i X.n0).beg)
  kinds : ((f.getD i X.n0).kind ≠ 1 ∧ (f.getD i X.n0).size = 1 ∧ 3 ≤ (f.getD i X.n0).kind ∧ (f.getD i X.n0).kind ≤ 10 ∧ kidsL (f.map toNd) i = []) ∨
    ((f.getD i X.n0).kind = 1 ∧ ∃ c, Kd ts f c i (i + (f.getD i X.n0).size) ((f.getD i X.n0).beg + 1) (kidsL (f.map toNd) i) ∧ (f.getD i X.n0).fin = c.beg + 1)
theorem ni_of {l : List UInt8} {ts : List S.Tok} {f : List X.N} (hr : S.run resv .idle l 0 = (ts, 0, 0)) (hf : X.Sq ts f) {i : Nat} (hi : i < f.length) : NI l ts f i := by
  obtain ⟨a, x, b, u, m, v, e1, e2, e3, ho⟩ := hf.node i hi
  obtain ⟨n, M, g1, g2, g3, g4, T', m', g5, g6, g7⟩ := X.one_read resv hr e1 ho
  have hn : f.getD i X.n0 = n := by
    rw [e2, ← e3, g1]
    simp
  have hk : ∀ t ∈ ts, S.Tk t := fun t ht => S.run_okL resv l .idle 0 trivial t (by rw [hr]; exact ht)
  have hml : i + m.length ≤ f.length := by
    rw [e2]
    simp
    omega
  have hend : endOf (f.map toNd) (i : Int) = i + n.size := by
    unfold endOf
    rw [if_neg (by omega), Int.toNat_natCast, toNd_size, hn]
  have hkids : kidsL (f.map toNd) (i : Int) = kl (f.map toNd) (i + n.size) f.length (i + 1) := by
    unfold kidsL
    rw [hend, List.length_map]
    rfl
  refine ⟨by rw [hn]; exact ⟨g3, g4⟩, by rw [hn, g2]; exact ⟨by rw [g1]; simp, hml⟩, ⟨m', ?_, ?_⟩, ?_⟩
  · rw [hn, g5]
    unfold X.out
    rw [g6]
  · rw [hn, ← g7, g2, e2, ← e3]
    simp
  · rw [hn, hkids]
    rcases ho with ⟨t, rfl, rfl, h1, h2⟩ | ⟨o, c, T, M', rfl, rfl, h1, h2, h3⟩
    · obtain ⟨rfl, -⟩ := List.cons.inj g1
      have k := hk t (by rw [e1]; simp)
      refine .inl ⟨h1, rfl, ?_, k.2.2.1, kl_end _ _ _ _ (Nat.le_refl _)⟩
      have := k.2.1
      show 3 ≤ t.kind
      omega
    · obtain ⟨rfl, rfl⟩ := List.cons.inj g1
      have ko := hk o (by rw [e1]; simp)
      have kc := hk c (by rw [e1]; simp)
      have eo := ko.1 (by omega) (by omega) (by omega)
      rw [ko.2.2.2.1 h1] at eo
      have ec := kc.1 (by omega) (by omega) (by omega)
      rw [kc.2.2.2.2 h2] at ec
      refine .inr ⟨rfl, c, ⟨i + 1, f.length, M', rfl, ⟨a, o, T, b, u ++ [⟨1, o.beg, c.fin, M'.length + 1, []⟩], v, by rw [e1]; simp, eo, h3, by rw [e2]; simp, by simp [e3]⟩, by show i + 1 + M'.length = i + (M'.length + 1); omega, by simp at hml; omega, by omega⟩, ec.symm⟩
set_option maxRecDepth 100000 in
/-- A text with no token in it. -/
theorem only_calls (w : World) (hc : Cls w) (s : ByteArray) (l : List UInt8) (hs : s.data.toList = l) (hl : l.length ≤ 1073741824) (h : S.run resv .idle l 0 = ([], 0, 0)) :
    Calls Tryd.prog 16 #[.string s] w fun e w' => e = .returned (.bool true) ∧ Below w.heap.size w w' := by
  have q1 := tokens_calls w hc s l hs (by omega)
  rw [h] at q1
  replace q1 := hide q1
  clear h hs
  go_enter Tryd.func16, Tryd.ntmps16
  go_wp2_with fail
  refine q1.out.mono ?_
  rintro x w2 ⟨va, rfl, ow, b2⟩
  obtain ⟨a, cap, rfl, h1, h2⟩ := (ownsRow.trow ow).shape
  replace b2 := hide b2
  clear q1 ow
  go_wp2_with (go_at_call 15; refine (no_calls _ _).mono ?_; rintro x w5 ⟨rfl, rfl⟩)
  go_ret
  exact ⟨rfl, b2.out⟩
end Go.Proofs.YtackibimlpkcmaaDoor
/- ==== ScanStands ==== -/
namespace Go.Proofs.YtackibimlpkcmaaDoor
open Go.RowKit
set_option linter.unusedVariables false
theorem run_mid (s : ByteArray) (i j : Int) (a b : Nat) (hi : i = a) (hj : j = b) (h1 : a ≤ b) (h2 : b ≤ s.size) (W : World) :
    (Instr.sliceAt 9 (.string s) (some (.int .i64 i)) (some (.int .i64 j)) none).run Tryd.prog W = .ok (.string (s.extract a b)) W := by
  have hu : Tryd.prog.underlying 9 = some .string := by kernel_rfl
  subst hi hj
  rw [run_sliceAt_string (h := hu)]
  have h3 : (0 : Int) ≤ (a : Int) := by omega
  have h4 : (a : Int) ≤ (b : Int) := by omega
  have h5 : (b : Int) ≤ (s.size : Int) := by omega
  go_simp
theorem run_from (s : ByteArray) (m n : Nat) (i : Int) (hz : s.size = m) (h0 : 0 ≤ i) (h1 : i ≤ m) (hn : i.toNat = n) (W : World) : (Instr.sliceAt 9 (.string s) (some (.int .i64 i)) none none).run Tryd.prog W = .ok (.string (s.extract n m)) W := by
  have hu : Tryd.prog.underlying 9 = some .string := by kernel_rfl
  subst hn
  rw [run_sliceAt_string (h := hu)]
  go_simp
theorem extract_mid {s : ByteArray} {l : List UInt8} (hs : s.data.toList = l) (a b : Nat) : (s.extract a b).data.toList = (l.take b).drop a := by
  subst hs
  simp [ByteArray.data_extract, List.drop_take]
theorem ne_byte {b : UInt8} {n : Nat} (hn : n < 256) (h : b ≠ UInt8.ofNat n) : ¬ (b.toNat : Int) = n := fun e => h (by
  apply UInt8.toNat_inj.1
  have : b.toNat = n := by omega
  rw [this]
  simp [Nat.mod_eq_of_lt hn])
theorem drop_tok (L : List S.Tok) (k : Nat) (h : k < L.length) : L.drop k = L.getD k tk0 :: L.drop (k + 1) := by
  rw [List.drop_eq_getElem_cons h, List.getD_eq_getElem?_getD, List.getElem?_eq_getElem h]
  rfl
/-- The loop's word: the tokens from k on stand behind E. -/
def StAt (L : List S.Tok) (l : List UInt8) (e p k E : Nat) : Prop := E ≤ l.length ∧ S.Stands resv (L.drop k) (l.drop E) E e p
theorem StAt.next {L : List S.Tok} {l : List UInt8} {e p k E : Nat} (h : StAt L l e p k E) (hk : k < L.length) {t : S.Tok} (ht : L.getD k tk0 = t) :
    E ≤ t.beg ∧ t.beg < t.fin ∧ t.fin ≤ l.length ∧ S.gapB false ((l.take t.beg).drop E) = true ∧ S.run resv .idle ((l.take t.fin).drop t.beg) 0 = ([⟨t.kind, 0, t.fin - t.beg, t.text⟩], 0, 0) ∧ StAt L l e p (k + 1) t.fin := by
  obtain ⟨hE, h⟩ := h
  rw [drop_tok L k hk, ht] at h
  obtain ⟨n, m, h1, h2, h3, h4, h5, h6, h7⟩ := h
  rw [List.length_drop] at h2
  rw [List.drop_drop] at h6 h7
  have e1 : (l.take t.beg).drop E = (l.drop E).take n := by rw [List.drop_take, h3]; congr 1; omega
  have e2 : (l.take t.fin).drop t.beg = (l.drop (E + n)).take m := by rw [List.drop_take, h3, h4]; congr 1; omega
  refine ⟨by omega, by omega, by omega, by rw [e1]; exact h5, ?_, by omega, ?_⟩
  · rw [e2, h6, show t.fin - t.beg = m from by omega]
  · rw [h4]
    rw [show E + (n + m) = E + n + m from by omega] at h7
    exact h7
end Go.Proofs.YtackibimlpkcmaaDoor
