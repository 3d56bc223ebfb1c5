/-
  Nodes as the walks know them; what tokens make is a forest.
-/
import Derived.Test.YtjbalgjdcdmjjaaDoorSexpRows
import Derived.Test.YtjbalgjdcdmjjaaDoorCutAll
import Derived.Test.YtjbalgjdcdmjjaaDoorNodeKidsC
import Derived.Test.YtjbalgjdcdmjjaaDoorJoinMath
/- ==== ToNd ==== -/
namespace Go.Proofs.YtjbalgjdcdmjjaaDoor
open Go.RowKit
set_option linter.unusedVariables false
def toNd (n : X.N) : Nd := ⟨n.kind, n.beg, n.fin, n.size, ⟨n.text.toArray⟩⟩
theorem toNd_at (ns : List X.N) (j : Nat) : (ns.map toNd).getD j Nd.z = toNd (ns.getD j X.n0) := by
  rw [List.getD_eq_getElem?_getD, List.getD_eq_getElem?_getD, List.getElem?_map]
  cases ns[j]? with
  | none => rfl
  | some x => rfl
theorem NRow.nds {w : World} {v : Value} {ns : List X.N} (h : NRow w v ns) (hl : ns.length ≤ 2932031007402) : Nds w.heap.size w v (ns.map toNd) := by
  obtain ⟨a, cap, rfl, h1, h2, h4⟩ := h
  refine ⟨a, cap, by rw [List.length_map], by rw [List.length_map]; exact h1, ⟨h2, by rw [List.length_map]; exact hl⟩, fun e => ?_, fun hne => ?_⟩
  · rcases List.eq_nil_or_concat ns with rfl | ⟨x, y, hx⟩
    · rfl
    · obtain ⟨b, off, e2, _⟩ := h4 (by rw [hx]; simp)
      rw [e] at e2
      cases e2
  · obtain ⟨b, off, rfl, hc⟩ := h4 (by rintro rfl; exact hne rfl)
    refine ⟨b, off, rfl, ?_, fun j hj => ?_⟩
    · have hp : 0 < ns.length := by
        rcases Nat.eq_zero_or_pos ns.length with e | e
        · exact absurd (by rw [List.length_eq_zero_iff.1 e]; rfl) hne
        · exact e
      exact World.block_lt_of_cell? w _ (hc 0 hp).1
    · rw [List.length_map] at hj
      rw [toNd_at]
      exact hc j hj
theorem bytes_nil : (⟨([] : List UInt8).toArray⟩ : ByteArray).toList = [] := by
  unfold ByteArray.toList ByteArray.toList.loop
  rw [if_neg (by show ¬ (0 : Nat) < 0; omega)]
  rfl
theorem fo_sq {T : List S.Tok} {M : List X.N} (h : X.Sq T M) : (∀ t ∈ T, 1 ≤ t.kind ∧ t.kind ≤ 10) → ∀ (r : List Nd) (i e : Nat) (Z : List Nat), i + M.length ≤ e → fo (M.map toNd ++ r) i (e :: Z) = fo r (i + M.length) (e :: Z) := by
  induction h using X.Sq.ind with
  | nil => intro _ r i e Z _; rfl
  | atom t T M h1 h2 h3 ih =>
    intro hk r i e Z hi
    rw [List.length_cons] at hi
    have k := hk t (by simp)
    rw [List.map_cons, List.cons_append, fo_atom (by omega) (.inr ⟨by show ¬ (t.kind : Int) = 1; omega, by show (3 : Int) ≤ t.kind; omega, by show (t.kind : Int) ≤ 10; omega, rfl⟩) (by show ¬ (t.kind : Int) = 1; omega), ih (fun t ht => hk t (by simp [ht])) r (i + 1) e Z (by omega), List.length_cons, show i + 1 + M.length = i + (M.length + 1) by omega]
  | list o c T M U K h1 h2 h3 h4 ih1 ih2 =>
    intro hk r i e Z hi
    rw [List.length_cons, List.length_append] at hi
    have e1 : (i + (toNd ⟨1, o.beg, c.fin, M.length + 1, []⟩).size.toNat) = i + (M.length + 1) := by
      show i + ((M.length + 1 : Nat) : Int).toNat = _
      rw [Int.toNat_natCast]
    rw [List.map_cons, List.cons_append, fo_open (by omega) (.inl ⟨rfl, bytes_nil, by show (1 : Int) ≤ ((M.length + 1 : Nat) : Int); omega, by show ((M.length + 1 : Nat) : Int) ≤ (e : Int) - (i : Int); omega⟩) rfl, e1, List.map_append, List.append_assoc,
      ih1 (fun t ht => hk t (by simp [ht])) _ (i + 1) (i + (M.length + 1)) _ (by omega), show i + 1 + M.length = i + (M.length + 1) by omega, fo_pop, ih2 (fun t ht => hk t (by simp [ht])) r _ e Z (by omega), List.length_cons, List.length_append, show i + (M.length + 1) + K.length = i + (M.length + K.length + 1) by omega]
/-- What is read is a forest. -/
theorem forest_read {l : List UInt8} {ts : List S.Tok} {f : List X.N} (h : S.run resv .idle l 0 = (ts, 0, 0)) (hf : X.Sq ts f) : forestB (f.map toNd) = true := by
  have hk : ∀ t ∈ ts, 1 ≤ t.kind ∧ t.kind ≤ 10 := by
    intro t ht
    have := S.run_okL resv l .idle 0 trivial t (by rw [h]; exact ht)
    exact ⟨this.2.1, this.2.2.1⟩
  have := fo_sq hf hk [] 0 f.length [] (by omega)
  unfold forestB
  rw [List.append_nil] at this
  rw [List.length_map, this]
  rfl
end Go.Proofs.YtjbalgjdcdmjjaaDoor
