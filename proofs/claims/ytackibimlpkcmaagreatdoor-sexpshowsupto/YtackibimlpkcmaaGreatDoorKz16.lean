/- Laid together of: NodeInside, NodeStack. -/
import Derived.Test.YtackibimlpkcmaaGreatDoorKz15
import Derived.Maps.AppendAt
import Derived.WalkSmall
/- ==== NodeInside ==== -/
namespace Go.Proofs.YtackibimlpkcmaaGreatDoor
open Go.RowKit
set_option linter.unusedVariables false
theorem OwnS.snoc {w : World} {B : Nat} {v : Value} {xs : List Int} {x : Int} (h : w.ownsRow B 3 1 v (xs.length + 1) (xs.map (Value.int .i64) ++ [.int .i64 x])) : OwnS w B v (xs ++ [x]) := by
  unfold OwnS
  simpa using h
theorem Nds.at_ {B : Nat} {w : World} {a : Option Addr} {n cap : Nat} {ns : List Nd} (h : Nds B w (.slice a n cap) ns) {j : Nat} (hj : j < ns.length) :
    ∃ b off, a = some ⟨b, off, none⟩ ∧ b < B ∧ w.cell? ⟨b, off + j * 5, none⟩ = some (.int .i64 (ns.getD j Nd.z).kind) ∧
      w.cell? ⟨b, off + j * 5 + 1, none⟩ = some (.int .i64 (ns.getD j Nd.z).pos) ∧
      w.cell? ⟨b, off + j * 5 + 2, none⟩ = some (.int .i64 (ns.getD j Nd.z).fin) ∧
      w.cell? ⟨b, off + j * 5 + 3, none⟩ = some (.int .i64 (ns.getD j Nd.z).size) ∧
      w.cell? ⟨b, off + j * 5 + 4, none⟩ = some (.string (ns.getD j Nd.z).text) := by
  obtain ⟨a', cap', e, h1, h2, h3, h4⟩ := h
  cases e
  obtain ⟨b, off, rfl, hb, hc⟩ := h4 (by intro e; rw [e] at hj; simp at hj)
  obtain ⟨c0, c1, c2, c3, c4⟩ := hc j hj
  exact ⟨b, off, rfl, hb, c0, c1, c2, c3, c4⟩
end Go.Proofs.YtackibimlpkcmaaGreatDoor
/- ==== NodeStack ==== -/
namespace Go.Proofs.YtackibimlpkcmaaGreatDoor
open Go.RowKit
set_option linter.unusedVariables false
def lenOf : Value → Nat | .slice _ n _ => n | _ => 0
/-- The stack S (its top first) as it lies in memory. -/
def stk (S : List Nat) : List Int := (S.reverse).map (fun n : Nat => (n : Int))
theorem stk_len (S : List Nat) : (stk S).length = S.length := by simp [stk]
theorem stk_cons (a : Nat) (S : List Nat) : stk (a :: S) = stk S ++ [(a : Int)] := by simp [stk]
theorem stack_top {w : World} {B : Nat} {v : Value} {a : Nat} {T : List Nat} (h : OwnS w B v (stk (a :: T))) :
    ∃ g cap, v = .slice (some ⟨g, 0, none⟩) (T.length + 1) cap ∧ T.length + 1 ≤ cap ∧ cap ≤ 9223372036854775807 ∧ B ≤ g ∧ g < w.heap.size ∧
      w.cell? ⟨g, T.length, none⟩ = some (.int .i64 a) ∧ OwnS w B (.slice (some ⟨g, 0, none⟩) T.length cap) (stk T) := by
  have hr := h.row
  unfold OwnS at h
  rw [stk_len, List.length_cons] at h
  have h' := h
  obtain ⟨h1, h2⟩ := h
  rcases h2 with ⟨_, h0⟩ | ⟨g, cap, cur, rfl, hB, hg, hn, hm, hs, ht⟩
  · omega
  · refine ⟨g, cap, rfl, hn, by unfold maxLen at hm; omega, hB, (Array.getElem?_eq_some_iff.1 hg).1, ?_, ?_⟩
    · obtain ⟨ao, c, e, _, _, hc⟩ := hr
      rw [stk_len, List.length_cons] at e
      cases e
      obtain ⟨b, off, e, _, hc⟩ := hc (by rw [stk_cons]; simp)
      cases e
      have := hc T.length (by rw [stk_len, List.length_cons]; omega)
      rw [Nat.zero_add] at this
      rw [this, stk_cons]
      have e2 : (stk T ++ [(a : Int)]).getD T.length 0 = a := by
        rw [List.getD_eq_getElem?_getD, List.getElem?_append_right (by rw [stk_len]; exact Nat.le_refl _), stk_len]
        simp
      rw [e2]
    · rw [stk_cons, List.map_append] at h'
      have := ownsRow_pop (by rw [List.length_map, stk_len]; simp) h'
      unfold OwnS
      rw [stk_len]
      exact this
theorem ownsRow_below {w w' : World} {B : Nat} {e : TypeId} {size n : Nat} {v : Value} {xs : List Value} (h : w.ownsRow B e size v n xs) (b : Below w.heap.size w w') : w'.ownsRow B e size v n xs := by
  obtain ⟨h1, h2⟩ := h
  refine ⟨h1, ?_⟩
  rcases h2 with h2 | ⟨g, cap, cur, hv, hB, hg, hr⟩
  · exact .inl h2
  · exact .inr ⟨g, cap, cur, hv, hB, (b.block g (Array.getElem?_eq_some_iff.1 hg).1).trans hg, hr⟩
theorem OwnS.belowS {w w' : World} {B : Nat} {v : Value} {xs : List Int} (h : OwnS w B v xs) (b : Below w.heap.size w w') : OwnS w' B v xs := ownsRow_below h b
theorem thenB {B : Nat} {a w w' : World} (h : Below B a w) (b : Below w.heap.size w w') (hB : B ≤ w.heap.size) : Below B a w' := h.trans (b.mono hB)
theorem nd_drop_cons {ns : List Nd} {q : Nat} (h : q < ns.length) : ns.drop q = ns.getD q Nd.z :: ns.drop (q + 1) := by
  rw [List.drop_eq_getElem_cons h, List.getD_eq_getElem?_getD, List.getElem?_eq_getElem h]
  rfl
/-- What is known between two nodes. -/
def FoI (ns : List Nd) (q : Nat) (S : List Nat) : Prop :=
  fo (ns.drop q) q S = forestB ns ∧ (∀ e ∈ S, e ≤ ns.length) ∧ S.getLast? = some ns.length ∧ S.length ≤ q + 1
theorem FoI.start (ns : List Nd) : FoI ns 0 [ns.length] := ⟨rfl, by simp, rfl, by simp⟩
theorem FoI.fin {ns : List Nd} {S : List Nat} (h : FoI ns ns.length S) : forestB ns = true := by
  rw [← h.1, List.drop_length]; rfl
theorem FoI.top {ns : List Nd} {q : Nat} {S : List Nat} (h : FoI ns q S) : ∃ a T, S = a :: T ∧ a ≤ ns.length := by
  cases S with
  | nil => have := h.2.2.1; simp at this
  | cons a T => exact ⟨a, T, rfl, h.2.1 a (by simp)⟩
theorem FoI.pop {ns : List Nd} {q : Nat} {T : List Nat} (h : FoI ns q (q :: T)) (hq : q < ns.length) : FoI ns q T := by
  obtain ⟨h1, h2, h3, h4⟩ := h
  refine ⟨by rw [← h1, fo_pop], fun e he => h2 e (by simp [he]), ?_, by simp at h4; omega⟩
  cases T with
  | nil => simp at h3; omega
  | cons b T => rw [List.getLast?_cons_cons] at h3; exact h3
theorem FoI.no {ns : List Nd} {q a : Nat} {T : List Nat} (h : FoI ns q (a :: T)) (hq : q < ns.length) (ha : a ≠ q) (hk : ¬ (ns.getD q Nd.z).ok q a) : forestB ns = false := by
  rw [← h.1, nd_drop_cons hq, fo_no ha hk]
theorem FoI.list {ns : List Nd} {q a : Nat} {T : List Nat} (h : FoI ns q (a :: T)) (hq : q < ns.length) (ha : a ≠ q) (hk : (ns.getD q Nd.z).ok q a) (h1 : (ns.getD q Nd.z).kind = 1) :
    FoI ns (q + 1) ((q + (ns.getD q Nd.z).size.toNat) :: a :: T) := by
  obtain ⟨g1, g2, g3, g4⟩ := h
  have hs : 1 ≤ (ns.getD q Nd.z).size ∧ (ns.getD q Nd.z).size ≤ a - q := by
    rcases hk with ⟨_, _, h2, h3⟩ | ⟨h2, _⟩
    · exact ⟨h2, h3⟩
    · exact absurd h1 h2
  have ha2 := g2 a (by simp)
  refine ⟨by rw [← g1, nd_drop_cons hq, fo_open ha hk h1], ?_, by rw [List.getLast?_cons_cons]; exact g3, by simp only [List.length_cons] at g4 ⊢; omega⟩
  intro e he
  rcases List.mem_cons.1 he with rfl | he
  · omega
  · exact g2 e he
theorem FoI.atom {ns : List Nd} {q a : Nat} {T : List Nat} (h : FoI ns q (a :: T)) (hq : q < ns.length) (ha : a ≠ q) (hk : (ns.getD q Nd.z).ok q a) (h1 : (ns.getD q Nd.z).kind ≠ 1) :
    FoI ns (q + 1) (a :: T) := by
  obtain ⟨g1, g2, g3, g4⟩ := h
  exact ⟨by rw [← g1, nd_drop_cons hq, fo_atom ha hk h1], g2, g3, by omega⟩
theorem FoI.one {ns : List Nd} {q a : Nat} {T : List Nat} (h : FoI ns q (a :: T)) (hq : q < ns.length) (ha : a ≠ q) (hk : (ns.getD q Nd.z).ok q a) (h1 : (ns.getD q Nd.z).kind = 1) (h2 : (ns.getD q Nd.z).size = 1) :
    FoI ns (q + 1) (a :: T) := by
  have h3 := h.list hq ha hk h1
  obtain ⟨g1, g2, g3, g4⟩ := h
  obtain ⟨k1, k2, k3, k4⟩ := h3
  refine ⟨?_, g2, g3, by omega⟩
  rw [h2] at k1
  exact (fo_pop _ _ _).symm.trans k1
theorem ok_size {x : Nd} {q a : Nat} (h : x.ok q a) (ha : a ≠ q) : 1 ≤ x.size ∧ (x.kind = 1 → x.size ≤ (a : Int) - q) ∧ (x.kind ≠ 1 → x.size = 1) := by
  rcases h with ⟨h1, _, h2, h3⟩ | ⟨h1, _, _, h2⟩
  · exact ⟨h2, fun _ => h3, fun h => absurd h1 h⟩
  · exact ⟨by omega, fun h => absurd h h1, fun _ => h2⟩
end Go.Proofs.YtackibimlpkcmaaGreatDoor
