/-
  Clauses in memory: a row of slices, each a row of its own, no two in one block.
-/
import Derived.Test.YtkdalejceclanaaRdLits
import Derived.Maps.AppendAt
namespace Go.Proofs.Ytkdalejceclanaa
open Go.RowKit
set_option linter.unusedVariables false
theorem apart_types {w : World} {b1 b2 s1 s2 n1 n2 : Nat} {e1 e2 : TypeId} {v1 v2 : Value} {xs ys : List Value} (h1 : w.ownsRow b1 e1 s1 v1 n1 xs) (h2 : w.ownsRow b2 e2 s2 v2 n2 ys) (ne : e1 ≠ e2) : v1.ownBlock = none ∨ v1.ownBlock ≠ v2.ownBlock := by
  rcases h1.2 with ⟨rfl, -⟩ | ⟨g, cap, cur, rfl, -, hg, -⟩
  · exact .inl rfl
  · refine .inr (fun c => ?_)
    rcases h2.2 with ⟨rfl, -⟩ | ⟨g', cap', cur', rfl, -, hg', -⟩
    · cases c
    · simp only [Value.ownBlock, Option.some.injEq] at c
      subst c
      rw [hg] at hg'
      cases hg'
      exact ne rfl
abbrev rowI (l : List Int) : List Value := l.map (Value.int .i64)
abbrev nilS : Value := .slice none 0 0
/-- The slice v holds the clauses cls, as the slices vals, all of it made from B on. -/
def CV (w : World) (B : Nat) (v : Value) (vals : List Value) (cls : List (List Int)) : Prop :=
  vals.length = cls.length ∧ w.ownsRow B 23 1 v cls.length vals ∧ (∀ i, i < cls.length → w.ownsRow B 3 1 (vals.getD i nilS) (cls.getD i []).length (rowI (cls.getD i []))) ∧
    ∀ i j, i < j → j < cls.length → (vals.getD i nilS).ownBlock = none ∨ (vals.getD i nilS).ownBlock ≠ (vals.getD j nilS).ownBlock
theorem CV.nil (w : World) (B : Nat) : CV w B nilS [] [] := ⟨rfl, ⟨rfl, .inl ⟨rfl, rfl⟩⟩, fun i h => absurd h (Nat.not_lt_zero _), fun i j _ h => absurd h (Nat.not_lt_zero _)⟩
theorem CV.kept {w w' : World} {B : Nat} {v : Value} {vals : List Value} {cls : List (List Int)} (h : CV w B v vals cls) (k : ∀ {n : Nat} {e : TypeId} {u : Value} {xs : List Value}, w.ownsRow B e 1 u n xs → w'.ownsRow B e 1 u n xs) : CV w' B v vals cls := by
  obtain ⟨h0, h1, h2, h3⟩ := h
  exact ⟨h0, k h1, fun i hi => k (h2 i hi), h3⟩
theorem CV.kg {g B : Nat} {w w' : World} {v : Value} {vals : List Value} {cls : List (List Int)} (h : CV w B v vals cls) (k : KG g w w') (hg : g < B) : CV w' B v vals cls := h.kept (fun o => k.row o hg)
theorem row_below {w w' : World} {base n size : Nat} {e : TypeId} {v : Value} {xs : List Value} (o : w.ownsRow base e size v n xs) (q : Below w.heap.size w w') : w'.ownsRow base e size v n xs := by
  obtain ⟨h1, h2⟩ := o
  refine ⟨h1, ?_⟩
  rcases h2 with h2 | ⟨g, cap, cur, h2, h3, h4, h5⟩
  · exact .inl h2
  · exact .inr ⟨g, cap, cur, h2, h3, (q.block g (Array.getElem?_eq_some_iff.1 h4).1).trans h4, h5⟩
theorem CV.below {B : Nat} {w w' : World} {v : Value} {vals : List Value} {cls : List (List Int)} (h : CV w B v vals cls) (q : Below w.heap.size w w') : CV w' B v vals cls := h.kept (fun o => row_below o q)
theorem CV.slice {B : Nat} {w : World} {v : Value} {vals : List Value} {cls : List (List Int)} (h : CV w B v vals cls) : ∃ a c, v = .slice a cls.length c := by
  rcases h.2.1.2 with ⟨e, e2⟩ | ⟨g, cap, cur, e, -⟩
  · exact ⟨none, 0, by rw [e, e2]⟩
  · exact ⟨_, _, e⟩
theorem row_low {w : World} {b0 B n size : Nat} {e : TypeId} {v : Value} {xs : List Value} (o : w.ownsRow b0 e size v n xs) (h : B ≤ b0) : w.ownsRow B e size v n xs := by
  obtain ⟨a, b⟩ := o
  refine ⟨a, ?_⟩
  rcases b with b | ⟨g, cap, cur, b1, b2, b3⟩
  · exact .inl b
  · exact .inr ⟨g, cap, cur, b1, Nat.le_trans h b2, b3⟩
/-- One clause more: its row was made behind all that was there. -/
theorem CV.push {B b0 : Nat} {w w1 w2 : World} {v v' u : Value} {vals : List Value} {cls : List (List Int)} {l : List Int} (h : CV w B v vals cls) (hb : w.heap.size ≤ b0) (h1 : CV w1 B v vals cls) (hB : B ≤ b0)
    (hu : w1.ownsRow b0 3 1 u l.length (rowI l)) (ho : w2.ownsRow B 23 1 v' (cls.length + 1) (vals ++ [u])) (hg : (w1.alloc (.cells #[u] 23)).grownBy w2 v.ownBlock) : CV w2 B v' (vals ++ [u]) (cls ++ [l]) := by
  have al : Below w1.heap.size w1 (w1.alloc (.cells #[u] 23)) := (Below.refl _ w1).alloc (Nat.le_refl _) _
  have ne : (3 : TypeId) ≠ 23 := by decide
  have keep : ∀ {n : Nat} {x : Value} {xs : List Value}, w1.ownsRow B 3 1 x n xs → w2.ownsRow B 3 1 x n xs := fun o =>
    (row_below o al).kept hg (apart_types (row_below o al) (row_below h1.2.1 al) ne)
  have at1 : ∀ i, i < cls.length → (vals ++ [u]).getD i nilS = vals.getD i nilS ∧ (cls ++ [l]).getD i [] = cls.getD i [] := fun i hi => by
    constructor
    · rw [List.getD_eq_getElem?_getD, List.getD_eq_getElem?_getD, List.getElem?_append_left (by rw [h.1]; exact hi)]
    · rw [List.getD_eq_getElem?_getD, List.getD_eq_getElem?_getD, List.getElem?_append_left hi]
  have at2 : (vals ++ [u]).getD cls.length nilS = u ∧ (cls ++ [l]).getD cls.length [] = l := by
    constructor
    · rw [List.getD_eq_getElem?_getD, List.getElem?_append_right (by rw [h.1]; exact Nat.le_refl _), h.1, Nat.sub_self]; rfl
    · rw [List.getD_eq_getElem?_getD, List.getElem?_append_right (Nat.le_refl _), Nat.sub_self]; rfl
  refine ⟨by rw [List.length_append, List.length_append, h.1]; rfl, by rw [List.length_append]; exact ho, fun i hi => ?_, fun i j hij hj => ?_⟩
  · rw [List.length_append] at hi
    rcases Nat.lt_or_ge i cls.length with c | c
    · rw [(at1 i c).1, (at1 i c).2]
      exact keep (h1.2.2.1 i c)
    · obtain rfl : i = cls.length := by simp at hi; omega
      rw [at2.1, at2.2]
      exact keep (row_low hu hB)
  · rw [List.length_append] at hj
    rcases Nat.lt_or_ge j cls.length with c | c
    · rw [(at1 i (by omega)).1, (at1 j c).1]
      exact h1.2.2.2 i j hij c
    · obtain rfl : j = cls.length := by simp at hj; omega
      rw [at2.1, (at1 i hij).1]
      cases e : (vals.getD i nilS).ownBlock with
      | none => exact .inl rfl
      | some k =>
        refine .inr (fun c' => ?_)
        have a := (h.2.2.1 i hij).lt k e
        have b := hu.lt k c'.symm
        omega
end Go.Proofs.Ytkdalejceclanaa
