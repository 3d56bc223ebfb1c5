/-
  Boxes of four and six cells; pairs of numbers.
-/
import Derived.Test.YtebnjolkolobhaaGreatDoorRatStrip
import Derived.Test.YtebnjolkolobhaaGreatDoorAll8
/- ==== SimBox ==== -/
namespace Go.Proofs.YtebnjolkolobhaaGreatDoor
open Go.RowKit
set_option linter.unusedVariables false
theorem box4 {w : World} {g : Nat} {a b c d : Value} {t : TypeId} (h : w.heap[g]? = some (.cells #[a, b, c, d] t (0, 0))) :
    (w.cell? ⟨g, 0, none⟩ = some a ∧ w.cell? ⟨g, 1, none⟩ = some b ∧ w.cell? ⟨g, 2, none⟩ = some c ∧ w.cell? ⟨g, 3, none⟩ = some d) ∧
    (w.frozen? ⟨g, 0, none⟩ = false ∧ w.frozen? ⟨g, 1, none⟩ = false ∧ w.frozen? ⟨g, 2, none⟩ = false ∧ w.frozen? ⟨g, 3, none⟩ = false) := by
  refine ⟨⟨(cell_of_row w g 0 _ t (0, 0) h).trans rfl, (cell_of_row w g 1 _ t (0, 0) h).trans rfl, (cell_of_row w g 2 _ t (0, 0) h).trans rfl, (cell_of_row w g 3 _ t (0, 0) h).trans rfl⟩, ?_, ?_, ?_, ?_⟩ <;> simp [World.frozen?, h]
theorem box6 {w : World} {g : Nat} {a b c d e f : Value} {t : TypeId} (h : w.heap[g]? = some (.cells #[a, b, c, d, e, f] t (0, 0))) :
    (w.cell? ⟨g, 0, none⟩ = some a ∧ w.cell? ⟨g, 1, none⟩ = some b ∧ w.cell? ⟨g, 2, none⟩ = some c ∧ w.cell? ⟨g, 3, none⟩ = some d ∧ w.cell? ⟨g, 4, none⟩ = some e ∧ w.cell? ⟨g, 5, none⟩ = some f) ∧
    (w.frozen? ⟨g, 0, none⟩ = false ∧ w.frozen? ⟨g, 1, none⟩ = false ∧ w.frozen? ⟨g, 2, none⟩ = false ∧ w.frozen? ⟨g, 3, none⟩ = false ∧ w.frozen? ⟨g, 4, none⟩ = false ∧ w.frozen? ⟨g, 5, none⟩ = false) := by
  refine ⟨⟨(cell_of_row w g 0 _ t (0, 0) h).trans rfl, (cell_of_row w g 1 _ t (0, 0) h).trans rfl, (cell_of_row w g 2 _ t (0, 0) h).trans rfl, (cell_of_row w g 3 _ t (0, 0) h).trans rfl, (cell_of_row w g 4 _ t (0, 0) h).trans rfl, (cell_of_row w g 5 _ t (0, 0) h).trans rfl⟩, ?_, ?_, ?_, ?_, ?_, ?_⟩ <;> simp [World.frozen?, h]
theorem box4_grown (w : World) (g : Nat) (a b c d : Value) : w.grownBy ((((w.setCell ⟨g, 0, none⟩ a).setCell ⟨g, 1, none⟩ b).setCell ⟨g, 2, none⟩ c).setCell ⟨g, 3, none⟩ d) (some g) :=
  grown_trans (grown_trans (grown_trans (grown_set _ _ _ _) (grown_set _ _ _ _)) (grown_set _ _ _ _)) (grown_set _ _ _ _)
theorem box4_store {w : World} {g : Nat} {x y z u : Value} {t : TypeId} (h : w.heap[g]? = some (.cells #[x, y, z, u] t (0, 0))) (a b c d : Value) : ((((w.setCell ⟨g, 0, none⟩ a).setCell ⟨g, 1, none⟩ b).setCell ⟨g, 2, none⟩ c).setCell ⟨g, 3, none⟩ d).heap[g]? = some (.cells #[a, b, c, d] t (0, 0)) := by
  simp only [World.setCell, Array.getElem?_modify, if_pos, h, Option.map_some]
  simp
theorem nopair4 (x y : Int) (a b : Option Addr) (k c l d : Nat) : NoPair #[.int .u64 x, .slice a k c, .int .u64 y, .slice b l d] := by
  intro j u v h1 h2
  match j with
  | 0 => simp at h2
  | 1 => simp at h1
  | 2 => simp at h2
  | 3 => simp at h1
  | k + 4 => simp at h1
/-- A pair of numbers. -/
def PairD (w : World) (v : Value) (n d : Nat) : Prop :=
  ∃ (x1 : Int) (x2 : Option Addr) (x3 x4 : Nat) (y1 : Int) (y2 : Option Addr) (y3 y4 : Nat), v = .agg #[.int .u64 x1, .slice x2 x3 x4, .int .u64 y1, .slice y2 y3 y4] ∧
    Den w (.agg #[.int .u64 x1, .slice x2 x3 x4]) n ∧ Den w (.agg #[.int .u64 y1, .slice y2 y3 y4]) d
theorem PairD.below {w w' : World} {v : Value} {n d : Nat} (h : PairD w v n d) (b : Below w.heap.size w w') : PairD w' v n d := by
  obtain ⟨x1, x2, x3, x4, y1, y2, y3, y4, rfl, h1, h2⟩ := h
  exact ⟨x1, x2, x3, x4, y1, y2, y3, y4, rfl, h1.below b, h2.below b⟩
theorem alloc2_facts (w : World) (o1 o2 : Obj) : ((w.alloc o1).alloc o2).heap[w.heap.size]? = some o1 ∧ ((w.alloc o1).alloc o2).heap[w.heap.size + 1]? = some o2 ∧ Below w.heap.size w ((w.alloc o1).alloc o2) :=
  ⟨(two_new w o1 o2).1, (two_new w o1 o2).2.1, alloc2_below w o1 o2⟩
end Go.Proofs.YtebnjolkolobhaaGreatDoor
