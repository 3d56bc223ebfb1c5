/-
  The document's Faults and DCompare (arbiterref2).
-/
import Derived.Test.YtlepicdpelkmlaaGreatDoorRefT
import Derived.Test.YtlepicdpelkmlaaGreatDoorLinIn
namespace Go.Proofs.YtlepicdpelkmlaaGreatDoor
open Go.RowKit
set_option linter.unusedVariables false
/-- Faults at X: was there a text that is no number? -/
def FX (w : World) (X : Nat) (t : Bool) : Prop := w.heap[X]? = some (.cells #[.bool t, .bool false, .bool false] 53 (0, 0))
theorem FX.cells {w : World} {X : Nat} {t : Bool} (h : FX w X t) : w.cell? ⟨X, 0, none⟩ = some (.bool t) ∧ w.cell? ⟨X, 1, none⟩ = some (.bool false) ∧ w.cell? ⟨X, 2, none⟩ = some (.bool false) ∧ w.frozen? ⟨X, 0, none⟩ = false := by
  obtain ⟨a, b, c, d, -⟩ := box3 h
  exact ⟨a, b, c, d⟩
theorem FX.below {w w' : World} {X : Nat} {t : Bool} (h : FX w X t) (q : Below w.heap.size w w') : FX w' X t := (q.block X ((Array.getElem?_eq_some_iff.1 h).1)).trans h
/-- What a call leaves as it was where it may write at X. -/
def Nb (X : Nat) (w w' : World) : Prop := w.grownBy w' (some X)
theorem Nb.of {X : Nat} {w w' : World} (q : Below w.heap.size w w') : Nb X w w' := ⟨q.os, q.tape, q.output, q.size, fun k hk _ => q.block k hk⟩
theorem Nb.trans {X : Nat} {a b c : World} (h : Nb X a b) (k : Nb X b c) : Nb X a c := grown_trans h k
theorem box2 {w : World} {g : Nat} {x y : Value} {t : TypeId} (h : w.heap[g]? = some (.cells #[x, y] t (0, 0))) : w.cell? ⟨g, 0, none⟩ = some x ∧ w.cell? ⟨g, 1, none⟩ = some y :=
  ⟨(cell_of_row _ _ _ _ _ _ h).trans rfl, (cell_of_row _ _ _ _ _ _ h).trans rfl⟩
set_option maxRecDepth 100000 in
set_option maxHeartbeats 4000000 in
theorem fNum (w : World) (X : Nat) (t : Bool) (h : FX w X t) (s : ByteArray) (hs : s.size ≤ 1073741824) :
    Calls Tryz.prog 29 #[.pointer (some ⟨X, 0, none⟩), .string s] w fun e w' => e = .returned (.tuple #[]) ∧ FX w' X (t || !canB s.data.toList) ∧ Nb X w w' := by
  have q1 := hide (tCanon w s hs)
  have hx := hide h
  obtain ⟨ok, hok⟩ : ∃ o, canB s.data.toList = o := ⟨_, rfl⟩
  rw [hok] at q1 ⊢
  clear h hok
  cases ok
  · go_enter Tryz.func29, Tryz.ntmps29
    go_wp2_with (go_at_call 44; refine q1.out.mono ?_; rintro e w1 ⟨rfl, b1⟩; have h1 := hx.out.below b1; obtain ⟨c0, -, -, z0⟩ := h1.cells; replace h1 := hide h1; replace b1 := hide b1)
    go_end0
    refine ⟨rfl, ?_, (Nb.of b1.out).trans (grown_set _ _ _ _)⟩
    have := heap_setCell_same w1 X 0 _ _ (.bool true) h1.out
    rw [Bool.not_false, Bool.or_true]
    exact this
  · go_enter Tryz.func29, Tryz.ntmps29
    go_wp2_with (go_at_call 44; refine q1.out.mono ?_; rintro e w1 ⟨rfl, b1⟩; have h1 := hx.out.below b1; replace h1 := hide h1; replace b1 := hide b1)
    go_end0
    refine ⟨rfl, ?_, Nb.of b1.out⟩
    rw [Bool.not_true, Bool.or_false]
    exact h1.out
set_option maxRecDepth 100000 in
set_option maxHeartbeats 4000000 in
theorem fDelta (w : World) (X : Nat) (t : Bool) (h : FX w X t) (a b : ByteArray) (ha : a.size ≤ 1073741824) (hb : b.size ≤ 1073741824) :
    Calls Tryz.prog 15 #[.pointer (some ⟨X, 0, none⟩), .agg #[.string a, .string b]] w fun e w' => e = .returned (.tuple #[]) ∧ FX w' X (t || !(canB a.data.toList && canB b.data.toList)) ∧ Nb X w w' := by
  have hX : X < w.heap.size := (Array.getElem?_eq_some_iff.1 h).1
  have bA := alloc_below w (.cells #[.string a, .string b] 41)
  have q1 := hide (fNum _ X t (h.below bA) a ha)
  have ne : w.heap.size ≠ X := by omega
  have hn := heap_alloc_new w (.cells #[.string a, .string b] 41)
  obtain ⟨d0, e0⟩ := (show (w.alloc (.cells #[.string a, .string b] 41)).cell? ⟨w.heap.size, 0, none⟩ = some (.string a) ∧ (w.alloc (.cells #[.string a, .string b] 41)).cell? ⟨w.heap.size, 1, none⟩ = some (.string b) from ⟨(cell_of_row _ _ _ _ _ _ hn).trans rfl, (cell_of_row _ _ _ _ _ _ hn).trans rfl⟩)
  have N0 : Hid (Nb X w (w.alloc (.cells #[.string a, .string b] 41))) := Nb.of bA
  clear bA hn h
  go_enter Tryz.func15, Tryz.ntmps15
  go_wp2_with (first
    | (go_at_call_of 29 (Value.string a); refine q1.out.mono ?_; rintro e w1 ⟨rfl, h1, n1⟩; have e1 := n1.cell e0 (by simpa using ne); have q2 := hide (fNum w1 X _ h1 b hb); replace n1 := hide n1; clear h1)
    | (go_at_call 29; (with_reducible refine q2.out.mono ?_); rintro e w2 ⟨rfl, h2, n2⟩; replace h2 := hide h2; replace n2 := hide n2))
  go_end0
  refine ⟨rfl, ?_, (N0.out.trans n1.out).trans n2.out⟩
  have := h2.out
  rw [Bool.not_and, ← Bool.or_assoc]
  exact this
set_option maxRecDepth 100000 in
set_option maxHeartbeats 4000000 in
theorem fFirst (w : World) (X : Nat) (t : Bool) (h : FX w X t) :
    Calls Tryz.prog 16 #[.pointer (some ⟨X, 0, none⟩)] w fun e w' => e = .returned (.int .i64 (if t then 1 else 0)) ∧ Below w.heap.size w w' := by
  obtain ⟨c0, c1, c2, -⟩ := h.cells
  cases t
  · go_enter Tryz.func16, Tryz.ntmps16
    go_wp2
    go_ret
    exact ⟨rfl, Below.refl _ _⟩
  · go_enter Tryz.func16, Tryz.ntmps16
    go_wp2
    go_ret
    exact ⟨rfl, Below.refl _ _⟩
set_option maxRecDepth 100000 in
set_option maxHeartbeats 4000000 in
theorem dCompare (w : World) (a b c d : Rat) (za : Sz a) (zb : Sz b) (zc : Sz c) (zd : Sz d) (la : Lo a) (lb : Lo b) (lc : Lo c) (ld : Lo d) :
    Calls Tryz.prog 17 #[.agg #[.string (tB a), .string (tB b)], .agg #[.string (tB c), .string (tB d)]] w fun e w' => e = .returned (.int .i64 (if cmpQ a c = 0 then cmpQ b d else cmpQ a c)) ∧ Below w.heap.size w w' := by
  have bA := alloc_below w (.cells #[.string (tB a), .string (tB b)] 41)
  have bB := bA.then_below (alloc_below (w.alloc (.cells #[.string (tB a), .string (tB b)] 41)) (.cells #[.string (tB c), .string (tB d)] 41))
  have H1 := hide (heap_alloc_new w (.cells #[.string (tB a), .string (tB b)] 41))
  have H2 := hide (heap_alloc_new (w.alloc (.cells #[.string (tB a), .string (tB b)] 41)) (.cells #[.string (tB c), .string (tB d)] 41))
  have H1' := hide (((alloc_below (w.alloc (.cells #[.string (tB a), .string (tB b)] 41)) (.cells #[.string (tB c), .string (tB d)] 41)).block _ ((Array.getElem?_eq_some_iff.1 H1.out).1)).trans H1.out)
  rw [World.size_alloc] at H2
  have q1 := hide (tCmp ((w.alloc (.cells #[.string (tB a), .string (tB b)] 41)).alloc (.cells #[.string (tB c), .string (tB d)] 41)) a c za zc la lc)
  obtain ⟨x0, x1⟩ := box2 H1'.out
  obtain ⟨y0, y1⟩ := box2 H2.out
  have KS : Hid (∀ W, Below ((w.alloc (.cells #[.string (tB a), .string (tB b)] 41)).alloc (.cells #[.string (tB c), .string (tB d)] 41)).heap.size ((w.alloc (.cells #[.string (tB a), .string (tB b)] 41)).alloc (.cells #[.string (tB c), .string (tB d)] 41)) W → W.cell? ⟨w.heap.size, 1, none⟩ = some (.string (tB b)) ∧ W.cell? ⟨w.heap.size + 1, 1, none⟩ = some (.string (tB d))) := fun W q =>
    ⟨(q.cell (p := ⟨w.heap.size, 1, none⟩) (World.block_lt_of_cell? _ _ x1)).trans x1, (q.cell (p := ⟨w.heap.size + 1, 1, none⟩) (World.block_lt_of_cell? _ _ y1)).trans y1⟩
  replace bB := hide bB
  clear bA H1 H2 H1'
  by_cases h : cmpQ a c = 0
  · rw [if_pos h]
    rw [h] at q1
    go_enter Tryz.func17, Tryz.ntmps17
    go_wp2_with (first
      | (go_at_call_of 21 (Value.string (tB a)); refine q1.out.mono ?_; rintro e w1 ⟨rfl, b1⟩; obtain ⟨u1, u2⟩ := KS.out _ b1; have q2 := hide (tCmp w1 b d zb zd lb ld); replace b1 := hide b1; clear x0 x1 y0 y1)
      | (go_at_call 21; (with_reducible refine q2.out.mono ?_); rintro e w2 ⟨rfl, b2⟩; replace b2 := hide b2))
    go_ret
    exact ⟨rfl, (bB.out.then_below b1.out).then_below b2.out⟩
  · rw [if_neg h]
    have h1 : (cmpQ a c == 0) = false := by simpa using h
    have h2 : (cmpQ a c != 0) = true := by simpa using h
    go_enter Tryz.func17, Tryz.ntmps17
    go_wp2_with (go_at_call 21; refine q1.out.mono ?_; rintro e w1 ⟨rfl, b1⟩; replace b1 := hide b1; clear x0 x1 y0 y1)
    go_ret
    exact ⟨rfl, bB.out.then_below b1.out⟩
end Go.Proofs.YtlepicdpelkmlaaGreatDoor
