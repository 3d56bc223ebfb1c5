/-
  Package cnf: read, up to the clauses.
-/
import Derived.Test.YtkdalejceclanaaRdRefR
namespace Go.Proofs.Ytkdalejceclanaa
open Go.RowKit
set_option linter.unusedVariables false
/-- The first word of a list of words. -/
def wordAt (t : List UInt8) (l : List (Nat × Nat)) : List UInt8 := match l with
  | [] => []
  | x :: _ => RD.piece t x
theorem wordAt_len (t : List UInt8) (l : List (Nat × Nat)) : (wordAt t l).length ≤ t.length := by
  cases l with
  | nil => exact Nat.zero_le _
  | cons x r => unfold wordAt RD.piece; simp only [List.length_drop, List.length_take]; omega
theorem wordAt_drop {t : List UInt8} {L : List (Nat × Nat)} {k : Nat} (h : k < L.length) : wordAt t (L.drop k) = RD.piece t (L.getD k (0, 0)) := by
  rw [drop_cons h]; rfl
theorem wordAt_end {t : List UInt8} {L : List (Nat × Nat)} {k : Nat} (h : ¬ k < L.length) : wordAt t (L.drop k) = [] := by
  rw [List.drop_eq_nil_of_le (by omega)]; rfl
theorem okW0 (t : List UInt8) (L : List (Nat × Nat)) : RD.okAt t L 0 = decide (wordAt t (L.drop 0) = [112]) := by
  by_cases h : 0 < L.length
  · rw [RD.ok0 h, wordAt_drop h]
  · rw [RD.okAt_none (by omega) h, wordAt_end h]; rfl
theorem okW1 (t : List UInt8) (L : List (Nat × Nat)) : RD.okAt t L 1 = decide (wordAt t (L.drop 1) = [99, 110, 102]) := by
  by_cases h : 1 < L.length
  · rw [RD.ok1 h, wordAt_drop h]
  · rw [RD.okAt_none (by omega) h, wordAt_end h]; rfl
theorem okW2 (t : List UInt8) (L : List (Nat × Nat)) : RD.okAt t L 2 = (RD.num (wordAt t (L.drop 2)) && decide (RD.val (wordAt t (L.drop 2)) ≤ 1000000)) := by
  by_cases h : 2 < L.length
  · rw [RD.ok2 h, wordAt_drop h]
  · rw [RD.okAt_none (by omega) h, wordAt_end h]; rfl
theorem okW3 (t : List UInt8) (L : List (Nat × Nat)) : RD.okAt t L 3 = RD.num (wordAt t (L.drop 3)) := by
  by_cases h : 3 < L.length
  · rw [RD.ok3 h, wordAt_drop h]
  · rw [RD.okAt_none (by omega) h, wordAt_end h]; rfl
theorem valW2 (t : List UInt8) (L : List (Nat × Nat)) : RD.valAt t L 2 = RD.val (wordAt t (L.drop 2)) := by
  by_cases h : 2 < L.length
  · rw [RD.valAt_some h, wordAt_drop h]
  · unfold RD.valAt; rw [RD.word_none h, wordAt_end h]; rfl
/-- Word, by what is left of the text's words. -/
def WordPost (g : Nat) (s : ByteArray) (t : List UInt8) (l : List (Nat × Nat)) (w : World) (e : Ending) (w' : World) : Prop :=
  ∃ u n', e = .returned (.string u) ∧ u.data.toList = wordAt t l ∧ n' ≤ t.length ∧ RDR w' g s (RD.headAt t l) n' ∧ RD.ws t n' = l.tail ∧ KG g w w'
theorem word_step (w : World) (g : Nat) (s : ByteArray) (t : List UInt8) (a n : Nat) (l : List (Nat × Nat)) (hs : s.data.toList = t) (R : RDR w g s a n) (hl : t.length ≤ 140737488355328) (hn : n ≤ t.length) (hw : RD.ws t n = l) :
    Calls Try.prog 78 #[.pointer (some ⟨g, 0, none⟩)] w (WordPost g s t l w) := by
  refine (word_calls w g s t a n hs R hl hn).mono fun e w' => ?_
  rintro ⟨rfl, R', K⟩
  subst hw
  by_cases h : RD.skip t n < t.length
  · refine ⟨_, _, rfl, ?_, RD.we_le t (Nat.le_of_lt h), ?_, ?_, K⟩
    · rw [RD.ws_cons h]
      exact extract_piece s t hs (RD.skip t n, RD.we t (RD.skip t n))
    · rw [RD.ws_cons h]
      exact R'
    · rw [RD.ws_cons h]
      rfl
  · have hA := RD.skip_le t hn
    have hAe : RD.skip t n = t.length := by omega
    have hE : RD.we t (RD.skip t n) = t.length := by rw [hAe, RD.we_end t (Nat.le_refl _)]
    refine ⟨_, _, rfl, ?_, Nat.le_of_eq hE, ?_, ?_, K⟩
    · rw [RD.ws_nil h]
      refine (extract_piece s t hs (RD.skip t n, RD.we t (RD.skip t n))).trans ?_
      refine List.eq_nil_of_length_eq_zero ?_
      rw [piece_len (Nat.le_of_eq (by rw [hE, hAe])) (Nat.le_of_eq hE), hE, hAe, Nat.sub_self]
    · rw [RD.ws_nil h]
      rw [hAe] at R'
      rw [hAe]
      exact R'
    · rw [RD.ws_nil h, RD.ws_end (Nat.le_of_eq hE.symm)]
      rfl
/-- What the program's read tells. -/
def PPost (A : Ans) (g : Nat) (s : ByteArray) (w : World) (e : Ending) (w' : World) : Prop :=
  KG g w w' ∧ (A.1 = true → ∃ vc vt vals, e = .returned (.tuple #[.agg #[.int .i64 (A.2.1 : Int), vc, vt], .bool true]) ∧ CV w' w.heap.size vc vals A.2.2.1 ∧ w'.ownsRow w.heap.size 3 1 vt A.2.2.2.1.length (rowI A.2.2.2.1) ∧ ∀ i, i < A.2.2.1.length → (vals.getD i nilS).ownBlock = none ∨ (vals.getD i nilS).ownBlock ≠ vt.ownBlock) ∧
    (A.1 = false → ∃ (x : Int) (ya : Option Addr) (yn yc : Nat) (za : Option Addr) (zn zc n : Nat), e = .returned (.tuple #[.agg #[.int .i64 x, .slice ya yn yc, .slice za zn zc], .bool false]) ∧ RDR w' g s A.2.2.2.2 n)
theorem ppost_no {A : Ans} {g : Nat} {s : ByteArray} {w w' : World} {e : Ending} {p n : Nat} {x : Int} {ya za : Option Addr} {yn yc zn zc : Nat} (k : KG g w w') (h : A = (false, 0, [], [], p)) (R : RDR w' g s p n) (he : e = .returned (.tuple #[.agg #[.int .i64 x, .slice ya yn yc, .slice za zn zc], .bool false])) : PPost A g s w e w' := by
  subst h
  exact ⟨k, fun (c : false = true) => Bool.noConfusion c, fun _ => ⟨x, ya, yn, yc, za, zn, zc, n, he, R⟩⟩
theorem ppost_yes {A : Ans} {g : Nat} {s : ByteArray} {w w' : World} {e : Ending} {vars : Nat} {cls : List (List Int)} {tops : List Int} {vc vt : Value} {vals : List Value} (k : KG g w w') (h : A = (true, vars, cls, tops, 0)) (hc : CV w' w.heap.size vc vals cls) (ht : w'.ownsRow w.heap.size 3 1 vt tops.length (rowI tops))
    (hn : ∀ i, i < cls.length → (vals.getD i nilS).ownBlock = none ∨ (vals.getD i nilS).ownBlock ≠ vt.ownBlock) (he : e = .returned (.tuple #[.agg #[.int .i64 (vars : Int), vc, vt], .bool true])) : PPost A g s w e w' := by
  subst h
  exact ⟨k, fun _ => ⟨vc, vt, vals, he, hc, ht, hn⟩, fun (c : true = false) => Bool.noConfusion c⟩
theorem KG.setNew {g h i : Nat} {a b : World} (k : KG g a b) (hh : a.heap.size ≤ h) (v : Value) : KG g a (b.setCell ⟨h, i, none⟩ v) := by
  refine ⟨k.os, k.tape, k.output, ?_, fun j hj hg => ?_⟩
  · have := k.size
    simp [World.setCell]
    exact this
  · exact (heap_setCell_other b ⟨h, i, none⟩ j v (by show j ≠ h; omega)).trans (k.block j hj hg)
theorem RDR.far {w : World} {g h i : Nat} {s : ByteArray} {a n : Nat} (R : RDR w g s a n) (hh : g ≠ h) (v : Value) : RDR (w.setCell ⟨h, i, none⟩ v) g s a n := (heap_setCell_other w ⟨h, i, none⟩ g v hh).trans R
theorem B3.kg {g k : Nat} {w w' : World} {a b c : Value} (h : B3 w k a b c) (q : KG g w w') (hk : k ≠ g) : B3 w' k a b c := (q.block k h.lt hk).trans h
end Go.Proofs.Ytkdalejceclanaa
