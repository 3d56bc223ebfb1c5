/-
  A whole text of clauses, in plain words: what both sides' Read answer (readW).
-/
import Derived.Test.YtkdalejceclanaaRdMath
namespace Go.Proofs.Ytkdalejceclanaa.RD
set_option linter.unusedVariables false
def PW (t : List UInt8) (vars : Nat) : Nat × Nat → Option Int := fun x => lit (piece t x) vars
/-- The word of that number; none: there is none. -/
def word? (t : List UInt8) (L : List (Nat × Nat)) (i : Nat) : Option (List UInt8) := (L[i]?).map (piece t)
/-- Do the header's words stand? -/
def head0 (t : List UInt8) (L : List (Nat × Nat)) : Bool := decide (word? t L 0 = some [112])
def head1 (t : List UInt8) (L : List (Nat × Nat)) : Bool := decide (word? t L 1 = some [99, 110, 102])
def numAt (t : List UInt8) (L : List (Nat × Nat)) (i : Nat) : Bool := match word? t L i with
  | some w => num w
  | none => false
def valAt (t : List UInt8) (L : List (Nat × Nat)) (i : Nat) : Nat := match word? t L i with
  | some w => val w
  | none => 0
def head2 (t : List UInt8) (L : List (Nat × Nat)) : Bool := numAt t L 2 && decide (valAt t L 2 ≤ 1000000)
def head3 (t : List UInt8) (L : List (Nat × Nat)) : Bool := numAt t L 3
/-- The first word of the header that cannot stand; 4: all stand. -/
def headNo (t : List UInt8) (L : List (Nat × Nat)) : Nat := if head0 t L then (if head1 t L then (if head2 t L then (if head3 t L then 4 else 3) else 2) else 1) else 0
/-- Behind a header of so many variables and clauses: whether it stands, the clauses, the tops, what is left from the word on that cannot stand. -/
def bodyW (t : List UInt8) (vars k : Nat) (r : List (Nat × Nat)) : Bool × List (List Int) × List Int × List (Nat × Nat) :=
  if (clsW (PW t vars) k r).1 then ((tailW t (PW t vars) (clsW (PW t vars) k r).2.2).1, (clsW (PW t vars) k r).2.1, (tailW t (PW t vars) (clsW (PW t vars) k r).2.2).2.1, (tailW t (PW t vars) (clsW (PW t vars) k r).2.2).2.2)
  else (false, [], [], (clsW (PW t vars) k r).2.2)
/-- Counts that no text is long enough for are all the same. -/
theorem bodyW_over (t : List UInt8) (vars j k : Nat) (r : List (Nat × Nat)) (hj : r.length < j) (hk : r.length < k) : (bodyW t vars j r).1 = false ∧ (bodyW t vars k r).1 = false ∧ (bodyW t vars j r).2.2.2 = (bodyW t vars k r).2.2.2 := by
  obtain ⟨h1, h2, h3⟩ := clsW_over (PW t vars) j k r hj hk
  unfold bodyW
  rw [h1, h2]
  exact ⟨rfl, rfl, h3⟩
theorem tailW_len (t : List UInt8) (P : Nat × Nat → Option Int) (l : List (Nat × Nat)) : (tailW t P l).2.2.length ≤ l.length := by
  cases l with
  | nil => exact Nat.le_refl _
  | cons x r =>
    unfold tailW
    have := (litsW_len P r).1
    simp only
    split
    · split
      · simp only [List.length_cons]; omega
      · simp only [List.length_cons]; omega
    · exact Nat.le_refl _
theorem clsW_len (P : Nat × Nat → Option Int) : ∀ (k : Nat) (l : List (Nat × Nat)), (clsW P k l).2.2.length ≤ l.length
  | 0, l => Nat.le_refl _
  | k + 1, l => by
    unfold clsW
    have h := (litsW_len P l).1
    split
    · exact Nat.le_trans (clsW_len P k _) h
    · exact h
end Go.Proofs.Ytkdalejceclanaa.RD
