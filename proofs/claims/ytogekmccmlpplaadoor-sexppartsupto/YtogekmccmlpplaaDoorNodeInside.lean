/-
  The document's 'Inside': the places of what stands in a list.
-/
import Derived.Test.YtogekmccmlpplaaDoorNodeMath
import Derived.Maps.AppendAt
namespace Go.Proofs.YtogekmccmlpplaaDoor
open Go.RowKit
set_option linter.unusedVariables false
theorem OwnS.snoc {w : World} {B : Nat} {v : Value} {xs : List Int} {x : Int} (h : w.ownsRow B 3 1 v (xs.length + 1) (xs.map (Value.int .i64) ++ [.int .i64 x])) : OwnS w B v (xs ++ [x]) := by
  unfold OwnS
  simpa using h
theorem Nds.at_ {B : Nat} {w : World} {a : Option Addr} {n cap : Nat} {ns : List Nd} (h : Nds B w (.slice a n cap) ns) {j : Nat} (hj : j < ns.length) :
    ∃ b off, a = some ⟨b, off, none⟩ ∧ b < B ∧ w.cell? ⟨b, off + j * 5, none⟩ = some (.int .i64 (ns.getD j Nd.z).kind) ∧
      w.cell? ⟨b, off + j * 5 + 1, none⟩ = some (.int .i64 (ns.getD j Nd.z).pos) ∧
      w.cell? ⟨b, off + j * 5 + 2, none⟩ = some (.int .i64 (ns.getD j Nd.z).fin) ∧
      w.cell? ⟨b, off + j * 5 + 3, none⟩ = some (.int .i64 (ns.getD j Nd.z).size) ∧
      w.cell? ⟨b, off + j * 5 + 4, none⟩ = some (.string (ns.getD j Nd.z).text) := by
  obtain ⟨a', cap', e, h1, h2, h3, h4⟩ := h
  cases e
  obtain ⟨b, off, rfl, hb, hc⟩ := h4 (by intro e; rw [e] at hj; simp at hj)
  obtain ⟨c0, c1, c2, c3, c4⟩ := hc j hj
  exact ⟨b, off, rfl, hb, c0, c1, c2, c3, c4⟩
end Go.Proofs.YtogekmccmlpplaaDoor
