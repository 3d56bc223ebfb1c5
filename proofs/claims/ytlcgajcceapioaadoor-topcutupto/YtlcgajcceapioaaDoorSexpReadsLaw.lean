/-
  The law SexpReads.
-/
import Derived.Test.YtlcgajcceapioaaDoorRefRead
namespace Go.Proofs.YtlcgajcceapioaaDoor
open Go.RowKit
set_option linter.unusedVariables false
theorem NRow.shape {w : World} {v : Value} {ns : List X.N} (h : NRow w v ns) : ∃ a cap, v = .slice a ns.length cap ∧ ns.length ≤ cap ∧ cap ≤ 9223372036854775807 := by
  obtain ⟨a, cap, rfl, h1, h2, h4⟩ := h
  exact ⟨a, cap, rfl, h1, h2⟩
theorem NRow.at_ {w : World} {a : Option Addr} {n cap : Nat} {ns : List X.N} (h : NRow w (.slice a n cap) ns) {j : Nat} (hj : j < ns.length) :
    ∃ b off, a = some ⟨b, off, none⟩ ∧ w.cell? ⟨b, off + j * 5, none⟩ = some (.int .i64 (ns.getD j X.n0).kind) ∧
      w.cell? ⟨b, off + j * 5 + 1, none⟩ = some (.int .i64 (ns.getD j X.n0).beg) ∧
      w.cell? ⟨b, off + j * 5 + 2, none⟩ = some (.int .i64 (ns.getD j X.n0).fin) ∧
      w.cell? ⟨b, off + j * 5 + 3, none⟩ = some (.int .i64 (ns.getD j X.n0).size) ∧
      w.cell? ⟨b, off + j * 5 + 4, none⟩ = some (.string ⟨(ns.getD j X.n0).text.toArray⟩) := by
  obtain ⟨a', cap', e, h1, h2, h4⟩ := h
  cases e
  obtain ⟨b, off, rfl, hc⟩ := h4 (by intro e; rw [e] at hj; simp at hj)
  exact ⟨b, off, rfl, hc j hj⟩
set_option maxRecDepth 100000 in
set_option maxHeartbeats 600000 in
theorem no_calls (w : World) (z : Int) : Calls Tryd.prog 23 #[.int .i64 z] w fun e w' => e = .returned (.int .i64 z) ∧ w' = w := by
  go_enter Tryd.func23, Tryd.ntmps23
  go_wp2
  go_ret
  exact ⟨rfl, rfl⟩
end Go.Proofs.YtlcgajcceapioaaDoor
