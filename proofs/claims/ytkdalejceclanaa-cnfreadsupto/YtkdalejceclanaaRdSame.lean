/-
  The law's comparing of lists of numbers.
-/
import Derived.Test.YtkdalejceclanaaRdRows
namespace Go.Proofs.Ytkdalejceclanaa
open Go.RowKit
set_option linter.unusedVariables false
/-- The slice v holds the numbers l. -/
def IV (w : World) (v : Value) (l : List Int) : Prop :=
  ∃ a cap, v = .slice a l.length cap ∧ l.length ≤ 35184372088832 ∧ ∀ j, j < l.length → ∃ g, a = some ⟨g, 0, none⟩ ∧ w.cell? ⟨g, j, none⟩ = some (.int .i64 (l.getD j 0))
theorem IV.shape {w : World} {v : Value} {l : List Int} (h : IV w v l) : ∃ a cap, v = .slice a l.length cap ∧ l.length ≤ 35184372088832 := by
  obtain ⟨a, cap, e, h1, -⟩ := h
  exact ⟨a, cap, e, h1⟩
theorem IV.at_ {w : World} {a : Option Addr} {n cap : Nat} {l : List Int} (h : IV w (.slice a n cap) l) {j : Nat} (hj : j < l.length) : ∃ g, a = some ⟨g, 0, none⟩ ∧ w.cell? ⟨g, j, none⟩ = some (.int .i64 (l.getD j 0)) := by
  obtain ⟨a', cap', e, -, h⟩ := h
  cases e
  exact h j hj
theorem iv_of {w : World} {B : Nat} {v : Value} {l : List Int} (h : w.ownsRow B 3 1 v l.length (rowI l)) (hl : l.length ≤ 35184372088832) : IV w v l := by
  rcases id h.2 with ⟨rfl, e⟩ | ⟨g, cap, cur, rfl, -⟩
  · exact ⟨none, 0, by rw [e], hl, fun j hj => by omega⟩
  · refine ⟨_, cap, rfl, hl, fun j hj => ⟨g, rfl, ?_⟩⟩
    have := h.cells (g := g) rfl j (.int .i64 (l.getD j 0)) (by
      rw [List.getElem?_map, List.getElem?_eq_getElem hj, List.getD_eq_getElem?_getD, List.getElem?_eq_getElem hj]
      rfl)
    rw [Addr.add_lit, Nat.zero_add] at this
    exact this
set_option maxRecDepth 100000 in
set_option maxHeartbeats 4000000 in
theorem rsameInts_calls (w : World) (va vb : Value) (l : List Int) (ha : IV w va l) (hb : IV w vb l) : Calls Try.prog 54 #[va, vb] w fun e w' => e = .returned (.bool true) ∧ ∃ m, w' = w.drewN m := by
  obtain ⟨a, ca, rfl, hl⟩ := ha.shape
  obtain ⟨b, cb, rfl, -⟩ := hb.shape
  replace ha := hide ha
  replace hb := hide hb
  go_enter Try.func54, Try.ntmps54
  go_wp2_with fail
  go_loopw [5] (fun i wr => ∃ j : Nat, i = .int .i64 (j : Int) ∧ j ≤ l.length ∧ Hid (∃ m, wr = w.drewN m)) (fun i _ => l.length - (intOf i).toNat)
  case atStart => exact ⟨0, rfl, Nat.zero_le _, ⟨0, rfl⟩⟩
  case round =>
    obtain ⟨j, rfl, hj, HW⟩ := hrel
    have HWn : Hid (∀ m', ∃ m, wr.drewN m' = w.drewN m) := by
      intro m'
      obtain ⟨m, e⟩ := HW.out
      exact ⟨m + m', by rw [e]; exact World.drewN_drewN _ _ _⟩
    by_cases hlt : j < l.length
    · obtain ⟨ga, rfl, c1⟩ := ha.out.at_ hlt
      obtain ⟨gb, rfl, c2⟩ := hb.out.at_ hlt
      have c1 : wr.cell? ⟨ga, j, none⟩ = some (.int .i64 (l.getD j 0)) := by
        obtain ⟨m, e⟩ := HW.out
        rw [e]
        exact c1
      have c2 : wr.cell? ⟨gb, j, none⟩ = some (.int .i64 (l.getD j 0)) := by
        obtain ⟨m, e⟩ := HW.out
        rw [e]
        exact c2
      generalize l.getD j 0 = x at *
      have g1 : (j : Int) < (l.length : Int) := by omega
      go_wp2_with fail
      go_quiet (fail)
      go_wp2
      go_roundw
      case rel => exact ⟨j + 1, by go_num, by omega, HWn.out _⟩
      case measure => simp [intOf]; omega
    · obtain rfl : j = l.length := by omega
      clear hlt hj
      go_wp2
      go_ret
      exact ⟨rfl, HW.out⟩
end Go.Proofs.Ytkdalejceclanaa
