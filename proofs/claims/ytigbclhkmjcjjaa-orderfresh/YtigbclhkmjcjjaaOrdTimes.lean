/-
  A list of steps that came in; how often a step is played.
-/
import Derived.Test.YtigbclhkmjcjjaaOrdFit
namespace Go.Proofs.Ytigbclhkmjcjjaa
open Go.RowKit
set_option linter.unusedVariables false
structure POp where
  kind : Int
  sec : Bool
  n : Int
  up : Bool
  times : Int
def POp.z : POp := ⟨0, false, 0, false, 0⟩
def POp.cells (x : POp) : List Value := [.int .i64 x.kind, .bool x.sec, .int .i64 x.n, .bool x.up, .int .i64 x.times]
def POp.val (x : POp) : Value := .agg #[.int .i64 x.kind, .bool x.sec, .int .i64 x.n, .bool x.up, .int .i64 x.times]
def POp.count (x : POp) : Nat := if x.times < 1 then 1 else if 1000 < x.times then 1000 else x.times.toNat
theorem POp.count_le (x : POp) : x.count ≤ 1000 := by
  unfold POp.count
  split
  · omega
  · split <;> omega
/-- A list of steps. -/
def Pops (B : Nat) (w : World) (v : Value) (l : List POp) : Prop :=
  ∃ a cap, v = .slice a l.length cap ∧ l.length ≤ 140737488355328 ∧ (l ≠ [] → ∃ b off, a = some ⟨b, off, none⟩ ∧ b < B ∧ ∀ j, j < l.length →
    w.cell? ⟨b, off + j * 5, none⟩ = some (.int .i64 (l.getD j POp.z).kind) ∧ w.cell? ⟨b, off + j * 5 + 1, none⟩ = some (.bool (l.getD j POp.z).sec) ∧ w.cell? ⟨b, off + j * 5 + 2, none⟩ = some (.int .i64 (l.getD j POp.z).n) ∧
      w.cell? ⟨b, off + j * 5 + 3, none⟩ = some (.bool (l.getD j POp.z).up) ∧ w.cell? ⟨b, off + j * 5 + 4, none⟩ = some (.int .i64 (l.getD j POp.z).times))
theorem Pops.below {B : Nat} {w w' : World} {v : Value} {l : List POp} (h : Pops B w v l) (q : Below B w w') : Pops B w' v l := by
  obtain ⟨a, cap, rfl, h1, h2⟩ := h
  refine ⟨a, cap, rfl, h1, fun hl => ?_⟩
  obtain ⟨b, off, rfl, hb, hc⟩ := h2 hl
  refine ⟨b, off, rfl, hb, fun j hj => ?_⟩
  obtain ⟨c0, c1, c2, c3, c4⟩ := hc j hj
  exact ⟨(q.cell (show b < B from hb)).trans c0, (q.cell (show b < B from hb)).trans c1, (q.cell (show b < B from hb)).trans c2, (q.cell (show b < B from hb)).trans c3, (q.cell (show b < B from hb)).trans c4⟩
set_option maxHeartbeats 1600000 in
theorem times_calls (w : World) (x : POp) : Calls Try.prog 21 #[x.val] w fun e w' => e = .returned (.int .i64 (x.count : Nat)) ∧ Chg [] w w' := by
  obtain ⟨k, s, n, u, t⟩ := x
  have C : Chg [] w (w.alloc (.cells #[.int .i64 k, .bool s, .int .i64 n, .bool u, .int .i64 t] 45)) := (Chg.refl _ w).alloc _
  replace C := hide C
  have ec : Hid (POp.count ⟨k, s, n, u, t⟩ = if t < 1 then 1 else if 1000 < t then 1000 else t.toNat) := rfl
  unfold POp.val
  simp only
  have h4 : (w.alloc (.cells #[.int .i64 k, .bool s, .int .i64 n, .bool u, .int .i64 t] 45)).cell? ⟨w.heap.size, 4, none⟩ = some (.int .i64 t) := by
    rw [cell_of_row _ _ _ _ _ _ (heap_alloc_new w _)]
    rfl
  by_cases a1 : t < 1
  · go_enter Try.func21, Try.ntmps21
    go_wp2
    go_ret
    exact ⟨by rw [ec.out, if_pos (by omega)]; rfl, C.out⟩
  · by_cases a2 : 1000 < t
    · go_enter Try.func21, Try.ntmps21
      go_wp2
      go_ret
      exact ⟨by rw [ec.out, if_neg (by omega), if_pos (by omega)]; rfl, C.out⟩
    · go_enter Try.func21, Try.ntmps21
      go_wp2
      go_ret
      refine ⟨?_, C.out⟩
      rw [ec.out, if_neg (by omega), if_neg (by omega), Int.toNat_of_nonneg (by omega)]
      rfl
end Go.Proofs.Ytigbclhkmjcjjaa
