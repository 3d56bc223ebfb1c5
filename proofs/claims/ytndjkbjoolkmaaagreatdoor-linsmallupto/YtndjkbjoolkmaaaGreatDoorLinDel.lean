/-
  Package lin: which error comes first; delta numbers compared, and taken at a number; the law's own helpers.
-/
import Derived.Test.YtndjkbjoolkmaaaGreatDoorLinChk
namespace Go.Proofs.YtndjkbjoolkmaaaGreatDoor
open Go.RowKit
set_option linter.unusedVariables false
/-- Two zeros are searched for something else. -/
theorem index_no (w : World) (g : Nat) (v : Int) (hv : v ≠ 0) (c0 : w.cell? ⟨g, 0, none⟩ = some (.int .i64 0)) (c1 : w.cell? ⟨g, 1, none⟩ = some (.int .i64 0)) :
    Calls Tryz.prog 44 #[.slice (some ⟨g, 0, none⟩) 2 2, .int .i64 v] w fun e w' => e = .returned (.int .i64 (-1)) ∧ w' = w := by
  have cH : Hid (∀ k : Nat, k < 2 → w.cell? ⟨g, k, none⟩ = some (.int .i64 0)) := fun k hk => by
    rcases (by omega : k = 0 ∨ k = 1) with rfl | rfl
    · exact c0
    · exact c1
  clear c0 c1
  go_enter Tryz.func44, Tryz.ntmps44
  go_wp2
  go_loopw [8] (fun j wr => ∃ k : Nat, k ≤ 2 ∧ j = .int .i64 k ∧ wr = w) (fun j _ => 2 - (intOf j).toNat)
  case atStart => exact ⟨0, Nat.zero_le _, rfl, rfl⟩
  case round =>
    obtain ⟨k, hk, rfl, hw⟩ := hrel
    subst hw
    by_cases hlt : k < 2
    · have c := cH.out k hlt
      have i1 : (k : Int) < 2 := by omega
      go_wp2
      go_roundw
      case rel => exact ⟨k + 1, by omega, by go_num, trivial⟩
      case measure => simp [intOf]; omega
    · obtain rfl : k = 2 := by omega
      go_wp2
      go_ret
      exact ⟨rfl, rfl⟩
theorem contains_no (w : World) (g : Nat) (v : Int) (hv : v ≠ 0) (c0 : w.cell? ⟨g, 0, none⟩ = some (.int .i64 0)) (c1 : w.cell? ⟨g, 1, none⟩ = some (.int .i64 0)) :
    Calls Tryz.prog 28 #[.slice (some ⟨g, 0, none⟩) 2 2, .int .i64 v] w fun e w' => e = .returned (.bool false) ∧ w' = w := by
  have q := hide (index_no w g v hv c0 c1)
  clear c0 c1
  go_enter Tryz.func28, Tryz.ntmps28
  go_wp2_with fail
  refine q.out.mono ?_
  rintro e w1 ⟨rfl, hw⟩
  subst hw
  go_wp2
  go_ret
  exact ⟨rfl, rfl⟩
theorem arrErr : Tryz.prog.underlying 63 = some (.array 3 23) := by kernel_rfl
theorem ix_0 (W : World) : (Instr.index 63 (.agg #[.int .i64 1, .int .i64 4, .int .i64 6]) (.int .i64 0)).run Tryz.prog W = .ok (.int .i64 1) W := by simp [Instr.index, run_underlying arrErr, asIntOf, go_sem]
theorem ix_1 (W : World) : (Instr.index 63 (.agg #[.int .i64 1, .int .i64 4, .int .i64 6]) (.int .i64 1)).run Tryz.prog W = .ok (.int .i64 4) W := by simp [Instr.index, run_underlying arrErr, asIntOf, go_sem]
theorem ix_2 (W : World) : (Instr.index 63 (.agg #[.int .i64 1, .int .i64 4, .int .i64 6]) (.int .i64 2)).run Tryz.prog W = .ok (.int .i64 6) W := by simp [Instr.index, run_underlying arrErr, asIntOf, go_sem]
set_option maxRecDepth 100000 in
set_option maxHeartbeats 1600000 in
/-- Two calls that found nothing. -/
theorem first_no (w : World) (g : Nat) (c0 : w.cell? ⟨g, 0, none⟩ = some (.int .i64 0)) (c1 : w.cell? ⟨g, 1, none⟩ = some (.int .i64 0)) :
    Calls Tryz.prog 18 #[.slice (some ⟨g, 0, none⟩) 2 2] w fun e w' => e = .returned (.int .i64 0) ∧ w' = w := by
  have q := hide (fun v hv => contains_no w g v hv c0 c1)
  have i0 := ix_0
  have i1 := ix_1
  have i2 := ix_2
  clear c0 c1
  go_enter Tryz.func18, Tryz.ntmps18
  go_wp2
  go_loopw [6] (fun j wr => ∃ k : Nat, k ≤ 3 ∧ j = .int .i64 k ∧ wr = w) (fun j _ => 3 - (intOf j).toNat)
  case atStart => exact ⟨0, Nat.zero_le _, rfl, rfl⟩
  case round =>
    obtain ⟨k, hk, rfl, hw⟩ := hrel
    subst hw
    rcases (by omega : k = 0 ∨ k = 1 ∨ k = 2 ∨ k = 3) with rfl | rfl | rfl | rfl
    · go_wp2_with fail
      refine (q.out 1 (by decide)).mono ?_
      rintro e w1 ⟨rfl, hw⟩
      subst hw
      go_wp2
      go_roundw
      case rel => exact ⟨1, by omega, rfl, trivial⟩
      case measure => simp [intOf]
    · go_wp2_with fail
      refine (q.out 4 (by decide)).mono ?_
      rintro e w1 ⟨rfl, hw⟩
      subst hw
      go_wp2
      go_roundw
      case rel => exact ⟨2, by omega, rfl, trivial⟩
      case measure => simp [intOf]
    · go_wp2_with fail
      refine (q.out 6 (by decide)).mono ?_
      rintro e w1 ⟨rfl, hw⟩
      subst hw
      go_wp2
      go_roundw
      case rel => exact ⟨3, by omega, rfl, trivial⟩
      case measure => simp [intOf]
    · go_wp2
      go_ret
      exact ⟨rfl, rfl⟩
/-- How one delta number stands to another. -/
def cmpD (la lb ha hb : Rat) : Int := if cmpQ la ha = 0 then cmpQ lb hb else cmpQ la ha
set_option maxRecDepth 100000 in
set_option maxHeartbeats 4000000 in
theorem cmpDel_calls (w : World) (la lb ha hb : Rat) (z1 : Sz la) (z2 : Sz lb) (z3 : Sz ha) (z4 : Sz hb) (env : LEnv w) :
    Calls Tryz.prog 11 #[.agg #[.string (tB la), .string (tB lb)], .agg #[.string (tB ha), .string (tB hb)]] w fun e w' => e = .returned (.int .i64 (cmpD la lb ha hb)) ∧ Below w.heap.size w w' := by
  have q0 := hide (fun W (q : Below w.heap.size w W) => lcompare_calls W la ha z1 z3 (env.below q))
  have q1 := hide (fun W (q : Below w.heap.size w W) => lcompare_calls W lb hb z2 z4 (env.below q))
  obtain ⟨R, hR⟩ : ∃ R, cmpD la lb ha hb = R := ⟨_, rfl⟩
  rw [hR]
  unfold cmpD at hR
  replace hR := hide hR
  clear env
  generalize tB la = A at *
  generalize tB lb = B at *
  generalize tB ha = C at *
  generalize tB hb = D at *
  generalize cmpQ la ha = x at *
  generalize cmpQ lb hb = y at *
  have bA := hide (((Below.refl _ w).alloc (Nat.le_refl _) (.cells #[.string A, .string B] 27)).alloc (by simp) (.cells #[.string C, .string D] 27))
  have X0 := hide (show ((w.alloc (.cells #[.string A, .string B] 27)).alloc (.cells #[.string C, .string D] 27)).heap[w.heap.size]? = some (.cells #[.string A, .string B] 27 (0, 0)) from (heap_alloc_old _ _ (by simp)).trans (heap_alloc_new _ _))
  have X1 := hide (show ((w.alloc (.cells #[.string A, .string B] 27)).alloc (.cells #[.string C, .string D] 27)).heap[w.heap.size + 1]? = some (.cells #[.string C, .string D] 27 (0, 0)) from by have := heap_alloc_new (w.alloc (.cells #[.string A, .string B] 27)) (.cells #[.string C, .string D] 27); simpa using this)
  go_enter Tryz.func11, Tryz.ntmps11
  go_wp2_with fail
  refine (q0.out _ bA.out).mono ?_
  rintro e w1 ⟨rfl, b1⟩
  have Y0 := (b1.block _ (Array.getElem?_eq_some_iff.1 X0.out).1).trans X0.out
  have Y1 := (b1.block _ (Array.getElem?_eq_some_iff.1 X1.out).1).trans X1.out
  have y0 : w1.cell? ⟨w.heap.size, 1, none⟩ = some (.string B) := by rw [cell_of_row w1 _ _ _ _ (0, 0) Y0]; rfl
  have y1 : w1.cell? ⟨w.heap.size + 1, 1, none⟩ = some (.string D) := by rw [cell_of_row w1 _ _ _ _ (0, 0) Y1]; rfl
  have B1 := hide (bA.out.then_below b1)
  clear Y0 Y1 X0 X1 b1 bA q0
  by_cases hx : x = 0
  · subst hx
    have e : y = R := by have := hR.out; rwa [if_pos rfl] at this
    subst e
    go_wp2_with fail
    refine (q1.out _ B1.out).mono ?_
    rintro e w2 ⟨rfl, b2⟩
    replace b2 := hide b2
    go_wp2
    go_ret
    exact ⟨rfl, B1.out.then_below b2.out⟩
  · have e : x = R := by have := hR.out; rwa [if_neg hx] at this
    subst e
    go_wp2
    go_ret
    exact ⟨rfl, B1.out⟩
end Go.Proofs.YtndjkbjoolkmaaaGreatDoor
