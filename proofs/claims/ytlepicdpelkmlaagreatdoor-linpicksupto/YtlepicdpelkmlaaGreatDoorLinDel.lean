/-
  Package lin: which error comes first; delta numbers compared, and taken at a number; the law's own helpers.
-/
import Derived.Test.YtlepicdpelkmlaaGreatDoorLinChk
namespace Go.Proofs.YtlepicdpelkmlaaGreatDoor
open Go.RowKit
/-- How one delta number stands to another. -/
def cmpD (la lb ha hb : Rat) : Int := if cmpQ la ha = 0 then cmpQ lb hb else cmpQ la ha
set_option maxRecDepth 100000 in
set_option maxHeartbeats 4000000 in
theorem cmpDel_calls (w : World) (la lb ha hb : Rat) (z1 : Sz la) (z2 : Sz lb) (z3 : Sz ha) (z4 : Sz hb) (env : LEnv w) :
    Calls Tryz.prog 10 #[.agg #[.string (tB la), .string (tB lb)], .agg #[.string (tB ha), .string (tB hb)]] w fun e w' => e = .returned (.int .i64 (cmpD la lb ha hb)) ∧ Below w.heap.size w w' := by
  have q0 := hide (fun W (q : Below w.heap.size w W) => lcompare_calls W la ha z1 z3 (env.below q))
  have q1 := hide (fun W (q : Below w.heap.size w W) => lcompare_calls W lb hb z2 z4 (env.below q))
  obtain ⟨R, hR⟩ : ∃ R, cmpD la lb ha hb = R := ⟨_, rfl⟩
  rw [hR]
  unfold cmpD at hR
  replace hR := hide hR
  clear env
  generalize tB la = A at *
  generalize tB lb = B at *
  generalize tB ha = C at *
  generalize tB hb = D at *
  generalize cmpQ la ha = x at *
  generalize cmpQ lb hb = y at *
  have bA := hide (((Below.refl _ w).alloc (Nat.le_refl _) (.cells #[.string A, .string B] 41)).alloc (by simp) (.cells #[.string C, .string D] 41))
  have X0 := hide (show ((w.alloc (.cells #[.string A, .string B] 41)).alloc (.cells #[.string C, .string D] 41)).heap[w.heap.size]? = some (.cells #[.string A, .string B] 41 (0, 0)) from (heap_alloc_old _ _ (by simp)).trans (heap_alloc_new _ _))
  have X1 := hide (show ((w.alloc (.cells #[.string A, .string B] 41)).alloc (.cells #[.string C, .string D] 41)).heap[w.heap.size + 1]? = some (.cells #[.string C, .string D] 41 (0, 0)) from by have := heap_alloc_new (w.alloc (.cells #[.string A, .string B] 41)) (.cells #[.string C, .string D] 41); simpa using this)
  go_enter Tryz.func10, Tryz.ntmps10
  go_wp2_with fail
  refine (q0.out _ bA.out).mono ?_
  rintro e w1 ⟨rfl, b1⟩
  have Y0 := (b1.block _ (Array.getElem?_eq_some_iff.1 X0.out).1).trans X0.out
  have Y1 := (b1.block _ (Array.getElem?_eq_some_iff.1 X1.out).1).trans X1.out
  have y0 : w1.cell? ⟨w.heap.size, 1, none⟩ = some (.string B) := by rw [cell_of_row w1 _ _ _ _ (0, 0) Y0]; rfl
  have y1 : w1.cell? ⟨w.heap.size + 1, 1, none⟩ = some (.string D) := by rw [cell_of_row w1 _ _ _ _ (0, 0) Y1]; rfl
  have B1 := hide (bA.out.then_below b1)
  clear Y0 Y1 X0 X1 b1 bA q0
  by_cases hx : x = 0
  · subst hx
    have e : y = R := by have := hR.out; rwa [if_pos rfl] at this
    subst e
    go_wp2_with fail
    refine (q1.out _ B1.out).mono ?_
    rintro e w2 ⟨rfl, b2⟩
    replace b2 := hide b2
    go_wp2
    go_ret
    exact ⟨rfl, B1.out.then_below b2.out⟩
  · have e : x = R := by have := hR.out; rwa [if_neg hx] at this
    subst e
    go_wp2
    go_ret
    exact ⟨rfl, B1.out⟩
end Go.Proofs.YtlepicdpelkmlaaGreatDoor
