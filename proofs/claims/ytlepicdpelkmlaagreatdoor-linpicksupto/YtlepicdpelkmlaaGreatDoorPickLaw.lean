/-
  The law LinPicks, walked.
-/
import Derived.Test.YtlepicdpelkmlaaGreatDoorLinPick
import Derived.Test.YtlepicdpelkmlaaGreatDoorLinCopy
import Derived.Test.YtlepicdpelkmlaaGreatDoorLinKept
import Derived.Test.YtlepicdpelkmlaaGreatDoorRefPick
namespace Go.Proofs.YtlepicdpelkmlaaGreatDoor
open Go.RowKit
set_option linter.unusedVariables false
theorem pickA_one {ps : List Pq} {d d' : ByteArray} {c c' : Int} (h : PickA ps d c) (h' : PickA ps d' c') : d' = d ∧ c' = c := by
  rcases h with ⟨rfl, rfl, a⟩ | ⟨a, ⟨rfl, rfl, b⟩ | ⟨rfl, m, b, rfl⟩⟩
  · rcases h' with ⟨rfl, rfl, a'⟩ | ⟨a', -⟩
    · exact ⟨rfl, rfl⟩
    · rw [a] at a'; cases a'
  · rcases h' with ⟨rfl, rfl, a'⟩ | ⟨a', ⟨rfl, rfl, b'⟩ | ⟨rfl, m', b', rfl⟩⟩
    · rw [a] at a'; cases a'
    · exact ⟨rfl, rfl⟩
    · rw [b] at b'; cases b'
  · rcases h' with ⟨rfl, rfl, a'⟩ | ⟨a', ⟨rfl, rfl, b'⟩ | ⟨rfl, m', b', rfl⟩⟩
    · rw [a] at a'; cases a'
    · rw [b] at b'; cases b'
    · rw [b] at b'; cases b'; exact ⟨rfl, rfl⟩
theorem pickA_no {ps : List Pq} {d : ByteArray} {c : Int} (h : PickA ps d c) : 0 ≤ c ∧ c ≤ 3 := by
  rcases h with ⟨rfl, -⟩ | ⟨-, ⟨rfl, -⟩ | ⟨rfl, -⟩⟩ <;> decide
set_option maxRecDepth 100000 in
theorem pno_calls (w : World) (c : Int) (h : 0 ≤ c ∧ c ≤ 3) : Calls Tryz.prog 7 #[.int .i64 c] w fun e w' => e = .returned (.int .i64 c) ∧ w' = w := by
  have hc : IntKind.i64.wrap c = c := by rw [IntKind.wrap_i64]; omega
  go_enter Tryz.func7, Tryz.ntmps7
  go_wp2
  go_ret
  exact ⟨rfl, rfl⟩
set_option maxRecDepth 100000 in
set_option maxHeartbeats 4000000 in
theorem linPicks_calls (w : World) (v : Value) (ps : List Pq) (h : QRow w v ps) (hn : ps.length ≤ 1048576) (hz : ∀ j, j < ps.length → (ps.getD j Pq.z).sz ≤ 1048576) (env : LEnv w) :
    Calls Tryz.prog 3 #[v] w fun e w' => e = .returned (.bool true) ∧ Below w.heap.size w w' := by
  have qp := hide (pair_calls w _ (alloc_below w _) w.heap.size (Nat.le_refl _) (heap_alloc_new w _) v ps h hn)
  have hZ := hide hz
  have hP := hide h
  have eH := hide env
  clear h hz env
  go_enter Tryz.func3, Tryz.ntmps3
  go_wp2_with (first
    | (go_at_call 5; refine qp.out.mono ?_; rintro e w1 ⟨m, rfl, D1, H1, b1⟩; have q2 := hide (pick_calls w1 (cutQ m ps.length) ps D1.row hn hZ.out (eH.out.below b1)); replace D1 := hide D1; replace H1 := hide H1; replace b1 := hide b1)
    | (go_at_call 4; (with_reducible refine q2.out.mono ?_); rintro e w2 ⟨⟨d, c, rfl, A2⟩, b2⟩; have q3 := hide (rpick_calls w2 v ps (hP.out.below (b1.out.then_below b2)) hn hZ.out); have D2 := hide (D1.out.below b2); have H2 := hide (H1.out.below b2); have B2 := hide (b1.out.then_below b2); replace A2 := hide A2; clear b2)
    | (go_at_call 6; (with_reducible refine q3.out.mono ?_); rintro e w3 ⟨⟨d', c', rfl, A3⟩, b3⟩; obtain ⟨rfl, rfl⟩ := pickA_one A2.out A3; have q4 := hide (pno_calls w3 _ (pickA_no A3)); have B3 := hide (B2.out.then_below b3); have q5 := hide (kept_calls w3 w.heap.size m v ps (H2.out.below b3) (D2.out.below b3) (hP.out.below (B2.out.then_below b3)) hn); clear A3 b3)
    | (go_at_call 7; (with_reducible refine q4.out.mono ?_); rintro e w4 ⟨rfl, rfl⟩)
    | (go_at_call 8; (with_reducible refine q5.out.mono ?_); rintro e w5 ⟨rfl, b5⟩; replace b5 := hide b5))
  go_ret
  exact ⟨rfl, B3.out.then_below b5.out⟩
end Go.Proofs.YtlepicdpelkmlaaGreatDoor
