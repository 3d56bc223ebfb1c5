/-
  Package num: the sign ahead.
-/
import Derived.Test.YtebnjolkolobhaaGreatDoorMulB
import Derived.Test.YtebnjolkolobhaaGreatDoorDecPure
/- ==== NumSign ==== -/
namespace Go.Proofs.YtebnjolkolobhaaGreatDoor
open Go.RowKit
set_option linter.unusedVariables false
set_option maxRecDepth 100000 in
set_option maxHeartbeats 2000000 in
theorem numSign_calls (w : World) (v : Value) (neg : Bool) (n d : Nat) (h : DenR w v neg n d) :
    Calls Tryz.prog 57 #[v] w fun e w' => e = .returned (.string ⟨(negB neg).toArray⟩) ∧ Below w.heap.size w w' := by
  have h' := h
  obtain ⟨x1, x2, x3, x4, y1, y2, y3, y4, rfl, h1, h2⟩ := h
  have B0 := alloc_below w (.cells #[.bool neg, .int .u64 x1, .slice x2 x3 x4, .int .u64 y1, .slice y2 y3 y4] 45)
  have q := psign_calls _ _ neg n d (h'.below B0)
  replace B0 := hide B0
  clear h1 h2 h'
  obtain ⟨c, hc⟩ : ∃ c : Int, (if neg then (-1 : Int) else if n = 0 then 0 else 1) = c := ⟨_, rfl⟩
  rw [hc] at q
  replace q := hide q
  cases neg with
  | true =>
    obtain rfl : c = -1 := by rw [← hc]; rfl
    clear hc
    go_enter Tryz.func57, Tryz.ntmps57
    go_wp2_with fail
    refine q.out.mono ?_
    rintro e w2 ⟨rfl, b2⟩
    replace b2 := hide b2
    go_wp2_with fail
    go_ret
    exact ⟨rfl, B0.out.then_below b2.out⟩
  | false =>
    have c0 : ¬ c < 0 := by rw [← hc]; rw [if_neg (by simp)]; split <;> decide
    clear hc
    go_enter Tryz.func57, Tryz.ntmps57
    go_wp2_with fail
    refine q.out.mono ?_
    rintro e w2 ⟨rfl, b2⟩
    replace b2 := hide b2
    go_wp2_with fail
    go_ret
    exact ⟨rfl, B0.out.then_below b2.out⟩
end Go.Proofs.YtebnjolkolobhaaGreatDoor
