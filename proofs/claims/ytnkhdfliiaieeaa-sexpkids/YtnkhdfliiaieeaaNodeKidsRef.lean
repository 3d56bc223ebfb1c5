/-
  The document's 'Kids'.
-/
import Derived.Test.YtnkhdfliiaieeaaNodeForest
import Derived.Test.YtnkhdfliiaieeaaNodeKids
namespace Go.Proofs.Ytnkhdfliiaieeaa
open Go.RowKit
set_option linter.unusedVariables false
set_option maxRecDepth 100000 in
set_option maxHeartbeats 2000000 in
theorem rkids_calls (w : World) (B : Nat) (v : Value) (ns : List Nd) (h : Nds B w v ns) (hB : B ≤ w.heap.size) (i : Int) :
    Calls Try.prog 10 #[v, .int .i64 i] w fun e w' => (∃ r, e = .returned (.tuple #[r, .int .i64 (kidsC ns i)]) ∧ RowI w' r (kidsX ns i)) ∧ Below w.heap.size w w' := by
  have hN := hide h
  have hFo := hide (rforest_calls w B v ns h hB)
  obtain ⟨a, cap, rfl, h1, ⟨h2, h2'⟩, h3, h4⟩ := h
  clear h3 h4
  cases hf : forestB ns
  · have e1 : Hid (kidsC ns i = 22) := by unfold Hid kidsC; rw [hf]; rfl
    have e2 : Hid (kidsX ns i = []) := by unfold Hid kidsX; rw [hf]; simp
    rw [hf] at hFo
    go_enter Try.func10, Try.ntmps10
    go_wp2_with (go_at_call 15; refine (hFo.out).mono ?_; rintro e w5 ⟨rfl, b5⟩; replace b5 := hide b5)
    go_ret2
    exact ⟨⟨.slice none 0 0, by rw [e1.out]; rfl, by rw [e2.out]; exact rowI_nil _⟩, b5.out⟩
  rw [hf] at hFo
  have hS := hide (forest_sizes hf)
  by_cases hlo : i < -1
  · have e1 : Hid (kidsC ns i = 30) := by unfold Hid kidsC; rw [hf, if_pos rfl, if_neg (by omega)]
    have e2 : Hid (kidsX ns i = []) := by unfold Hid kidsX; rw [if_neg (by omega)]
    go_enter Try.func10, Try.ntmps10
    go_wp2_with (go_at_call 15; refine (hFo.out).mono ?_; rintro e w5 ⟨rfl, b5⟩; replace b5 := hide b5)
    go_ret2
    exact ⟨⟨.slice none 0 0, by rw [e1.out]; rfl, by rw [e2.out]; exact rowI_nil _⟩, b5.out⟩
  by_cases hhi : (ns.length : Int) ≤ i
  · have e1 : Hid (kidsC ns i = 30) := by unfold Hid kidsC; rw [hf, if_pos rfl, if_neg (by omega)]
    have e2 : Hid (kidsX ns i = []) := by unfold Hid kidsX; rw [if_neg (by omega)]
    go_enter Try.func10, Try.ntmps10
    go_wp2_with (go_at_call 15; refine (hFo.out).mono ?_; rintro e w5 ⟨rfl, b5⟩; replace b5 := hide b5)
    go_ret2
    exact ⟨⟨.slice none 0 0, by rw [e1.out]; rfl, by rw [e2.out]; exact rowI_nil _⟩, b5.out⟩
  have e1 : Hid (kidsC ns i = 0) := by unfold Hid kidsC; rw [hf, if_pos rfl, if_pos (by omega)]
  have e2 : Hid (kidsX ns i = (kidsL ns i).map (fun n : Nat => (n : Int))) := by unfold Hid kidsX; rw [if_pos ⟨hf, by omega⟩]
  go_enter Try.func10, Try.ntmps10
  go_wp2_with (first
    | (go_at_call 15; refine (hFo.out).mono ?_; rintro e w5 ⟨rfl, b5⟩; replace b5 := hide b5; have hs5 := b5.out.size)
    | (go_at_call 16; refine (inside_calls w5 B _ ns (hN.out.below (b5.out.mono hB)) (by omega) hS.out i (by omega) (by omega)).mono ?_; rintro e w6 ⟨⟨r, rfl, hr⟩, b6⟩; replace b6 := hide b6; replace hr := hide hr))
  go_ret2
  exact ⟨⟨r, by rw [e1.out]; rfl, by rw [e2.out]; exact hr.out.row⟩, thenB b5.out b6.out (by omega)⟩
end Go.Proofs.Ytnkhdfliiaieeaa
