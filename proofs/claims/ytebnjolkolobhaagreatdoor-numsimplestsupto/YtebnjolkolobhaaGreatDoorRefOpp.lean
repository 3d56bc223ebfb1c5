/-
  The document's side (arbiterref1): Opp.
-/
import Derived.Test.YtebnjolkolobhaaGreatDoorRefC
/- ==== RefOpp ==== -/
namespace Go.Proofs.YtebnjolkolobhaaGreatDoor
open Go.RowKit
set_option linter.unusedVariables false
set_option maxRecDepth 100000 in
set_option maxHeartbeats 4000000 in
theorem ropp_calls (w : World) (v : Value) (s : Bool) (n d : Nat) (h : RR w v s n d) :
    Calls Tryz.prog 91 #[v] w fun e w' => (∃ r, e = .returned r ∧ RR w' r (!s && !decide (n = 0)) n d) ∧ Below w.heap.size w w' := by
  obtain ⟨na, nl, nc, da, dl, dc, rfl, h1, h2⟩ := h
  obtain ⟨ao, k, c, e, en, -, -⟩ := h1.form
  cases e
  obtain ⟨X1, Y1, -⟩ := two_new w (.cells #[.bool s, .slice na nl nc, .slice da dl dc] 59) (.cells #[.bool false, .slice none 0 0, .slice none 0 0] 59)
  have B0 := alloc2_below w (.cells #[.bool s, .slice na nl nc, .slice da dl dc] 59) (.cells #[.bool false, .slice none 0 0, .slice none 0 0] 59)
  obtain ⟨W0, hW0⟩ : ∃ W0, (w.alloc (.cells #[.bool s, .slice na nl nc, .slice da dl dc] 59)).alloc (.cells #[.bool false, .slice none 0 0, .slice none 0 0] 59) = W0 := ⟨_, rfl⟩
  rw [hW0] at X1 Y1 B0
  have A1 := hide (h1.below B0)
  have A2 := hide (h2.below B0)
  replace B0 := hide B0
  obtain ⟨x0, x1, x2, -, -, -⟩ := box3 X1
  obtain ⟨y0, y1, y2, f0, f1, f2⟩ := box3 Y1
  replace X1 := hide X1
  replace Y1 := hide Y1
  clear h1 h2
  have fin : Hid (∀ x : Bool, RR (((W0.setCell ⟨w.heap.size + 1, 0, none⟩ (.bool x)).setCell ⟨w.heap.size + 1, 1, none⟩ (.slice na nl nc)).setCell ⟨w.heap.size + 1, 2, none⟩ (.slice da dl dc)) (.agg #[.bool x, .slice na nl nc, .slice da dl dc]) x n d ∧ Below w.heap.size w (((W0.setCell ⟨w.heap.size + 1, 0, none⟩ (.bool x)).setCell ⟨w.heap.size + 1, 1, none⟩ (.slice na nl nc)).setCell ⟨w.heap.size + 1, 2, none⟩ (.slice da dl dc))) := by
    intro x
    have q := set3 W0 (w.heap.size + 1) (.bool x) (.slice na nl nc) (.slice da dl dc)
    exact ⟨⟨na, nl, nc, da, dl, dc, rfl, A1.out.past Y1.out q, A2.out.past Y1.out q⟩, B0.out.then_grown q (by rintro g ⟨⟩; omega)⟩
  cases s with
  | true =>
    clear en
    go_enter Tryz.func91, Tryz.ntmps91
    go_wp2
    refine bodyPost_ret (v := .agg #[.bool false, .slice na nl nc, .slice da dl dc]) (by simp [results, Tryz.results91, go_sem, y0, y1, y2]) rfl ?_
    obtain ⟨u, v⟩ := fin.out false
    exact ⟨⟨_, rfl, u⟩, v⟩
  | false =>
    by_cases hn : n = 0
    · rw [decide_eq_true hn]
      have h0 : nl = 0 := en.2 hn
      subst h0
      clear en hn
      go_enter Tryz.func91, Tryz.ntmps91
      go_wp2
      refine bodyPost_ret (v := .agg #[.bool false, .slice na 0 nc, .slice da dl dc]) (by simp [results, Tryz.results91, go_sem, y0, y1, y2]) rfl ?_
      obtain ⟨u, v⟩ := fin.out false
      exact ⟨⟨_, rfl, u⟩, v⟩
    · rw [decide_eq_false hn]
      have h0 : 0 < nl := Nat.pos_of_ne_zero (fun e => hn (en.1 e))
      have h3 : (0 : Int) < nl := by omega
      clear en hn
      go_enter Tryz.func91, Tryz.ntmps91
      go_wp2
      refine bodyPost_ret (v := .agg #[.bool true, .slice na nl nc, .slice da dl dc]) (by simp [results, Tryz.results91, go_sem, y0, y1, y2]) rfl ?_
      obtain ⟨u, v⟩ := fin.out true
      exact ⟨⟨_, rfl, u⟩, v⟩
end Go.Proofs.YtebnjolkolobhaaGreatDoor
