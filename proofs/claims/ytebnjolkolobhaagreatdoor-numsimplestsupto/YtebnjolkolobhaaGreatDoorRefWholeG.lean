/-
  The document's side (arbiterref1): Whole.
-/
import Derived.Test.YtebnjolkolobhaaGreatDoorRefGG
/- ==== RefWhole ==== -/
namespace Go.Proofs.YtebnjolkolobhaaGreatDoor
open Go.RowKit
set_option linter.unusedVariables false
set_option maxRecDepth 100000 in
set_option maxHeartbeats 4000000 in
theorem rwhole_calls (w : World) (n : Nat) (hn : n < 1000000000) :
    Calls Tryz.prog 89 #[.int .i64 (n : Int)] w fun e w' => (∃ v, e = .returned v ∧ RR w' v false n 1) ∧ Below w.heap.size w w' := by
  have X1 := heap_alloc_new w (.cells #[.bool false, .slice none 0 0, .slice none 0 0] 59)
  have B0 := alloc_below w (.cells #[.bool false, .slice none 0 0, .slice none 0 0] 59)
  obtain ⟨W0, hW0⟩ : ∃ W0, w.alloc (.cells #[.bool false, .slice none 0 0, .slice none 0 0] 59) = W0 := ⟨_, rfl⟩
  rw [hW0] at X1 B0
  have qn := hide (fun W => natInt_calls W (n : Int) (by omega) (by omega))
  have q1 := hide (fun W => natInt_calls W 1 (by decide) (by decide))
  replace X1 := hide X1
  replace B0 := hide B0
  have hn0 : ¬ (n : Int) < 0 := by omega
  go_enter Tryz.func89, Tryz.ntmps89
  go_wp2_with (first
    | (go_at_call_of 61 (Value.int IntKind.i64 (n : Int)); refine (qn.out _).mono ?_; rintro e wa ⟨⟨va, rfl, ma⟩, ba⟩; obtain ⟨na, nl, nc, rfl, -, -, -⟩ := ma.form; replace ma := hide ma; replace ba := hide ba)
    | (go_at_call_of 61 (Value.int IntKind.i64 1); refine (q1.out _).mono ?_; rintro e wb ⟨⟨vb, rfl, mb⟩, bb⟩; obtain ⟨da, dl, dc, rfl, -, -, -⟩ := mb.form; replace mb := hide mb; have Y2 := kept_block X1.out (ba.out.then_below bb); obtain ⟨y0, y1, y2, f0, f1, f2⟩ := box3 Y2; replace bb := hide bb))
  refine bodyPost_ret (v := .agg #[.bool false, .slice na nl nc, .slice da dl dc]) (by simp [results, Tryz.results89, go_sem, y0, y1, y2]) rfl ?_
  have q := set3 wb w.heap.size (.bool false) (.slice na nl nc) (.slice da dl dc)
  have mn : RN wb (.slice na nl nc) n := by
    have := ma.out.below bb.out
    rwa [Int.toNat_natCast] at this
  exact ⟨⟨_, rfl, na, nl, nc, da, dl, dc, rfl, mn.past Y2 q, mb.out.past Y2 q⟩, ((B0.out.then_below ba.out).then_below bb.out).then_grown q (by rintro g ⟨⟩; exact Nat.le_refl _)⟩
end Go.Proofs.YtebnjolkolobhaaGreatDoor
