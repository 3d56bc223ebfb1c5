/-
  The document's texts of rationals (arbiterref1): value, Canon, TSub, TQuo, TCmp, TSign.
-/
import Derived.Test.YtlepicdpelkmlaaGreatDoorRefQ
import Derived.Deep.RegionHeld3
namespace Go.Proofs.YtlepicdpelkmlaaGreatDoor
open Go.RowKit
set_option linter.unusedVariables false
theorem set3_own (w : World) (g : Nat) (a b c : Value) : w.grownBy (((w.setCell ⟨g, 0, none⟩ a).setCell ⟨g, 1, none⟩ b).setCell ⟨g, 2, none⟩ c) (some g) :=
  grown_trans (grown_trans (grown_set _ _ _ _) (grown_set _ _ _ _)) (grown_set _ _ _ _)
set_option maxRecDepth 100000 in
set_option maxHeartbeats 4000000 in
theorem tCanon (w : World) (s : ByteArray) (hs : s.size ≤ 1073741824) :
    Calls Tryz.prog 44 #[.string s] w fun e w' => e = .returned (.bool (canB s.data.toList)) ∧ Below w.heap.size w w' := by
  have q1 := hide (rqof w s hs)
  go_enter Tryz.func44, Tryz.ntmps44
  go_wp2_with (go_at_call 50; refine q1.out.mono ?_; rintro e w1 ⟨⟨b, na, nl, nc, da, dl, dc, rfl, h1⟩, bw⟩; replace bw := hide bw; clear h1)
  go_ret
  exact ⟨rfl, bw.out.then_below (alloc_below _ _)⟩
set_option maxRecDepth 100000 in
set_option maxHeartbeats 4000000 in
theorem tValue (w : World) (x : Rat) (zx : Sz x) :
    Calls Tryz.prog 32 #[.string (tB x)] w fun e w' => (∃ v, e = .returned v ∧ RQ w' v x) ∧ Below w.heap.size w w' := by
  have q1 := hide (fun W => rqof W (tB x) zx.le)
  have hc := tB_can x
  have hv := tB_v x
  have B0 := hide (alloc_below w (.cells #[.bool false, .slice none 0 0, .slice none 0 0] 77))
  have X0 := hide (heap_alloc_new w (.cells #[.bool false, .slice none 0 0, .slice none 0 0] 77))
  have s0 : (w.alloc (.cells #[.bool false, .slice none 0 0, .slice none 0 0] 77)).heap.size = w.heap.size + 1 := World.size_alloc _ _
  go_enter Tryz.func32, Tryz.ntmps32
  go_wp2_with (go_at_call 50; refine (q1.out _).mono ?_; rintro e w1 ⟨⟨b, na, nl, nc, da, dl, dc, rfl, h1⟩, bw⟩; rw [hc, hv] at h1; rw [hc]; have s1 := bw.size; rw [World.size_alloc] at s1; have bA := alloc_below w1 (.cells #[.bool b, .slice na nl nc, .slice da dl dc] 77); have h2 := (h1 rfl).below bA; have X5 := ((bw.then_below bA).block w.heap.size (by rw [World.size_alloc]; omega)).trans X0.out; obtain ⟨r0, r1, r2, f0, f1, f2⟩ := box3 X5; replace X5 := hide X5; obtain ⟨y0, y1, y2, g0, g1, g2⟩ := box3 (heap_alloc_new w1 (.cells #[.bool b, .slice na nl nc, .slice da dl dc] 77)); have bV := hide (B0.out.then_below (bw.then_below bA)); replace h2 := hide h2; clear h1 bw bA)
  refine bodyPost_ret (v := .agg #[.bool b, .slice na nl nc, .slice da dl dc]) (by simp [results, Tryz.results32, go_sem, r0, r1, r2]) rfl ?_
  have q := set3_own (w1.alloc (.cells #[.bool b, .slice na nl nc, .slice da dl dc] 77)) w.heap.size (.bool b) (.slice na nl nc) (.slice da dl dc)
  exact ⟨⟨_, rfl, h2.out.past X5.out q⟩, bV.out.then_grown q (by rintro g ⟨⟩; exact Nat.le_refl _)⟩
set_option maxRecDepth 100000 in
set_option maxHeartbeats 4000000 in
theorem tSub (w : World) (x y : Rat) (zx : Sz x) (zy : Sz y) (bx : Lo x) (by_ : Lo y) :
    Calls Tryz.prog 18 #[.string (tB x), .string (tB y)] w fun e w' => e = .returned (.string (tB (x - y))) ∧ Below w.heap.size w w' := by
  have q1 := hide (tValue w x zx)
  go_enter Tryz.func18, Tryz.ntmps18
  go_wp2_with (first
    | (go_at_call_of 32 (Value.string (tB x)); refine q1.out.mono ?_; rintro e w1 ⟨⟨v1, rfl, r1⟩, b1⟩; have q2 := hide (tValue w1 y zy); replace r1 := hide r1; replace b1 := hide b1)
    | (go_at_call 32; (with_reducible refine q2.out.mono ?_); rintro e w2 ⟨⟨v2, rfl, r2⟩, b2⟩; have q3 := hide (rqless w2 v1 v2 x y (r1.out.below b2) r2 bx by_); replace b2 := hide b2)
    | (go_at_call 31; (with_reducible refine q3.out.mono ?_); rintro e w3 ⟨⟨v3, rfl, r3⟩, b3⟩; have q4 := hide (rqtext w3 v3 _ r3 (bx.wide_sub by_)); replace b3 := hide b3)
    | (go_at_call 30; (with_reducible refine q4.out.mono ?_); rintro e w4 ⟨rfl, b4⟩; replace b4 := hide b4))
  go_ret
  exact ⟨rfl, ((b1.out.then_below b2.out).then_below b3.out).then_below b4.out⟩
set_option maxRecDepth 100000 in
set_option maxHeartbeats 4000000 in
theorem tCmp (w : World) (x y : Rat) (zx : Sz x) (zy : Sz y) (bx : Lo x) (by_ : Lo y) :
    Calls Tryz.prog 21 #[.string (tB x), .string (tB y)] w fun e w' => e = .returned (.int .i64 (cmpQ x y)) ∧ Below w.heap.size w w' := by
  have q1 := hide (tValue w x zx)
  go_enter Tryz.func21, Tryz.ntmps21
  go_wp2_with (first
    | (go_at_call_of 32 (Value.string (tB x)); refine q1.out.mono ?_; rintro e w1 ⟨⟨v1, rfl, r1⟩, b1⟩; have q2 := hide (tValue w1 y zy); replace r1 := hide r1; replace b1 := hide b1)
    | (go_at_call 32; (with_reducible refine q2.out.mono ?_); rintro e w2 ⟨⟨v2, rfl, r2⟩, b2⟩; have q3 := hide (rqcompare w2 v1 v2 x y (r1.out.below b2) r2 bx by_); replace b2 := hide b2)
    | (go_at_call 35; (with_reducible refine q3.out.mono ?_); rintro e w3 ⟨rfl, b3⟩; replace b3 := hide b3))
  go_ret
  exact ⟨rfl, (b1.out.then_below b2.out).then_below b3.out⟩
set_option maxRecDepth 100000 in
set_option maxHeartbeats 4000000 in
theorem tSign (w : World) (x : Rat) (zx : Sz x) :
    Calls Tryz.prog 19 #[.string (tB x)] w fun e w' => e = .returned (.int .i64 (cmpQ x 0)) ∧ Below w.heap.size w w' := by
  have q1 := hide (tValue w x zx)
  go_enter Tryz.func19, Tryz.ntmps19
  go_wp2_with (first
    | (go_at_call 32; refine q1.out.mono ?_; rintro e w1 ⟨⟨v1, rfl, r1⟩, b1⟩; have q2 := hide (rqsign w1 v1 x r1); replace b1 := hide b1)
    | (go_at_call 33; (with_reducible refine q2.out.mono ?_); rintro e w2 ⟨rfl, b2⟩; replace b2 := hide b2))
  go_ret
  exact ⟨rfl, b1.out.then_below b2.out⟩
set_option maxRecDepth 100000 in
set_option maxHeartbeats 4000000 in
theorem tQuo (w : World) (x y : Rat) (hy : y ≠ 0) (zx : Sz x) (zy : Sz y) (bx : Lo x) (by_ : Lo y) :
    Calls Tryz.prog 20 #[.string (tB x), .string (tB y)] w fun e w' => e = .returned (.string (tB (x / y))) ∧ Below w.heap.size w w' := by
  have q1 := hide (tValue w y zy)
  have hc : ((cmpQ y 0) == 0) = false := by have := mt (cmpQ_zero y).1 hy; simpa using this
  have q0 := hide (fun W => tValue W x zx)
  go_enter Tryz.func20, Tryz.ntmps20
  go_wp2_with (first
    | (go_at_call 32; refine q1.out.mono ?_; rintro e w1 ⟨⟨v1, rfl, r1⟩, b1⟩; obtain ⟨b, na, nl, nc, da, dl, dc, rfl⟩ := r1.shape; have bA := alloc_below w1 (.cells #[.bool b, .slice na nl nc, .slice da dl dc] 77); have r2 := r1.below bA; have q2 := hide (rqsign _ _ y r2); have X2 := hide (heap_alloc_new w1 (.cells #[.bool b, .slice na nl nc, .slice da dl dc] 77)); obtain ⟨y0, y1, y2, g0, g1, g2⟩ := box3 X2.out; have bV := hide (b1.then_below bA); replace r2 := hide r2; clear r1 b1 bA)
    | (go_at_call 33; (with_reducible refine q2.out.mono ?_); rintro e w2 ⟨rfl, b2⟩; have X3 := hide ((b2.block _ ((Array.getElem?_eq_some_iff.1 X2.out).1)).trans X2.out); have R3 := hide (r2.out.below b2); have B3 := hide (bV.out.then_below b2); clear y0 y1 y2 g0 g1 g2 q2 X2 r2 bV b2))
  have KS : Hid (∀ W, Below w2.heap.size w2 W → W.cell? ⟨w1.heap.size, 0, none⟩ = some (.bool b) ∧ W.cell? ⟨w1.heap.size, 1, none⟩ = some (.slice na nl nc) ∧ W.cell? ⟨w1.heap.size, 2, none⟩ = some (.slice da dl dc)) := fun W q => by
    obtain ⟨k0, k1, k2, -⟩ := box3 ((q.block _ ((Array.getElem?_eq_some_iff.1 X3.out).1)).trans X3.out)
    exact ⟨k0, k1, k2⟩
  have KD : Hid (Below w2.heap.size w2 w2.drew) := (Below.refl _ _).drew
  have qv := hide (tValue w2.drew x zx)
  clear X3 q0 q1
  generalize w1.heap.size = G at *
  go_region_held3 (fun W => W.cell? ⟨G, 0, none⟩ = some (.bool b) ∧ W.cell? ⟨G, 1, none⟩ = some (.slice na nl nc) ∧ W.cell? ⟨G, 2, none⟩ = some (.slice da dl dc))
    (first
      | with_reducible exact KS.out _ (Below.refl _ _)
      | with_reducible exact KS.out _ KD.out
      | with_reducible exact KS.out _ T3.out
      | with_reducible exact KS.out _ T4.out
      | with_reducible exact KS.out _ T5.out)
    (first
      | (go_at_call 32; refine qv.out.mono ?_; rintro e w3 ⟨⟨v3, rfl, r3⟩, b3⟩; have T3 := hide (KD.out.then_below b3); have qo := hide (rqover w3 v3 (.agg #[.bool b, .slice na nl nc, .slice da dl dc]) x y r3 (R3.out.below T3.out) hy bx by_))
      | (go_at_call 34; (with_reducible refine qo.out.mono ?_); rintro e w4 ⟨⟨v4, rfl, r4⟩, b4⟩; have T4 := hide (T3.out.then_below b4); have qt := hide (rqtext w4 v4 _ r4 (bx.wide_div by_)))
      | (go_at_call 30; (with_reducible refine qt.out.mono ?_); rintro e w5 ⟨rfl, b5⟩; have T5 := hide (T4.out.then_below b5)))
  go_wp2
  go_ret
  exact ⟨rfl, B3.out.then_below T5.out⟩
end Go.Proofs.YtlepicdpelkmlaaGreatDoor
