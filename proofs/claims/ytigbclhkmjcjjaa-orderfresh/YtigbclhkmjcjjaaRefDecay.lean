/-
  The document's Decay, Score, Has, Put, Save, Phase.
-/
import Derived.Test.YtigbclhkmjcjjaaRefShr
namespace Go.Proofs.Ytigbclhkmjcjjaa
open Go.RowKit
set_option linter.unusedVariables false
set_option maxRecDepth 100000 in
set_option maxHeartbeats 4000000 in
theorem rdecay_calls (w : World) (o : Rid) (s : RS) (h : ROrd w o s) (hA : ∀ j, 1 ≤ j → j ≤ o.n → s.A.getD j 0 < FL.inf) (h0 : 0 < s.r) (hr : s.r < FL.inf) (hx : FL.fdiv s.r DCY < FL.inf) :
    Calls Try.prog 41 #[rptr o] w fun e w' => e = .returned (.tuple #[]) ∧
      (∃ s', ROrd w' o s' ∧ s'.r = (if TOPB < FL.fdiv s.r DCY then FL.fmul (FL.fdiv s.r DCY) SHR else FL.fdiv s.r DCY) ∧ s'.W = s.W ∧ s'.U = s.U ∧
        ∀ u, 1 ≤ u → u ≤ o.n → s'.A.getD u 0 = if TOPB < FL.fdiv s.r DCY then FL.fmul (s.A.getD u 0) SHR else s.A.getD u 0) ∧ Chg (rblks o) w w' := by
  have hn := h.hn
  have c1 := h.c1
  have f1 := h.free 1
  have QU := rquo_calls10 w s.r hr h0
  rw [show FL.fdiv s.r FL.tDCY = FL.fdiv s.r DCY from rfl] at QU
  obtain ⟨x, hxx⟩ : ∃ x, FL.fdiv s.r DCY = x := ⟨_, rfl⟩
  rw [hxx] at QU hx ⊢
  have R2 : Hid (∀ m, ROrd ((w.drewN m).setCell ⟨o.P, 1, none⟩ (.int .i64 (x : Int))) o { s with r := x }) := fun m => (h.drewN m).setRise x
  have C2 : Hid (∀ m, Chg (rblks o) w ((w.drewN m).setCell ⟨o.P, 1, none⟩ (.int .i64 (x : Int)))) := fun m => (((Chg.refl (rblks o) w).drewN m).set (g := o.P) (j := 1) (by simp [rblks]) (.int .i64 (x : Int)))
  have SH : Hid (∀ W, ROrd W o { s with r := x } → Calls Try.prog 62 #[rptr o] W fun e w' => e = .returned (.tuple #[]) ∧
      (∃ s', ROrd w' o s' ∧ s'.r = FL.fmul x SHR ∧ s'.W = s.W ∧ s'.U = s.U ∧ ∀ u, 1 ≤ u → u ≤ o.n → s'.A.getD u 0 = FL.fmul (s.A.getD u 0) SHR) ∧ Chg (rblks o) W w') := fun W hW => rshrink_calls W o _ hW hA hx
  generalize hsr : s.r = sr at c1 QU
  replace hsr := hide hsr
  replace QU := hide QU
  clear h hA h0 hr hxx hx
  go_enter Try.func41, Try.ntmps41
  go_wp2_with fail
  refine QU.out.mono ?_
  rintro e w1 ⟨rfl, m, rfl⟩
  have f1 : (w.drewN m).frozen? ⟨o.P, 1, none⟩ = false := f1
  have c1 : (w.drewN m).cell? ⟨o.P, 1, none⟩ = some (.int .i64 (sr : Int)) := c1
  have R3 := R2.out m
  have C3 := hide (C2.out m)
  have cx := R3.c1
  replace R3 := hide R3
  have S3 := hide (SH.out _ R3.out)
  clear R2 C2 SH QU
  by_cases hc : TOPB < x
  · have hc2 : (1621981420 : Int) < (x : Int) := by have : TOPB = 1621981420 := rfl; omega
    go_wp2_with (go_at_call 62; refine S3.out.mono ?_; rintro e w3 ⟨rfl, ⟨s3, R3, er, ew, eu, ea⟩, C4⟩; replace R3 := hide R3; replace ea := hide ea; replace C4 := hide C4; replace er := hide er)
    go_end0
    exact ⟨rfl, ⟨s3, R3.out, by first | exact er.out | (rw [if_pos hc]; exact er.out), ew, eu, fun u u1 u2 => by first | exact ea.out u u1 u2 | (rw [if_pos hc]; exact ea.out u u1 u2)⟩, C3.out.trans C4.out⟩
  · have hc2 : ¬ (1621981420 : Int) < (x : Int) := by have : TOPB = 1621981420 := rfl; omega
    go_wp2
    go_end0
    exact ⟨rfl, ⟨_, R3.out, by first | rfl | rw [if_neg hc], rfl, rfl, fun u u1 u2 => by first | rfl | rw [if_neg hc]⟩, C3.out⟩
section
variable (w : World) (o : Rid) (s : RS)
set_option maxHeartbeats 1600000 in
theorem rscore_bad (h : ROrd w o s) (v : Int) (hv : v < 1 ∨ (o.n : Int) < v) : Calls Try.prog 42 #[rptr o, .int .i64 v] w fun e w' => e = .returned (.tuple #[.int .i64 0, .int .i64 70]) ∧ w' = w := by
  have K := known_calls w o s h v
  rw [decide_eq_false (by omega)] at K
  replace K := hide K
  clear h hv
  go_enter Try.func42, Try.ntmps42
  go_wp2_with (go_at_call 60; refine K.out.mono ?_; rintro e w1 ⟨rfl, rfl⟩)
  go_ret2
  exact ⟨rfl, rfl⟩
set_option maxHeartbeats 1600000 in
theorem rscore_calls (h : ROrd w o s) (v : Nat) (h1 : 1 ≤ v) (h2 : v ≤ o.n) : Calls Try.prog 42 #[rptr o, .int .i64 (v : Int)] w fun e w' => e = .returned (.tuple #[.int .i64 (s.A.getD v 0 : Nat), .int .i64 0]) ∧ ∃ m, w' = w.drewN m := by
  have K := known_calls w o s h v
  rw [decide_eq_true (by omega)] at K
  replace K := hide K
  have hn := h.hn
  have c0 := h.c0
  have ca := h.act h2
  have g1 : (v : Int) < (o.n : Int) + 1 := by omega
  generalize s.A.getD v 0 = x at *
  clear h
  go_enter Try.func42, Try.ntmps42
  go_wp2_with (go_at_call 60; refine K.out.mono ?_; rintro e w1 ⟨rfl, hq⟩; have hq := hq.symm; subst hq)
  first
    | (go_ret2; exact ⟨rfl, 0, rfl⟩)
    | (go_quiet (fail); go_wp2; go_ret2; exact ⟨rfl, _, rfl⟩)
set_option maxHeartbeats 1600000 in
theorem rhas_bad (h : ROrd w o s) (v : Int) (hv : v < 1 ∨ (o.n : Int) < v) : Calls Try.prog 45 #[rptr o, .int .i64 v] w fun e w' => e = .returned (.tuple #[.bool false, .int .i64 70]) ∧ w' = w := by
  have K := known_calls w o s h v
  rw [decide_eq_false (by omega)] at K
  replace K := hide K
  clear h hv
  go_enter Try.func45, Try.ntmps45
  go_wp2_with (go_at_call 60; refine K.out.mono ?_; rintro e w1 ⟨rfl, rfl⟩)
  go_ret2
  exact ⟨rfl, rfl⟩
set_option maxHeartbeats 1600000 in
theorem rhas_calls (h : ROrd w o s) (v : Nat) (h1 : 1 ≤ v) (h2 : v ≤ o.n) : Calls Try.prog 45 #[rptr o, .int .i64 (v : Int)] w fun e w' => e = .returned (.tuple #[.bool (s.W.getD v false), .int .i64 0]) ∧ ∃ m, w' = w.drewN m := by
  have K := known_calls w o s h v
  rw [decide_eq_true (by omega)] at K
  replace K := hide K
  have hn := h.hn
  have c0 := h.c2
  have ca := h.wai h2
  have g1 : (v : Int) < (o.n : Int) + 1 := by omega
  generalize s.W.getD v false = x at *
  clear h
  go_enter Try.func45, Try.ntmps45
  go_wp2_with (go_at_call 60; refine K.out.mono ?_; rintro e w1 ⟨rfl, hq⟩; have hq := hq.symm; subst hq)
  first
    | (go_ret2; exact ⟨rfl, 0, rfl⟩)
    | (go_quiet (fail); go_wp2; go_ret2; exact ⟨rfl, _, rfl⟩)
set_option maxHeartbeats 1600000 in
theorem rphase_bad (h : ROrd w o s) (v : Int) (hv : v < 1 ∨ (o.n : Int) < v) : Calls Try.prog 49 #[rptr o, .int .i64 v] w fun e w' => e = .returned (.tuple #[.bool false, .int .i64 70]) ∧ w' = w := by
  have K := known_calls w o s h v
  rw [decide_eq_false (by omega)] at K
  replace K := hide K
  clear h hv
  go_enter Try.func49, Try.ntmps49
  go_wp2_with (go_at_call 60; refine K.out.mono ?_; rintro e w1 ⟨rfl, rfl⟩)
  go_ret2
  exact ⟨rfl, rfl⟩
set_option maxHeartbeats 1600000 in
theorem rphase_calls (h : ROrd w o s) (v : Nat) (h1 : 1 ≤ v) (h2 : v ≤ o.n) : Calls Try.prog 49 #[rptr o, .int .i64 (v : Int)] w fun e w' => e = .returned (.tuple #[.bool (s.U.getD v false), .int .i64 0]) ∧ ∃ m, w' = w.drewN m := by
  have K := known_calls w o s h v
  rw [decide_eq_true (by omega)] at K
  replace K := hide K
  have hn := h.hn
  have c0 := h.c3
  have ca := h.upp h2
  have g1 : (v : Int) < (o.n : Int) + 1 := by omega
  generalize s.U.getD v false = x at *
  clear h
  go_enter Try.func49, Try.ntmps49
  go_wp2_with (go_at_call 60; refine K.out.mono ?_; rintro e w1 ⟨rfl, hq⟩; have hq := hq.symm; subst hq)
  first
    | (go_ret2; exact ⟨rfl, 0, rfl⟩)
    | (go_quiet (fail); go_wp2; go_ret2; exact ⟨rfl, _, rfl⟩)
set_option maxHeartbeats 1600000 in
theorem rput_bad (h : ROrd w o s) (v : Int) (hv : v < 1 ∨ (o.n : Int) < v) : Calls Try.prog 43 #[rptr o, .int .i64 v] w fun e w' => e = .returned (.int .i64 70) ∧ w' = w := by
  have K := known_calls w o s h v
  rw [decide_eq_false (by omega)] at K
  replace K := hide K
  clear h hv
  go_enter Try.func43, Try.ntmps43
  go_wp2_with (go_at_call 60; refine K.out.mono ?_; rintro e w1 ⟨rfl, rfl⟩)
  go_ret
  exact ⟨rfl, rfl⟩
set_option maxHeartbeats 1600000 in
theorem rput_calls (h : ROrd w o s) (v : Nat) (h1 : 1 ≤ v) (h2 : v ≤ o.n) : Calls Try.prog 43 #[rptr o, .int .i64 (v : Int)] w fun e w' => e = .returned (.int .i64 0) ∧ ROrd w' o { s with W := s.W.set v true } ∧ Chg (rblks o) w w' := by
  have K := known_calls w o s h v
  rw [decide_eq_true (by omega)] at K
  replace K := hide K
  have hn := h.hn
  have c0 := h.c2
  have fa := h.2.2.1.free v
  have g1 : (v : Int) < (o.n : Int) + 1 := by omega
  have ca := h.wai h2
  have R2 := hide (h.setW v true)
  have C2 := hide ((Chg.refl (rblks o) w).set (g := o.gw) (j := v) (by simp [rblks]) (.bool true))
  generalize s.W.getD v false = x at ca
  clear h
  go_enter Try.func43, Try.ntmps43
  go_wp2_with (go_at_call 60; refine K.out.mono ?_; rintro e w1 ⟨rfl, hq⟩; have hq := hq.symm; subst hq)
  go_ret
  exact ⟨rfl, R2.out, C2.out⟩
set_option maxHeartbeats 1600000 in
theorem rsave_bad (h : ROrd w o s) (v : Int) (hv : v < 1 ∨ (o.n : Int) < v) (b : Bool) : Calls Try.prog 47 #[rptr o, .int .i64 v, .bool b] w fun e w' => e = .returned (.int .i64 70) ∧ w' = w := by
  have K := known_calls w o s h v
  rw [decide_eq_false (by omega)] at K
  replace K := hide K
  clear h hv
  go_enter Try.func47, Try.ntmps47
  go_wp2_with (go_at_call 60; refine K.out.mono ?_; rintro e w1 ⟨rfl, rfl⟩)
  go_ret
  exact ⟨rfl, rfl⟩
set_option maxHeartbeats 1600000 in
theorem rsave_calls (h : ROrd w o s) (v : Nat) (h1 : 1 ≤ v) (h2 : v ≤ o.n) (b : Bool) : Calls Try.prog 47 #[rptr o, .int .i64 (v : Int), .bool b] w fun e w' => e = .returned (.int .i64 0) ∧ ROrd w' o { s with U := s.U.set v b } ∧ Chg (rblks o) w w' := by
  have K := known_calls w o s h v
  rw [decide_eq_true (by omega)] at K
  replace K := hide K
  have hn := h.hn
  have c0 := h.c3
  have fa := h.2.2.2.1.free v
  have g1 : (v : Int) < (o.n : Int) + 1 := by omega
  have ca := h.upp h2
  have R2 := hide (h.setU v b)
  have C2 := hide ((Chg.refl (rblks o) w).set (g := o.gu) (j := v) (by simp [rblks]) (.bool b))
  generalize s.U.getD v false = x at ca
  clear h
  go_enter Try.func47, Try.ntmps47
  go_wp2_with (go_at_call 60; refine K.out.mono ?_; rintro e w1 ⟨rfl, hq⟩; have hq := hq.symm; subst hq)
  go_ret
  exact ⟨rfl, R2.out, C2.out⟩
end
end Go.Proofs.Ytigbclhkmjcjjaa
