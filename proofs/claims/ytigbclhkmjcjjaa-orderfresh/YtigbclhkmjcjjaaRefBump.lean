/-
  The document's Bump and Decay.
-/
import Derived.Test.YtigbclhkmjcjjaaRefShr
namespace Go.Proofs.Ytigbclhkmjcjjaa
open Go.RowKit
set_option linter.unusedVariables false
set_option maxHeartbeats 1600000 in
theorem rbump_bad (w : World) (o : Rid) (s : RS) (h : ROrd w o s) (v : Int) (hv : v < 1 ∨ (o.n : Int) < v) : Calls Try.prog 40 #[rptr o, .int .i64 v] w fun e w' => e = .returned (.int .i64 70) ∧ w' = w := by
  have K := known_calls w o s h v
  rw [decide_eq_false (by omega)] at K
  replace K := hide K
  clear h hv
  go_enter Try.func40, Try.ntmps40
  go_wp2_with (go_at_call 60; refine K.out.mono ?_; rintro e w1 ⟨rfl, rfl⟩)
  go_ret
  exact ⟨rfl, rfl⟩
set_option maxRecDepth 100000 in
set_option maxHeartbeats 4000000 in
theorem rbump_calls (w : World) (o : Rid) (s : RS) (h : ROrd w o s) (v : Nat) (h1 : 1 ≤ v) (h2 : v ≤ o.n) (hA : ∀ j, 1 ≤ j → j ≤ o.n → s.A.getD j 0 < FL.inf) (hr : s.r < FL.inf) (hx : FL.fadd (s.A.getD v 0) s.r < FL.inf) :
    Calls Try.prog 40 #[rptr o, .int .i64 (v : Int)] w fun e w' => e = .returned (.int .i64 0) ∧
      (∃ s', ROrd w' o s' ∧ s'.r = (if TOPB < FL.fadd (s.A.getD v 0) s.r then FL.fmul s.r SHR else s.r) ∧ s'.W = s.W ∧ s'.U = s.U ∧
        ∀ u, 1 ≤ u → u ≤ o.n → s'.A.getD u 0 = if TOPB < FL.fadd (s.A.getD v 0) s.r then FL.fmul ((s.A.set v (FL.fadd (s.A.getD v 0) s.r)).getD u 0) SHR else (s.A.set v (FL.fadd (s.A.getD v 0) s.r)).getD u 0) ∧ Chg (rblks o) w w' := by
  have hn := h.hn
  have K := known_calls w o s h v
  rw [decide_eq_true (by omega)] at K
  replace K := hide K
  have c0 := h.c0
  have c1 := h.c1
  have ca := h.act h2
  have fa := h.2.1.free v
  have AD := fun W => radd_calls10 W (s.A.getD v 0) s.r (hA v h1 h2) hr
  obtain ⟨x, hxx⟩ : ∃ x, FL.fadd (s.A.getD v 0) s.r = x := ⟨_, rfl⟩
  rw [hxx] at AD hx ⊢
  have R2 : ROrd (w.setCell ⟨o.ga, v, none⟩ (.int .i64 (x : Int))).drew o { s with A := s.A.set v x } := h.setAct v x
  have C2 := hide (((Chg.refl (rblks o) w).set (g := o.ga) (j := v) (by simp [rblks]) (.int .i64 (x : Int))).drew)
  have hl : s.A.length = o.n + 1 := h.2.2.2.2.1
  have hA2 : ∀ j, 1 ≤ j → j ≤ o.n → (s.A.set v x).getD j 0 < FL.inf := by
    intro j j1 j2
    rw [O.getD_set']
    split
    · exact hx
    · exact hA j j1 j2
  have gx : (s.A.set v x).getD v 0 = x := by rw [O.getD_set', if_pos ⟨rfl, by omega⟩]
  have SH := rshrink_calls _ o _ R2 hA2 hr
  have cx := R2.act h2
  rw [show ({ s with A := s.A.set v x } : RS).A = s.A.set v x from rfl, gx] at cx
  have c0b := R2.c0
  generalize hav : s.A.getD v 0 = av at ca AD
  generalize hsr : s.r = sr at c1 AD
  replace AD := hide AD
  replace SH := hide SH
  replace R2 := hide R2
  replace hav := hide hav
  replace hsr := hide hsr
  replace hA2 := hide hA2
  clear h hA hr hxx gx hx hl
  have g1 : (v : Int) < (o.n : Int) + 1 := by omega
  have c0d : w.drew.cell? ⟨o.P, 0, none⟩ = some (.slice (some ⟨o.ga, 0, none⟩) (o.n + 1) o.ca) := c0
  replace cx := hide cx
  replace c0b := hide c0b
  generalize hw2 : (w.setCell ⟨o.ga, v, none⟩ (.int .i64 (x : Int))).drew = w2 at R2 C2 SH cx c0b
  go_enter Try.func40, Try.ntmps40
  go_wp2_with (go_at_call 60; refine K.out.mono ?_; rintro e w1 ⟨rfl, hq⟩; have hq := hq.symm; subst hq)
  go_region_with (go_at_call 61; refine (AD.out _).mono ?_; rintro e wq ⟨rfl, rfl⟩)
  all_goals
    try rw [hw2]
    clear c0 c1 ca fa c0d hw2
    have cx := cx.out
    have c0 := c0b.out
    by_cases hc : TOPB < x
    · have hc2 : (1621981420 : Int) < (x : Int) := by have : TOPB = 1621981420 := rfl; omega
      go_wp2_with (go_at_call 62; refine SH.out.mono ?_; rintro e w3 ⟨rfl, ⟨s3, R3, er, ew, eu, ea⟩, C3⟩; replace R3 := hide R3; replace ea := hide ea; replace C3 := hide C3; replace er := hide er)
      go_ret
      refine ⟨rfl, ⟨s3, R3.out, by first | exact er.out | (rw [← hsr.out]; exact er.out) | (rw [if_pos hc]; first | exact er.out | (rw [← hsr.out]; exact er.out)), ew, eu, fun u u1 u2 => by first | exact ea.out u u1 u2 | (rw [if_pos hc]; exact ea.out u u1 u2)⟩, C2.out.trans C3.out⟩
    · have hc2 : ¬ (1621981420 : Int) < (x : Int) := by have : TOPB = 1621981420 := rfl; omega
      go_wp2
      go_ret
      exact ⟨rfl, ⟨_, R2.out, by first | rfl | exact hsr.out | (rw [if_neg hc]; first | rfl | exact hsr.out), rfl, rfl, fun u u1 u2 => by first | rfl | rw [if_neg hc]⟩, C2.out⟩
end Go.Proofs.Ytigbclhkmjcjjaa
