/-
  The document's Take and Waiting.
-/
import Derived.Test.YtigbclhkmjcjjaaRefFirst
import Derived.Test.YtigbclhkmjcjjaaOrdNew
namespace Go.Proofs.Ytigbclhkmjcjjaa
open Go.RowKit
set_option linter.unusedVariables false
abbrev Rl (o : Rid) (s : RS) (l : List Nat) : Prop := O.Lst s.A o.n (fun v => s.W.getD v false = true) l
theorem lst_less {A : List Nat} {n x : Nat} {Q : List Bool} {t : List Nat} (hx : x < Q.length) (h : O.Lst A n (fun v => Q.getD v false = true ∧ v ≠ x) t) : O.Lst A n (fun v => (Q.set x false).getD v false = true) t := by
  refine h.congr (fun v _ _ => ?_)
  rw [O.getD_set']
  by_cases c : x = v
  · rw [if_pos ⟨c, by omega⟩]
    exact ⟨fun z => absurd c.symm z.2, fun z => by cases z⟩
  · rw [if_neg (fun z => c z.1)]
    exact ⟨fun z => z.1, fun z => ⟨z, fun y => c y.symm⟩⟩
set_option maxRecDepth 100000 in
set_option maxHeartbeats 4000000 in
theorem rtake_calls (w : World) (o : Rid) (s : RS) (h : ROrd w o s) (l : List Nat) (hl : Rl o s l) :
    Calls Try.prog 44 #[rptr o] w fun e w' => e = .returned (.int .i64 (l.headD 0 : Nat)) ∧
      (∃ s', ROrd w' o s' ∧ s'.A = s.A ∧ s'.r = s.r ∧ s'.U = s.U ∧ ∀ v, 1 ≤ v → v ≤ o.n → s'.W.getD v false = (s.W.getD v false && (v != l.headD 0))) ∧ Chg (rblks o) w w' := by
  have hn := h.hn
  have c2 := h.c2
  have FC := rfirst_calls w o s h o.gw o.cw s.W h.2.2.1 h.2.2.2.2.2.1
  have hW : s.W.length = o.n + 1 := h.2.2.2.2.2.1
  have H := hide h
  replace FC := hide FC
  replace hl := hide hl
  clear h
  replace hW := hide hW
  go_enter Try.func44, Try.ntmps44
  go_wp2_with fail
  refine FC.out.mono ?_
  rintro e w1 ⟨b, rfl, hF, m, rfl⟩
  have eb : b = l.headD 0 := by
    cases l with
    | nil => exact hF.nil hl.out
    | cons x t => exact (hF.cons hl.out).1
  have bn := hF.le
  have R1 : ROrd (w.drewN m) o s := H.out.drewN m
  have c2 := R1.c2
  have fa := R1.2.2.1.free b
  have ca := R1.wai bn
  have g1 : (b : Int) < (o.n : Int) + 1 := by omega
  have R2 := hide (R1.setW b false)
  have C2 := hide (((Chg.refl (rblks o) w).drewN m).set (g := o.gw) (j := b) (by simp [rblks]) (.bool false))
  generalize s.W.getD b false = x at ca
  replace eb := hide eb
  clear FC hF R1
  go_wp2
  go_ret
  refine ⟨by rw [← eb.out]; rfl, ⟨_, R2.out, rfl, rfl, rfl, fun v v1 v2 => ?_⟩, C2.out⟩
  show (s.W.set b false).getD v false = _
  rw [O.getD_set', ← eb.out]
  by_cases c : b = v
  · rw [if_pos ⟨c, by have := hW.out; omega⟩, c, bne_self_eq_false, Bool.and_false]
  · rw [if_neg (fun z => c z.1), show (v != b) = true from bne_iff_ne.2 (fun z => c z.symm), Bool.and_true]
end Go.Proofs.Ytigbclhkmjcjjaa
