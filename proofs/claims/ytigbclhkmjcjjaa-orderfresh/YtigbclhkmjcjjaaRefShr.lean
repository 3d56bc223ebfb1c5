/-
  The document's shrink, Bump and Decay.
-/
import Derived.Test.YtigbclhkmjcjjaaRefMem
namespace Go.Proofs.Ytigbclhkmjcjjaa
open Go.RowKit
set_option linter.unusedVariables false
set_option maxRecDepth 100000 in
set_option maxHeartbeats 4000000 in
theorem rshrink_calls (w : World) (o : Rid) (s : RS) (h : ROrd w o s) (hA : ∀ j, 1 ≤ j → j ≤ o.n → s.A.getD j 0 < FL.inf) (hr : s.r < FL.inf) :
    Calls Try.prog 62 #[rptr o] w fun e w' => e = .returned (.tuple #[]) ∧
      (∃ s', ROrd w' o s' ∧ s'.r = FL.fmul s.r SHR ∧ s'.W = s.W ∧ s'.U = s.U ∧ ∀ u, 1 ≤ u → u ≤ o.n → s'.A.getD u 0 = FL.fmul (s.A.getD u 0) SHR) ∧ Chg (rblks o) w w' := by
  have hn := h.hn
  have H := hide h
  have hAh := hide hA
  have hrh := hide hr
  clear h hA hr
  have C0 : Hid (Chg (rblks o) w w) := Chg.refl _ _
  go_enter Try.func62, Try.ntmps62
  go_wp2_with fail
  go_loopw [2] (fun i wr => ∃ (k : Nat) (s' : RS), i = .int .i64 ((k : Int) + 1) ∧ k ≤ o.n ∧ Hid (ROrd wr o s') ∧ Hid (s'.r = s.r ∧ s'.W = s.W ∧ s'.U = s.U ∧ ∀ u, s'.A.getD u 0 = if 1 ≤ u ∧ u ≤ k then FL.fmul (s.A.getD u 0) SHR else s.A.getD u 0) ∧ Hid (Chg (rblks o) w wr)) (fun i _ => o.n + 1 - (intOf i).toNat)
  case atStart => exact ⟨0, s, rfl, Nat.zero_le _, H, ⟨rfl, rfl, rfl, fun u => by rw [if_neg (by omega)]⟩, C0⟩
  case round =>
    obtain ⟨k, s', rfl, hk, HR, HE, HC⟩ := hrel
    have c0 := HR.out.c0
    by_cases hlt : k < o.n
    · have ca := HR.out.act (j := k + 1) (by omega)
      have ev : s'.A.getD (k + 1) 0 = s.A.getD (k + 1) 0 := by rw [HE.out.2.2.2, if_neg (by omega)]
      rw [ev] at ca
      have MU := fun W => rmul_calls10 W (s.A.getD (k + 1) 0) SHR (hAh.out _ (by omega) (by omega)) fin_shr.1
      have fa := HR.out.2.1.free (k + 1)
      have fS : ∀ m, (wr.drewN m).frozen? ⟨o.ga, k + 1, none⟩ = false := fun m => fa
      obtain ⟨y, hy⟩ : ∃ y, FL.fmul (s.A.getD (k + 1) 0) SHR = y := ⟨_, rfl⟩
      rw [hy] at MU
      have R2 : ROrd (wr.setCell ⟨o.ga, k + 1, none⟩ (.int .i64 (y : Int))).drew o { s' with A := s'.A.set (k + 1) y } := HR.out.setAct (k + 1) y
      have C2 := hide ((HC.out.set (g := o.ga) (j := k + 1) (by simp [rblks]) (.int .i64 (y : Int))).drew)
      have E2 : Hid (s'.r = s.r ∧ s'.W = s.W ∧ s'.U = s.U ∧ ∀ u, (s'.A.set (k + 1) y).getD u 0 = if 1 ≤ u ∧ u ≤ k + 1 then FL.fmul (s.A.getD u 0) SHR else s.A.getD u 0) := by
        obtain ⟨e1, e2, e3, e4⟩ := HE.out
        refine ⟨e1, e2, e3, fun u => ?_⟩
        have hl : s'.A.length = o.n + 1 := HR.out.2.2.2.2.1
        rw [O.getD_set']
        by_cases c : u = k + 1
        · subst c
          rw [if_pos ⟨rfl, by omega⟩, if_pos ⟨by omega, by omega⟩, hy]
        · rw [if_neg (fun z => c z.1.symm), e4]
          by_cases d : 1 ≤ u ∧ u ≤ k
          · rw [if_pos d, if_pos ⟨d.1, by omega⟩]
          · rw [if_neg d, if_neg (by omega)]
      generalize s.A.getD (k + 1) 0 = x at *
      have g1 : (k : Int) + 1 < (o.n : Int) + 1 := by omega
      have MUs := hide (show ∀ W, Calls Try.prog 72 #[.int .i64 (x : Int), .int .i64 507307272] W fun e w' => e = .returned (.int .i64 (y : Int)) ∧ w' = W from MU)
      replace R2 := hide R2
      have g2 : (0 : Int) ≤ (k : Int) + 1 := by omega
      have g3 : ((k : Int) + 1).toNat = k + 1 := by omega
      clear MU fS ev hy
      go_wp2_with fail
      go_region_with (go_at_call 72; refine (MUs.out _).mono ?_; rintro e wq ⟨rfl, rfl⟩)
      all_goals
        go_wp2
        go_roundw
        case rel => exact ⟨k + 1, _, by go_num, by omega, R2, E2, C2⟩
        case measure => simp [intOf]; omega
    · obtain rfl : k = o.n := by omega
      have c1 := HR.out.c1
      rw [HE.out.1] at c1
      have MU := rmul_calls10 wr s.r SHR hrh.out fin_shr.1
      obtain ⟨y, hy⟩ : ∃ y, FL.fmul s.r SHR = y := ⟨_, rfl⟩
      rw [hy] at MU
      have f1 := HR.out.free 1
      have R2 := hide (HR.out.setRise y)
      have C2 := hide (HC.out.set (g := o.P) (j := 1) (by simp [rblks]) (.int .i64 (y : Int)))
      have E2 := hide HE.out.2
      replace hy := hide hy
      replace MU := hide (show Calls Try.prog 72 #[.int .i64 (s.r : Int), .int .i64 507307272] wr fun e w' => e = .returned (.int .i64 (y : Int)) ∧ w' = wr from MU)
      generalize hsr : s.r = sr at c1 MU
      replace hsr := hide hsr
      clear HE HC hlt hk
      go_wp2_with (go_at_call 72; refine MU.out.mono ?_; rintro e wq ⟨rfl, hq⟩; have hq := hq.symm; subst hq)
      go_end0
      obtain ⟨e2, e3, e4⟩ := E2.out
      refine ⟨rfl, ⟨_, R2.out, by rw [← hy.out, hsr.out], e2, e3, fun u u1 u2 => ?_⟩, C2.out⟩
      show s'.A.getD u 0 = _
      rw [e4, if_pos ⟨u1, u2⟩]
end Go.Proofs.Ytigbclhkmjcjjaa
