/-
  Decay.
-/
import Derived.Test.YtigbclhkmjcjjaaOrdBump
namespace Go.Proofs.Ytigbclhkmjcjjaa
open Go.RowKit
set_option linter.unusedVariables false
set_option maxRecDepth 100000 in
set_option maxHeartbeats 8000000 in
theorem decay_calls (w : World) (o : Oid) (s : OS) (h : Good w o s) :
    Calls Try.prog 22 #[optr o] w fun e w' => e = .returned (.tuple #[]) ∧ (∃ s', Good w' o s' ∧ Like s s' ∧ (s'.A, s'.r) = s.decay) ∧ Chg (blks o) w w' := by
  have hn := h.ord.hn
  have c1 := h.ord.c1
  have f1 := h.ord.free 1
  obtain ⟨a1, a2⟩ := FL.div_ok h.rise fin_dcy.1 fin_dcy.2
  have hQ := quo_run h.rise fin_dcy.1 fin_dcy.2
  have O1 := h.ord.setRise (FL.fdiv s.r DCY)
  have C1 : Chg (blks o) w (w.setCell ⟨o.P, 1, none⟩ (.float .f32 (FL.fdiv s.r DCY))) := (Chg.refl _ w).set (by simp [blks]) _
  have H := hide h
  clear h a1
  have T0 : Hid (s.decay = if TOPB < FL.fdiv s.r DCY then (s.A.map (FL.fmul · SHR), FL.fmul (FL.fdiv s.r DCY) SHR) else (s.A, FL.fdiv s.r DCY)) := rfl
  obtain ⟨x, hx⟩ : ∃ x, FL.fdiv s.r DCY = x := ⟨_, rfl⟩
  rw [hx] at hQ a2 O1 C1 T0
  rw [show DCY = 1064514355 from rfl] at hQ
  have hS := flt_store
  replace a2 := hide a2
  replace O1 := hide O1
  replace C1 := hide C1
  clear hx
  have hF : ∀ W : World, (callFunc 26 #[.int .u32 1064514355]).run Try.prog W = .ok (.value (.float .f32 1064514355)) W := from_run 1064514355
  go_enter Try.func22, Try.ntmps22
  go_wp2_with fail
  go_region
  clear c1 f1 hQ hS hF
  have hF : ∀ W : World, (callFunc 26 #[.int .u32 1621981420]).run Try.prog W = .ok (.value (.float .f32 1621981420)) W := from_run 1621981420
  generalize (World.setCell w _ _) = W1 at O1 C1 ⊢
  have c1 := O1.out.c1
  simp only at c1
  have ht := order_gt a2.out (Nat.le_of_lt fin_top)
  by_cases htop : TOPB < x
  · have SH := hide (fun n => shrink_calls (W1.drewN n) o _ (O1.out.drewN n) H.out.hv H.out.act a2.out)
    rw [if_pos htop] at T0
    have ht' : (FloatKind.f32.format.order x 1621981420 == some .gt) = true := by rw [show (1621981420 : Nat) = TOPB from rfl, ht]; simp [htop]
    replace htop := hide htop
    clear ht
    go_wp2_with fail
    go_quiet (fail)
    go_wp2_with fail
    refine (unhide SH _).mono ?_
    rintro e w2 ⟨rfl, ⟨Z, pl, hh, hp⟩, C2⟩
    go_wp2
    go_end0
    refine ⟨rfl, ⟨_, ⟨hh.ord, hh.hv, hp, ?_, ?_⟩, ⟨rfl, rfl, hh.same⟩, ?_⟩, (C1.out.drewN _).trans C2⟩
    · exact map_inf H.out.act
    · exact (FL.mul_ok a2.out fin_shr.1 fin_shr.2).2
    · rw [T0.out]; rfl
  · have ht' : (FloatKind.f32.format.order x 1621981420 == some .gt) = false := by rw [show (1621981420 : Nat) = TOPB from rfl, ht]; simpa using htop
    rw [if_neg htop] at T0
    replace htop := hide htop
    clear ht
    go_wp2_with fail
    go_quiet (fail)
    go_wp2
    go_end0
    exact ⟨rfl, ⟨_, ⟨O1.out, H.out.hv, H.out.heap, H.out.act, a2.out⟩, ⟨rfl, rfl, fun _ => Iff.rfl⟩, T0.out.symm⟩, C1.out.drew.drewN _⟩
end Go.Proofs.Ytigbclhkmjcjjaa
