/-
  sink: a variable goes down to where it belongs.
-/
import Derived.Test.YtigbclhkmjcjjaaOrdLift
namespace Go.Proofs.Ytigbclhkmjcjjaa
open Go.RowKit
set_option linter.unusedVariables false
namespace O
def nx (A H : List Nat) (f c : Nat) : Nat := if c < H.length ∧ ahd A (H.getD c 0) (H.getD f 0) = true then c else f
theorem nx_lt {A H : List Nat} {f c p : Nat} (h : p < H.length → f < H.length) (hp : c < H.length → p < H.length) : p < H.length → nx A H f c < H.length := by
  intro q
  unfold nx
  split
  · rename_i x; exact x.1
  · exact h q
theorem best_nx (A H : List Nat) (p : Nat) : best A H p = nx A H (nx A H p (2 * p + 1)) (2 * p + 2) := rfl
end O
set_option maxRecDepth 100000 in
set_option maxHeartbeats 8000000 in
theorem sink_calls (w : World) (o : Oid) (s : OS) (h : Ord w o s) (hv : O.HV o.n (s.Z.take s.hl) s.pl) (hA : ∀ j, s.A.getD j 0 ≤ FL.inf) (kk p0 : Nat) (hk : kk ≤ p0) (hp : p0 < s.hl ∨ (s.hl = 0 ∧ p0 = 0)) (hu : O.Dn s.A (s.Z.take s.hl) kk p0) :
    Calls Try.prog 35 #[optr o, .int .i64 p0] w fun e w' => e = .returned (.tuple #[]) ∧ (∃ Z pl, Heaped w' o s Z pl ∧ O.HeapFrom s.A (Z.take s.hl) kk) ∧ Chg [o.gh, o.gl] w w' := by
  have hn := h.hn
  have hl := h.hhl
  have H0 : Hid (Heaped w o s s.Z s.pl) := ⟨h, hv, fun _ => Iff.rfl⟩
  have C0 : Hid (Chg [o.gh, o.gl] w w) := Chg.refl _ w
  replace hA := hide hA
  replace hu := hide hu
  clear h hv
  replace hn := hide hn
  replace hl := hide hl
  replace hp := hide hp
  go_enter Try.func35, Try.ntmps35
  go_wp2
  go_loopw [1] (fun a wr => ∃ (p : Nat) (Z : List Nat) (pl : List Int), a = .int .i64 p ∧ Hid (p < s.hl ∨ (s.hl = 0 ∧ p = 0)) ∧ Hid (kk ≤ p) ∧ Hid (Heaped wr o s Z pl) ∧ Hid (O.Dn s.A (Z.take s.hl) kk p) ∧ Hid (Chg [o.gh, o.gl] w wr)) (fun a _ => s.hl - (intOf a).toNat)
  case atStart => exact ⟨p0, s.Z, s.pl, rfl, hp, hk, H0, hu, C0⟩
  case round =>
    obtain ⟨p, Z, pl, rfl, hp, hkp, HH, hU, hC⟩ := hrel
    obtain ⟨wo, hwo⟩ : ∃ W, W = wr := ⟨_, rfl⟩
    subst hwo
    clear hu H0 C0
    have hlen := hide HH.out.len
    have pn : p ≤ 1000000 := by have := hl.out; have := hn.out; have := hp.out; omega
    have hln : s.hl ≤ 1000000 := by have := hl.out; have := hn.out; omega
    obtain ⟨a, ha⟩ : ∃ a : Nat, 2 * p + 1 = a := ⟨_, rfl⟩
    obtain ⟨b, hb⟩ : ∃ b : Nat, 2 * p + 2 = b := ⟨_, rfl⟩
    have ea : 2 * (p : Int) + 1 = (a : Int) := by omega
    have eb : 2 * (p : Int) + 2 = (b : Int) := by omega
    have HA := hide ha
    have HB := hide hb
    have ab : Hid (p < a ∧ p < b) := ⟨by omega, by omega⟩
    clear ha hb
    obtain ⟨f1, hf1⟩ : ∃ f, O.nx s.A (Z.take s.hl) p a = f := ⟨_, rfl⟩
    obtain ⟨f2, hf2⟩ : ∃ f, O.nx s.A (Z.take s.hl) f1 b = f := ⟨_, rfl⟩
    have hbst : Hid (O.best s.A (Z.take s.hl) p = f2) := by show _ = _; rw [O.best_nx, HA.out, HB.out, hf1, hf2]
    have l1 : Hid (p < s.hl → f1 < s.hl) := by
      intro q
      have := O.nx_lt (A := s.A) (H := Z.take s.hl) (f := p) (c := a) (p := p) (fun x => x) (fun x => by rw [hlen.out] at *; exact q) (by rw [hlen.out]; exact q)
      rw [hf1, hlen.out] at this
      exact this
    have i0 : ∀ w : World, (Instr.index 70 (.agg #[.int .i64 (a : Int), .int .i64 (b : Int)]) (.int .i64 0)).run Try.prog w = .ok (.int .i64 (a : Int)) w := fun _ => by kernel_rfl
    have i1 : ∀ w : World, (Instr.index 70 (.agg #[.int .i64 (a : Int), .int .i64 (b : Int)]) (.int .i64 1)).run Try.prog w = .ok (.int .i64 (b : Int)) w := fun _ => by kernel_rfl
    replace hf1 := hide hf1
    replace hf2 := hide hf2
    go_wp2_with fail
    go_loopw [4, 15] (fun f j wq => ((j = .int .i64 0 ∧ f = .int .i64 p) ∨ (j = .int .i64 1 ∧ f = .int .i64 f1) ∨ (j = .int .i64 2 ∧ f = .int .i64 f2)) ∧ Hid (∃ m, wq = wo.drewN m)) (fun _ j _ => 2 - (intOf j).toNat)
    case atStart => exact ⟨.inl ⟨rfl, rfl⟩, ⟨0, rfl⟩⟩
    case round =>
      obtain ⟨hcase, hq⟩ := hrel
      obtain ⟨wq, hwq⟩ : ∃ W, W = wr := ⟨_, rfl⟩
      subst hwq
      replace hq : ∃ m, Hid (wq = wo.drewN m) := hq.out
      obtain ⟨m, hq⟩ := hq
      have HQ : Hid (Heaped wq o s Z pl) := by show Heaped _ _ _ _ _; rw [hq.out]; exact HH.out.drewN m
      have hCq : Hid (Chg [o.gh, o.gl] w wq) := by show Chg _ _ _; rw [hq.out]; exact hC.out.drewN m
      rcases hcase with ⟨rfl, rfl⟩ | ⟨rfl, rfl⟩ | ⟨rfl, rfl⟩
      · by_cases hc : a < s.hl
        · have fl : p < s.hl := by have := ab.out; omega
          have c3 := HQ.out.ord.c3
          have cc := HQ.out.ord.hea (j := a) (by have := hl.out; omega)
          have cf := HQ.out.ord.hea (j := p) (by have := hl.out; omega)
          have AH := fun n => ahead_calls (wq.drewN n) o _ (HQ.out.ord.drewN n) hA.out (Z.getD a 0) (Z.getD p 0) (HQ.out.at_ hc) (HQ.out.at_ fl)
          have g3 : (a : Int) < (s.hl : Int) := by omega
          have g4 : (p : Int) < (s.hl : Int) := by omega
          obtain ⟨x, hx⟩ : ∃ x, Z.getD a 0 = x := ⟨_, rfl⟩
          obtain ⟨y, hy⟩ : ∃ y, Z.getD p 0 = y := ⟨_, rfl⟩
          simp only [hx, hy] at AH cc cf
          have T1 : Hid ((Z.take s.hl).getD a 0 = x) := by show _ = _; rw [O.take_getD hc, hx]
          have T2 : Hid ((Z.take s.hl).getD p 0 = y) := by show _ = _; rw [O.take_getD fl, hy]
          clear hx hy
          by_cases ha : O.ahd s.A x y = true
          · have e : Hid (f1 = a) := by
              show _ = _
              rw [← hf1.out]
              unfold O.nx
              rw [if_pos ⟨by rw [hlen.out]; exact hc, by rw [T1.out, T2.out]; exact ha⟩]
            simp only [ha] at AH
            replace AH := hide AH
            replace ha := hide ha
            clear ea eb
            go_wp2_with fail
            go_quiet ((go_at_call 33; exact Calls.quiet_of (unhide AH _)))
            go_wp2
            go_roundw
            case rel => exact ⟨.inr (.inl ⟨rfl, by rw [e.out]⟩), ⟨_, (congrArg (World.drewN · _) hq.out).trans (World.drewN_drewN _ _ _)⟩⟩
            case measure => simp [intOf]
          · have ha' : O.ahd s.A x y = false := by simpa using ha
            have e : Hid (f1 = p) := by
              show _ = _
              rw [← hf1.out]
              unfold O.nx
              rw [if_neg (fun z => ha (by rw [← T1.out, ← T2.out]; exact z.2))]
            simp only [ha'] at AH
            replace AH := hide AH
            replace ha' := hide ha'
            clear ea eb ha
            go_wp2_with fail
            go_quiet ((go_at_call 33; exact Calls.quiet_of (unhide AH _)))
            go_wp2
            go_roundw
            case rel => exact ⟨.inr (.inl ⟨rfl, by rw [e.out]⟩), ⟨_, (congrArg (World.drewN · _) hq.out).trans (World.drewN_drewN _ _ _)⟩⟩
            case measure => simp [intOf]
        · have e : Hid (f1 = p) := by
            show _ = _
            rw [← hf1.out]
            unfold O.nx
            rw [if_neg (fun z => hc (by rw [← hlen.out]; exact z.1))]
          have c3 := HQ.out.ord.c3
          have hd : decide ((a : Int) < (s.hl : Int)) = false := by simp; omega
          clear ea eb
          go_wp2_with fail
          go_quiet (fail)
          go_wp2
          go_roundw
          case rel => exact ⟨.inr (.inl ⟨rfl, by rw [e.out]⟩), ⟨_, (congrArg (World.drewN · _) hq.out).trans (World.drewN_drewN _ _ _)⟩⟩
          case measure => simp [intOf]
      · by_cases hc : b < s.hl
        · have fl : f1 < s.hl := l1.out (by have := ab.out; omega)
          have c3 := HQ.out.ord.c3
          have cc := HQ.out.ord.hea (j := b) (by have := hl.out; omega)
          have cf := HQ.out.ord.hea (j := f1) (by have := hl.out; omega)
          have AH := fun n => ahead_calls (wq.drewN n) o _ (HQ.out.ord.drewN n) hA.out (Z.getD b 0) (Z.getD f1 0) (HQ.out.at_ hc) (HQ.out.at_ fl)
          have g3 : (b : Int) < (s.hl : Int) := by omega
          have g4 : (f1 : Int) < (s.hl : Int) := by omega
          obtain ⟨x, hx⟩ : ∃ x, Z.getD b 0 = x := ⟨_, rfl⟩
          obtain ⟨y, hy⟩ : ∃ y, Z.getD f1 0 = y := ⟨_, rfl⟩
          simp only [hx, hy] at AH cc cf
          have T1 : Hid ((Z.take s.hl).getD b 0 = x) := by show _ = _; rw [O.take_getD hc, hx]
          have T2 : Hid ((Z.take s.hl).getD f1 0 = y) := by show _ = _; rw [O.take_getD fl, hy]
          clear hx hy
          by_cases ha : O.ahd s.A x y = true
          · have e : Hid (f2 = b) := by
              show _ = _
              rw [← hf2.out]
              unfold O.nx
              rw [if_pos ⟨by rw [hlen.out]; exact hc, by rw [T1.out, T2.out]; exact ha⟩]
            simp only [ha] at AH
            replace AH := hide AH
            replace ha := hide ha
            clear ea eb
            go_wp2_with fail
            go_quiet ((go_at_call 33; exact Calls.quiet_of (unhide AH _)))
            go_wp2
            go_roundw
            case rel => exact ⟨.inr (.inr ⟨rfl, by rw [e.out]⟩), ⟨_, (congrArg (World.drewN · _) hq.out).trans (World.drewN_drewN _ _ _)⟩⟩
            case measure => simp [intOf]
          · have ha' : O.ahd s.A x y = false := by simpa using ha
            have e : Hid (f2 = f1) := by
              show _ = _
              rw [← hf2.out]
              unfold O.nx
              rw [if_neg (fun z => ha (by rw [← T1.out, ← T2.out]; exact z.2))]
            simp only [ha'] at AH
            replace AH := hide AH
            replace ha' := hide ha'
            clear ea eb ha
            go_wp2_with fail
            go_quiet ((go_at_call 33; exact Calls.quiet_of (unhide AH _)))
            go_wp2
            go_roundw
            case rel => exact ⟨.inr (.inr ⟨rfl, by rw [e.out]⟩), ⟨_, (congrArg (World.drewN · _) hq.out).trans (World.drewN_drewN _ _ _)⟩⟩
            case measure => simp [intOf]
        · have e : Hid (f2 = f1) := by
            show _ = _
            rw [← hf2.out]
            unfold O.nx
            rw [if_neg (fun z => hc (by rw [← hlen.out]; exact z.1))]
          have c3 := HQ.out.ord.c3
          have hd : decide ((b : Int) < (s.hl : Int)) = false := by simp; omega
          clear ea eb
          go_wp2_with fail
          go_quiet (fail)
          go_wp2
          go_roundw
          case rel => exact ⟨.inr (.inr ⟨rfl, by rw [e.out]⟩), ⟨_, (congrArg (World.drewN · _) hq.out).trans (World.drewN_drewN _ _ _)⟩⟩
          case measure => simp [intOf]
      · clear ea eb
        by_cases hfp : f2 = p
        · subst hfp
          go_wp2
          (try simp only [Exit.inBlock, Exit.then])
          refine bodyPost_ret (results_none rfl _ _ _) rfl ?_
          exact ⟨rfl, ⟨Z, pl, HQ.out, O.dn_done hU.out hbst.out⟩, hCq.out⟩
        · have hbp : O.best s.A (Z.take s.hl) p ≠ p := by rw [hbst.out]; exact hfp
          have pl0 : p < s.hl := by
            rcases hp.out with x | ⟨x, y⟩
            · exact x
            · exfalso
              have := (O.best_is s.A (Z.take s.hl) p).1
              rcases this with z | ⟨_, z, _⟩
              · exact hbp z
              · rw [hlen.out] at z; omega
          obtain ⟨d1, d2, d3⟩ := O.dn_step hU.out hkp.out hbp (by rw [hlen.out]; exact pl0)
          rw [hbst.out] at d1 d2 d3
          rw [hlen.out] at d2
          have ne : ¬ (f2 : Int) = (p : Int) := by omega
          replace d1 := hide d1
          replace hbp := hide hbp
          clear hfp
          go_wp2_with fail
          refine (swap_calls _ o _ HQ.out.ord p f2 pl0 d2 (HQ.out.at_ pl0) (HQ.out.at_ d2)).mono ?_
          rintro e w2 ⟨rfl, O2, C2⟩
          obtain ⟨S1, S2⟩ := HQ.out.swap pl0 d2 O2
          have C3 := hCq.out.trans C2
          go_wp2
          go_roundw
          case rel =>
            refine ⟨f2, _, _, rfl, .inl d2, Nat.le_trans hkp.out (Nat.le_of_lt d3), S1, ?_, C3⟩
            show O.Dn _ _ _ _
            rw [S2]
            exact d1.out
          case measure => simp [intOf]; omega
end Go.Proofs.Ytigbclhkmjcjjaa
