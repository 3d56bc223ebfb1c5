/-
  The document's 'Forest'.
-/
import Derived.Test.YtackibimlpkcmaaGreatDoorKz16
import Derived.Test.YtackibimlpkcmaaGreatDoorKz29
/- ==== NodeForest ==== -/
namespace Go.Proofs.YtackibimlpkcmaaGreatDoor
open Go.RowKit
set_option linter.unusedVariables false
set_option maxRecDepth 100000 in
set_option maxHeartbeats 3200000 in
theorem rforest_calls (w : World) (B : Nat) (v : Value) (ns : List Nd) (h : Nds B w v ns) (hB : B ≤ w.heap.size) :
    Calls Tryz.prog 21 #[v] w fun e w' => e = .returned (.bool (forestB ns)) ∧ Below w.heap.size w w' := by
  obtain ⟨i0, hi, hz0, hz1, hz2⟩ := info_parts ndInfoInt
  have hN := hide h
  obtain ⟨a, cap, rfl, h1, h2, h3, h4⟩ := h
  clear h3 h4
  go_enter Tryz.func21, Tryz.ntmps21
  go_wp2_with (first
    | (at_make; refine wpList_make_own _ rfl _ _ 59 rfl w.heap.size 3 i0 (.int .i64 0) 1 ndSliceInt hi hz0 hz1 .i64 .i64 _ 0 rfl rfl (by omega) (by omega) (by unfold maxLen; omega) (Nat.le_refl _) ?_; intro w0 hown0 hgrow0; have B0 : Hid (Below w.heap.size w w0) := (Below.refl _ w).grown hgrow0 (Nat.le_refl _) (by simp); replace hown0 := hide hown0; replace hgrow0 := hide hgrow0; have hs0 := B0.out.size)
    | (at_builtin; refine wpList_append_own _ rfl _ _ 59 rfl w.heap.size 3 i0 (.int .i64 0) 1 8 ndSliceInt hi hz0 hz1 hz2 rfl (by decide) _ _ _ rfl (hown0.out.alloc _) ⟨w0.heap.size, 0, none⟩ 1 1 [.int .i64 ns.length] rfl rfl (cell_one_new _ _ _) (by simp [Value.oneCell']) (by unfold maxLen; omega) (by omega) (by simp; omega) ?_; intro v' w1 hown' hgrow _; replace hown' := hide hown'; replace hgrow := hide hgrow; have B1 : Hid (Below w.heap.size w w1) := (B0.out.alloc hs0 _).grown hgrow.out (by simp; omega) (fun g hg => ((hown0.out.lt g hg).1))))
  have O1 : Hid (OwnS w1 w.heap.size v' (stk [ns.length])) := hown'.out
  clear hown' hgrow B0 hown0 hgrow0 hs0
  go_loopw [3, 4] (fun u j wr => ∃ (q : Nat) (S : List Nat), q ≤ ns.length ∧ j = .int .i64 q ∧ Hid (FoI ns q S) ∧ Hid (OwnS wr w.heap.size u (stk S)) ∧ Hid (Below w.heap.size w wr)) (fun _ j _ => ns.length - (intOf j).toNat)
  case atStart => exact ⟨0, [ns.length], Nat.zero_le _, rfl, FoI.start ns, O1, B1⟩
  case round =>
    obtain ⟨q, S, hq, rfl, hF, hO, hBw⟩ := hrel
    by_cases hlt : q < ns.length
    · go_wp2
      go_loopw [3] (fun u wr' => ∃ S, wr' = wr ∧ Hid (FoI ns q S) ∧ Hid (OwnS wr w.heap.size u (stk S))) (fun u _ => lenOf u)
      case atStart => exact ⟨S, rfl, hF, hO⟩
      case round =>
        obtain ⟨S, hwr, hF, hO⟩ := hrel
        subst hwr
        obtain ⟨top, T, rfl, htop⟩ := hF.out.top
        obtain ⟨g, cp, rfl, hc1, hc2, hg1, hg2, hcell, hpop⟩ := stack_top hO.out
        have hT := hF.out.2.2.2
        rw [List.length_cons] at hT
        have hwr2 : IntKind.i64.wrap ((T.length : Int) + 1 - 1) = (T.length : Int) := by rw [IntKind.wrap_i64]; omega
        by_cases htq : top = q
        · subst htq
          have hF2 := hide (hF.out.pop hlt)
          replace hpop := hide hpop
          go_wp2
          go_roundw
          case rel => exact ⟨T, trivial, hF2, hpop⟩
          case measure => simp [lenOf]
        · replace hpop := hide hpop
          have hNw := hN.out.below (hBw.out.mono hB)
          have q1 := hide (after_calls wr B _ ns hNw q hlt top htop)
          obtain ⟨b, off, rfl, hb, c0, -, -, -, -⟩ := hNw.at_ hlt
          replace hNw := hide hNw
          by_cases hk : (ns.getD q Nd.z).ok q top
          · have q2 : Hid (Calls Tryz.prog 33 #[.slice (some ⟨b, off, none⟩) ns.length cap, .int .i64 q, .int .i64 top] wr fun e w' => e = .returned (.int .i64 (q + (ns.getD q Nd.z).size)) ∧ Below wr.heap.size wr w') :=
              q1.out.mono fun e w' ⟨he, hb⟩ => ⟨he.elim (fun h => h.2) (fun h => absurd hk h.1), hb⟩
            clear q1
            have hsz := ok_size hk htq
            have A1 := hide (fun h1 => hF.out.list hlt htq hk h1)
            have A2 := hide (fun h1 => hF.out.atom hlt htq hk h1)
            have A3 := hide (fun h1 h2 => hF.out.one hlt htq hk h1 h2)
            have hO2 := hO.out
            unfold OwnS at hO2
            rw [stk_len, List.length_cons] at hO2
            replace hO2 := hide hO2
            replace hk := hide hk
            have hBx := hBw.out.size
            generalize (ns.getD q Nd.z).size = sz at *
            generalize (ns.getD q Nd.z).kind = kd at *
            obtain ⟨z, rfl⟩ : ∃ z : Nat, sz = z := ⟨sz.toNat, by omega⟩
            by_cases hk1 : kd = 1
            · subst hk1
              by_cases hz9 : z = 1
              · subst hz9
                have A4 := hide (A3.out rfl rfl)
                go_wp2_with (go_at_call 33; refine (q2.out).mono ?_; rintro e w5 ⟨rfl, b5⟩; have c0' := (b5.cell (p := ⟨b, off + q * 5, none⟩) (by simp; omega)).trans c0; replace b5 := hide b5)
                go_roundw
                case rel => exact ⟨q + 1, _, by omega, by simp, A4.out, hO.out.belowS b5.out, thenB hBw.out b5.out (by omega)⟩
                case measure => simp [intOf]; omega
              · have hzg : 1 < z := by omega
                have hz3 := hsz.2.1 rfl
                have A4 := hide (A1.out rfl)
                go_wp2_with (first
                  | (go_at_call 33; refine (q2.out).mono ?_; rintro e w5 ⟨rfl, b5⟩; have c0' := (b5.cell (p := ⟨b, off + q * 5, none⟩) (by simp; omega)).trans c0; replace b5 := hide b5; have O5 : Hid (w5.ownsRow w.heap.size 3 1 (.slice (some ⟨g, 0, none⟩) (T.length + 1) cp) (T.length + 1) ((stk (top :: T)).map (Value.int .i64))) := ownsRow_below hO2.out b5.out; have hs5 := b5.out.size)
                  | (at_builtin; (refine wpList_append_own _ rfl _ _ 59 rfl w.heap.size 3 i0 (.int .i64 0) 1 8 ndSliceInt hi hz0 hz1 hz2 rfl (by decide) _ _ _ rfl (O5.out.alloc _) ⟨w5.heap.size, 0, none⟩ 1 1 [.int .i64 (q + z)] rfl rfl (cell_one_new _ _ _) (by simp [Value.oneCell']) (by unfold maxLen; omega) (by omega) (by simp; omega) ?_; intro v7 w7 hown7 hgrow7 _; replace hown7 := hide hown7; replace hgrow7 := hide hgrow7; have B7 : Hid (Below w.heap.size w w7) := ((thenB hBw.out b5.out (by omega)).alloc (by omega) _).grown hgrow7.out (by simp; omega) (fun g hg => ((O5.out.lt g hg).1)))))
                go_roundw
                case rel => exact ⟨q + 1, _, by omega, by simp, A4.out, by rw [stk_cons]; exact OwnS.snoc (by rw [stk_len]; simpa using hown7.out), B7⟩
                case measure => simp [intOf]; omega
            · go_wp2_with (go_at_call 33; refine (q2.out).mono ?_; rintro e w5 ⟨rfl, b5⟩; have c0' := (b5.cell (p := ⟨b, off + q * 5, none⟩) (by simp; omega)).trans c0; replace b5 := hide b5)
              go_roundw
              case rel => exact ⟨q + 1, _, by omega, by simp, A2.out hk1, hO.out.belowS b5.out, thenB hBw.out b5.out (by omega)⟩
              case measure => simp [intOf]; omega
          · have q2 : Hid (Calls Tryz.prog 33 #[.slice (some ⟨b, off, none⟩) ns.length cap, .int .i64 q, .int .i64 top] wr fun e w' => e = .returned (.int .i64 (-1)) ∧ Below wr.heap.size wr w') :=
              q1.out.mono fun e w' ⟨he, hb⟩ => ⟨he.elim (fun h => absurd h.1 hk) (fun h => h.2), hb⟩
            clear q1
            have e1 := hide (hF.out.no hlt htq hk)
            replace hk := hide hk
            go_wp2_with (go_at_call 33; refine (q2.out).mono ?_; rintro e w5 ⟨rfl, b5⟩; replace b5 := hide b5)
            go_ret
            exact ⟨congrArg (fun b => Ending.returned (.bool b)) e1.out.symm, thenB hBw.out b5.out (by omega)⟩
    · obtain rfl : q = ns.length := by omega
      have e1 := hide hF.out.fin
      go_wp2
      go_ret
      exact ⟨congrArg (fun b => Ending.returned (.bool b)) e1.out.symm, hBw.out⟩
end Go.Proofs.YtackibimlpkcmaaGreatDoor
