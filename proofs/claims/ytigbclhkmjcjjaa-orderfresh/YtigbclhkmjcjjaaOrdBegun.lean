/-
  begun: an order on which a script has been played.
-/
import Derived.Test.YtigbclhkmjcjjaaOrdTimes
namespace Go.Proofs.Ytigbclhkmjcjjaa
open Go.RowKit
set_option linter.unusedVariables false
theorem no_calls10 (w : World) (x : Int) : Calls Try.prog 12 #[.int .i64 x] w fun e w' => e = .returned (.int .i64 x) ∧ w' = w := by
  go_enter Try.func12, Try.ntmps12
  go_wp2
  go_ret
  exact ⟨rfl, rfl⟩
theorem Ord.notin {w : World} {o : Oid} {s : OS} (h : Ord w o s) {g : Nat} {c : Array Value} (hg : w.heap[g]? = some (.cells c 45 (0, 0))) : g ∉ blks o := by
  intro hb
  obtain ⟨h1, h2, h3, h4, h5, _⟩ := h
  unfold OwnF at h2
  unfold OwnB at h3
  unfold OwnZ at h4
  unfold Own at h5
  simp only [blks, List.mem_cons, List.not_mem_nil, or_false] at hb
  rcases hb with rfl | rfl | rfl | rfl | rfl
  · rw [h1] at hg; cases hg
  · rw [h2] at hg; cases hg
  · rw [h3] at hg; cases hg
  · rw [h4] at hg; cases hg
  · rw [h5] at hg; cases hg
theorem op_cells {w : World} {g : Nat} {k n t : Int} {s u : Bool} (h : w.heap[g]? = some (.cells #[.int .i64 k, .bool s, .int .i64 n, .bool u, .int .i64 t] 45 (0, 0))) :
    w.cell? ⟨g, 0, none⟩ = some (.int .i64 k) ∧ w.cell? ⟨g, 1, none⟩ = some (.bool s) ∧ w.cell? ⟨g, 2, none⟩ = some (.int .i64 n) ∧ w.cell? ⟨g, 3, none⟩ = some (.bool u) ∧ w.cell? ⟨g, 4, none⟩ = some (.int .i64 t) := by
  refine ⟨?_, ?_, ?_, ?_, ?_⟩ <;> (rw [block_cell h]; rfl)
theorem below_chg {w w1 w2 : World} {S : List Nat} (h : Below w.heap.size w w1) (hS : ∀ b, b ∈ S → w.heap.size ≤ b) (q : Chg S w1 w2) : Below w.heap.size w w2 :=
  ⟨q.os.trans h.os, q.tape.trans h.tape, q.output.trans h.output, Nat.le_trans h.size q.size, fun b hb => (q.block b (Nat.lt_of_lt_of_le hb h.size) (fun c => by have := hS b c; omega)).trans (h.block b hb)⟩
/-- How many variables. -/
def bsize (n : Int) : Nat := if 0 < n then 1 + (n.tmod 60).toNat else 1
theorem bsize_le (n : Int) : 1 ≤ bsize n ∧ bsize n ≤ 60 := by
  unfold bsize
  split
  · have := Int.tmod_lt_of_pos n (show (0 : Int) < 60 by decide)
    omega
  · omega
set_option maxRecDepth 100000 in
set_option maxHeartbeats 16000000 in
theorem begun_calls (w : World) (n : Int) (v : Value) (l : List POp) (hv : Pops w.heap.size w v l) :
    Calls Try.prog 9 #[.int .i64 n, v] w fun e w' => ∃ o, e = .returned (.tuple #[optr o, .int .i64 (o.n : Nat)]) ∧ 1 ≤ o.n ∧ o.n ≤ 60 ∧ (∀ b, b ∈ blks o → w.heap.size ≤ b) ∧ Below w.heap.size w w' ∧ ∃ s, Good w' o s ∧ Fit s := by
  obtain ⟨a, cap, rfl, hln, h2⟩ := id hv
  clear h2
  replace hv := hide hv
  obtain ⟨k, hk⟩ : ∃ k, bsize n = k := ⟨_, rfl⟩
  have hkb := bsize_le n
  rw [hk] at hkb
  have ek : 0 < n → 1 + n.tmod 60 = (k : Int) := by
    intro h
    rw [← hk]
    unfold bsize
    rw [if_pos h]
    have := Int.tmod_nonneg 60 (Int.le_of_lt h)
    omega
  have ek2 : ¬ 0 < n → k = 1 := by
    intro h
    rw [← hk]
    unfold bsize
    rw [if_neg h]
  have NW := hide (new_calls w k (by omega))
  clear hk
  rcases Int.lt_or_le 0 n with hn | hn
  case' inl =>
    have e := ek hn
    have hd : decide (0 < n) = true := by simpa using hn
    have hm := Int.tmod_nonneg 60 (Int.le_of_lt hn)
    have hm2 := Int.tmod_lt_of_pos n (show (0 : Int) < 60 by decide)
    clear ek ek2 hn
    go_enter Try.func9, Try.ntmps9
    go_wp2_with fail
    clear e hd hm hm2
  case' inr =>
    have hn : ¬ 0 < n := by omega
    have e := ek2 hn
    have hd : decide (0 < n) = false := by simpa using hn
    subst e
    replace NW := hide (show Calls Try.prog 19 #[.int .i64 1] w _ from NW.out)
    clear ek ek2 hn
    go_enter Try.func9, Try.ntmps9
    go_wp2_with fail
    clear hd
  all_goals
    refine NW.out.mono ?_
    rintro e w1 ⟨o, hon, rfl, O1, hb, C1⟩
    have hon2 : 1 ≤ o.n ∧ o.n ≤ 60 := by rw [hon]; exact hkb
    rw [← hon] at O1
    have G1 := newO_good O1
    replace hon := hide hon
    have F1 := newO_fit o.n
    have hz : (newO o.n).Z.getD 0 0 = 1 := newZ_at (by omega)
    have TK := take_calls w1 o (newO o.n) G1 (show 0 < o.n by omega)
    rw [hz] at TK
    replace TK := hide TK
    clear NW O1 G1 hz
    replace hb := hide hb
    replace C1 := hide C1
    replace F1 := hide F1
    go_wp2_with (go_at_call 12; refine (no_calls10 _ _).mono ?_; rintro e wz ⟨rfl, rfl⟩)
    refine TK.out.mono ?_
    rintro e w2 ⟨rfl, ⟨s2, G2, eA, eR, eP, eL, eW⟩, C2⟩
    have hp1 : s2.pl.getD 1 0 = -1 := (eW 1).2 (.inr rfl)
    have HS := has_calls w2 o s2 G2.ord 1 (Nat.le_refl _) (by omega)
    rw [hp1] at HS
    have PT := put_calls w2 o s2 G2 1 (Nat.le_refl _) (by omega) hp1
    have F2 : Fit s2 := ⟨by rw [eA]; exact F1.out.act, by rw [eR]; exact F1.out.pos, by rw [eR]; exact F1.out.rise⟩
    replace HS := hide HS
    replace PT := hide PT
    replace F2 := hide F2
    replace C2 := hide (C1.out.mono (S' := blks o) (fun b hb => by simp at hb) |>.trans C2)
    clear TK eA eR eP eL eW hp1 F1 C1 G2
    go_wp2_with (go_at_call 12; refine (no_calls10 _ _).mono ?_; rintro e wz ⟨rfl, rfl⟩)
    refine HS.out.mono ?_
    rintro e w3 ⟨rfl, rfl⟩
    clear HS
    go_wp2_with (go_at_call 12; refine (no_calls10 _ _).mono ?_; rintro e wz ⟨rfl, rfl⟩)
    refine PT.out.mono ?_
    rintro e w4 ⟨rfl, ⟨s4, G4, eA, eR, eP, eL, eW⟩, C4⟩
    have hp1 : s4.pl.getD 1 0 ≠ -1 := fun c => ((eW 1).1 c).2 rfl
    have HS := has_calls w4 o s4 G4.ord 1 (Nat.le_refl _) (by omega)
    rw [decide_eq_true hp1] at HS
    have F4 : Fit s4 := ⟨by rw [eA]; exact F2.out.act, by rw [eR]; exact F2.out.pos, by rw [eR]; exact F2.out.rise⟩
    replace HS := hide HS
    replace F4 := hide F4
    replace G4 := hide G4
    replace C4 := hide (C2.out.trans C4)
    clear PT eA eR eP eL eW hp1 F2 C2
    go_wp2_with (go_at_call 12; refine (no_calls10 _ _).mono ?_; rintro e wz ⟨rfl, rfl⟩)
    refine HS.out.mono ?_
    rintro e w5 ⟨rfl, rfl⟩
    clear HS
    go_wp2_with (go_at_call 12; refine (no_calls10 _ _).mono ?_; rintro e wz ⟨rfl, rfl⟩)
    have B4 := hide (C4.out.below (Nat.le_refl _) hb.out)
    clear C4
    go_loopw [15] (fun i wr => ∃ (j : Nat) (s : OS), i = .int .i64 j ∧ j ≤ l.length ∧ Hid (Good wr o s) ∧ Hid (Fit s) ∧ Hid (Below w.heap.size w wr)) (fun i _ => l.length - (intOf i).toNat)
    case atStart => exact ⟨0, s4, rfl, Nat.zero_le _, G4, F4, B4⟩
    case round =>
      obtain ⟨j, s, rfl, hj, G, F, BB⟩ := hrel
      clear G4 F4 B4
      by_cases hlt : j < l.length
      · obtain ⟨a', cap', e', _, hc⟩ := hv.out.below BB.out
        cases e'
        obtain ⟨b, off, rfl, hbb, hc⟩ := hc (by intro e; rw [e] at hlt; simp at hlt)
        obtain ⟨c0, c1, c2, c3, c4⟩ := hc j hlt
        clear hc
        obtain ⟨⟨ok, os, on, ou, ot⟩, hx⟩ : ∃ x, l.getD j POp.z = x := ⟨_, rfl⟩
        rw [hx] at c0 c1 c2 c3 c4
        simp only at c0 c1 c2 c3 c4
        have jl : (j : Int) < (l.length : Int) := by omega
        replace hx := hide hx
        go_wp2_with fail
        have A0 : Hid ((wr.alloc (.cells #[.int .i64 ok, .bool os, .int .i64 on, .bool ou, .int .i64 ot] 45)).heap[wr.heap.size]? = some (.cells #[.int .i64 ok, .bool os, .int .i64 on, .bool ou, .int .i64 ot] 45 (0, 0))) := heap_alloc_new wr _
        have CA : Chg [] wr (wr.alloc (.cells #[.int .i64 ok, .bool os, .int .i64 on, .bool ou, .int .i64 ot] 45)) := (Chg.refl _ wr).alloc _
        have G0 := hide (G.out.keep CA (fun _ _ => by simp))
        have B0 := hide (below_chg BB.out hb.out (CA.mono (S' := blks o) (fun b hb => by simp at hb)))
        have hT1 := POp.count_le ⟨ok, os, on, ou, ot⟩
        generalize hT : POp.count ⟨ok, os, on, ou, ot⟩ = T at hT1
        replace hT := hide hT
        clear G BB CA c0 c1 c2 c3 c4 hc
        generalize (wr.alloc (.cells #[.int .i64 ok, .bool os, .int .i64 on, .bool ou, .int .i64 ot] 45)) = wa at A0 G0 B0 ⊢
        generalize wr.heap.size = g at A0 ⊢
        generalize (Value.agg #[.int .i64 ok, .bool os, .int .i64 on, .bool ou, .int .i64 ot]) = sv82
        go_loopw [17] (fun i wr => ∃ (q : Nat) (s : OS), i = .int .i64 q ∧ q ≤ T ∧ Hid (Good wr o s) ∧ Hid (Fit s) ∧ Hid (Below w.heap.size w wr) ∧ Hid (wr.heap[g]? = some (.cells #[.int .i64 ok, .bool os, .int .i64 on, .bool ou, .int .i64 ot] 45 (0, 0)))) (fun i _ => T - (intOf i).toNat)
        case atStart => exact ⟨0, s, rfl, Nat.zero_le _, G0, F, B0, A0⟩
        case round =>
          obtain ⟨q, s, rfl, hq, G, F, BB, AA⟩ := hrel
          clear G0 B0 A0
          obtain ⟨d0, d1, d2, d3, d4⟩ := op_cells AA.out
          have TM := times_calls wr ⟨ok, os, on, ou, ot⟩
          rw [hT.out] at TM
          unfold POp.val at TM
          simp only at TM
          replace TM := hide TM
          go_wp2_with fail
          refine TM.out.mono ?_
          rintro e w6 ⟨rfl, C6⟩
          have G6 := hide (G.out.keep C6 (fun _ _ => by simp))
          have A6 := C6.keep AA.out (by simp)
          have B6 := hide (below_chg BB.out hb.out (C6.mono (S' := blks o) (fun b hb => by simp at hb)))
          obtain ⟨d0, d1, d2, d3, d4⟩ := op_cells A6
          have ng := G6.out.ord.notin A6
          replace A6 := hide A6
          replace ng := hide ng
          clear G BB AA TM C6
          by_cases hlq : q < T
          · have lq : (q : Int) < (T : Int) := by omega
            have STEP : ∀ w7, Holds w6 w7 o → Hid (∃ s, Good w7 o s ∧ Fit s) ∧ Hid (Below w.heap.size w w7) ∧ Hid (w7.heap[g]? = some (.cells #[.int .i64 ok, .bool os, .int .i64 on, .bool ou, .int .i64 ot] 45 (0, 0))) := by
              rintro w7 ⟨⟨s7, G7, F7, _⟩, C7⟩
              exact ⟨⟨s7, G7, F7⟩, below_chg B6.out hb.out C7, C7.keep A6.out ng.out⟩
            replace STEP := hide STEP
            by_cases k1 : ok = 1
            · have K := hide (bump_any w6 o s G6.out F.out on)
              go_wp2_with fail
              refine K.out.mono ?_
              rintro e w7 ⟨⟨x, rfl⟩, HH⟩
              obtain ⟨⟨s7, G7, F7⟩, B7, A7⟩ := STEP.out w7 HH
              clear HH STEP
              go_wp2
              go_roundw
              case rel => exact ⟨q + 1, s7, by go_num, by omega, G7, F7, B7, A7⟩
              case measure => simp [intOf]; omega
            · by_cases k2 : ok = 2
              · have K := hide (decay_any w6 o s G6.out F.out)
                go_wp2_with fail
                refine K.out.mono ?_
                rintro e w7 ⟨rfl, HH⟩
                obtain ⟨⟨s7, G7, F7⟩, B7, A7⟩ := STEP.out w7 HH
                clear HH STEP
                go_wp2
                go_roundw
                case rel => exact ⟨q + 1, s7, by go_num, by omega, G7, F7, B7, A7⟩
                case measure => simp [intOf]; omega
              · by_cases k5 : ok = 5
                · have K := hide (put_any w6 o s G6.out F.out on)
                  go_wp2_with fail
                  refine K.out.mono ?_
                  rintro e w7 ⟨⟨x, rfl⟩, HH⟩
                  obtain ⟨⟨s7, G7, F7⟩, B7, A7⟩ := STEP.out w7 HH
                  clear HH STEP
                  go_wp2
                  go_roundw
                  case rel => exact ⟨q + 1, s7, by go_num, by omega, G7, F7, B7, A7⟩
                  case measure => simp [intOf]; omega
                · by_cases k6 : ok = 6
                  · have K := hide (take_any w6 o s G6.out F.out)
                    go_wp2_with fail
                    refine K.out.mono ?_
                    rintro e w7 ⟨⟨x, rfl⟩, HH⟩
                    obtain ⟨⟨s7, G7, F7⟩, B7, A7⟩ := STEP.out w7 HH
                    clear HH STEP
                    go_wp2
                    go_roundw
                    case rel => exact ⟨q + 1, s7, by go_num, by omega, G7, F7, B7, A7⟩
                    case measure => simp [intOf]; omega
                  · by_cases k9 : ok = 9
                    · have K := hide (save_any w6 o s G6.out F.out on ou)
                      go_wp2_with fail
                      refine K.out.mono ?_
                      rintro e w7 ⟨⟨x, rfl⟩, HH⟩
                      obtain ⟨⟨s7, G7, F7⟩, B7, A7⟩ := STEP.out w7 HH
                      clear HH STEP
                      go_wp2
                      go_roundw
                      case rel => exact ⟨q + 1, s7, by go_num, by omega, G7, F7, B7, A7⟩
                      case measure => simp [intOf]; omega
                    · clear STEP
                      go_wp2
                      go_roundw
                      case rel => exact ⟨q + 1, s, by go_num, by omega, G6, F, B6, A6⟩
                      case measure => simp [intOf]; omega
          · have lq : ¬ (q : Int) < (T : Int) := by omega
            go_wp2
            go_roundw
            case rel => exact ⟨j + 1, s, by go_num, by omega, G6, F, B6⟩
            case measure => simp [intOf]; omega
      · have hlt' : ¬ (j : Int) < (l.length : Int) := by omega
        go_wp2
        go_ret2
        exact ⟨o, by rw [hon.out]; rfl, hon2.1, hon2.2, hb.out, BB.out, s, G.out, F.out⟩
end Go.Proofs.Ytigbclhkmjcjjaa
