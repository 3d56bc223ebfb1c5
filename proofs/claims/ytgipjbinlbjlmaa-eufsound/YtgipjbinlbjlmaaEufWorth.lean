/-
  euf: worth: what the nodes are worth in a structure.
-/
import Derived.Test.YtgipjbinlbjlmaaEufMem
import Derived.Laws.AppendOwn
namespace Go.Proofs.Ytgipjbinlbjlmaa
open Go.RowKit
set_option linter.unusedVariables false
theorem wInfoInt : (Try.prog.info? 3).map (fun i => (i.zero, i.size, i.bytes)) = some (some (.int .i64 0), 1, 8) := by kernel_rfl
theorem wSliceInt : Try.prog.underlying 24 = some (.slice 3) := by kernel_rfl
def OwnW (w : World) (B : Nat) (v : Value) (xs : List Int) : Prop := w.ownsRow B 3 1 v xs.length (xs.map (Value.int .i64))
theorem OwnW.row {w : World} {B : Nat} {v : Value} {xs : List Int} (h : OwnW w B v xs) (hl : xs.length ≤ 35184372088832) : IRow w.heap.size w v xs := by
  obtain ⟨h1, h2⟩ := h
  rcases h2 with ⟨rfl, h0⟩ | ⟨g, cap, cur, rfl, hB, hg, hn, hm, hs, ht⟩
  · have : xs = [] := List.length_eq_zero_iff.1 h0
    subst this
    exact ⟨none, 0, rfl, by simp, fun h => absurd rfl h⟩
  · refine ⟨some ⟨g, 0, none⟩, cap, rfl, hl, fun _ => ⟨g, 0, rfl, (Array.getElem?_eq_some_iff.1 hg).1, fun j hj => ?_⟩⟩
    have e : cur.toList[j]? = some (Value.int .i64 (xs.getD j 0)) := by
      have : (xs.map (Value.int .i64))[j]? = some (Value.int .i64 (xs.getD j 0)) := by
        rw [List.getElem?_map, List.getElem?_eq_getElem hj, List.getD_eq_getElem?_getD, List.getElem?_eq_getElem hj]; rfl
      rw [← ht, List.getElem?_take] at this
      split at this
      · exact this
      · cases this
    rw [Nat.zero_add, cell_of_row w g j cur _ (0, 0) hg]
    simpa using e
theorem hOf_yes {fs : List E.Fl} {ws : List Int} {i : Nat} {fn : Int} {xs : List Int} (h : fs.getD i E.f0 = ⟨fn, xs⟩) (h0 : 0 ≤ fn) : E.hOf fs ws i = E.hTo (3 + fn.tmod 1000003) (xs.map fun x => ws.getD x.toNat 0) xs.length + xs.length := by
  unfold E.hOf
  rw [h, if_pos h0]
theorem hOf_no {fs : List E.Fl} {ws : List Int} {i : Nat} {fn : Int} {xs : List Int} (h : fs.getD i E.f0 = ⟨fn, xs⟩) (h0 : ¬ 0 ≤ fn) : E.hOf fs ws i = 7 * i + 1 := by
  unfold E.hOf
  rw [h, if_neg h0]
set_option maxRecDepth 100000 in
set_option maxHeartbeats 4000000 in
theorem worth_calls (w : World) (B : Nat) (vn vt : Value) (fs : List E.Fl) (tb : List Int) (sz : Int) (hB : B ≤ w.heap.size) (h1 : Flats B w vn fs) (h2 : IRow B w vt tb) (z1 : 1 ≤ sz) (z2 : sz ≤ 8) (hs : E.soundB fs = true) (hn : fs.length ≤ 4398046511104) :
    Calls Try.prog 8 #[vn, vt, .int .i64 sz] w fun e w' => (∃ r, e = .returned r ∧ IRow w'.heap.size w' r (E.wsTo tb sz fs fs.length)) ∧ Below w.heap.size w w' := by
  obtain ⟨i0, hi, hz0, hz1, hz2⟩ := info_parts wInfoInt
  obtain ⟨an, cn, rfl, -⟩ := h1.shape
  obtain ⟨at', ct, rfl, tn⟩ := h2.shape
  replace h1 := hide h1
  replace h2 := hide h2
  replace hs := hide hs
  have O0 : Hid (OwnW w w.heap.size (.slice none 0 0) (E.wsTo tb sz fs 0)) := World.ownsRow_nil _ _ _ _
  have R0 : Hid (Below w.heap.size w w) := Below.refl _ _
  go_enter Try.func8, Try.ntmps8
  go_wp2_with fail
  go_loopw [7, 8] (fun v x wr => ∃ k : Nat, x = .int .i64 (k : Int) ∧ k ≤ fs.length ∧ Hid (OwnW wr w.heap.size v (E.wsTo tb sz fs k)) ∧ Hid (Below w.heap.size w wr)) (fun _ x _ => fs.length - (intOf x).toNat)
  case atStart => exact ⟨0, rfl, Nat.zero_le _, O0, R0⟩
  case round =>
    clear O0 R0
    obtain ⟨k, rfl, hk, OO, BB⟩ := hrel
    have wl := E.wsTo_len tb sz fs k
    by_cases hlt : k < fs.length
    · obtain ⟨bn, on, rfl, hbn, c0, u, c1, R⟩ := (h1.out.below (BB.out.mono hB)).at_ hlt
      obtain ⟨ua, uc, rfl, un⟩ := R.shape
      have kl : (k : Int) < (fs.length : Int) := by omega
      have ah := E.sound_at hs.out hlt
      obtain ⟨F, hF⟩ : ∃ F, fs.getD k E.f0 = F := ⟨_, rfl⟩
      rw [hF] at R un c0 c1 ah
      obtain ⟨fn, xs⟩ := F
      simp only at R un c0 c1 ah
      have WI := OO.out.row (by rw [wl]; omega)
      obtain ⟨aw, cw, ew, -⟩ := WI.shape
      rw [wl] at ew
      subst ew
      have wbd := hide (fun j => E.ws_bd tb (show 0 < sz by omega) fs k j)
      have wstep : Hid (E.wsTo tb sz fs (k + 1) = E.wsTo tb sz fs k ++ [E.pos (E.vOf tb sz (E.hOf fs (E.wsTo tb sz fs k) k))]) := rfl
      have HY := hide (fun h0 => hOf_yes (ws := E.wsTo tb sz fs k) hF h0)
      have HN := hide (fun h0 => hOf_no (ws := E.wsTo tb sz fs k) hF h0)
      clear hF
      generalize hws : E.wsTo tb sz fs k = ws at *
      generalize hH : E.hOf fs ws k = H at *
      clear hH hws
      have WA : Hid (Below wr.heap.size wr (wr.alloc (.cells #[.int .i64 fn, .slice ua xs.length uc] 31))) := (Below.refl _ wr).alloc (Nat.le_refl _) _
      have A1 : Hid ((wr.alloc (.cells #[.int .i64 fn, .slice ua xs.length uc] 31)).heap[wr.heap.size]? = some (.cells #[.int .i64 fn, .slice ua xs.length uc] 31 (0, 0))) := heap_alloc_new wr _
      have OA : Hid (OwnW (wr.alloc (.cells #[.int .i64 fn, .slice ua xs.length uc] 31)) w.heap.size (.slice aw k cw) ws) := World.ownsRow.alloc OO.out _
      replace R := hide R
      replace WI := hide WI
      replace ah := hide ah
      replace wl := hide wl
      go_upto_if 28 with fail
      generalize (wr.alloc (.cells #[.int .i64 fn, .slice ua xs.length uc] 31)) = wa at *
      have z0 : wa.cell? ⟨wr.heap.size, 0, none⟩ = some (.int .i64 fn) := by rw [cell_of_row _ _ _ _ _ _ A1.out]; rfl
      have z1' : wa.cell? ⟨wr.heap.size, 1, none⟩ = some (.slice ua xs.length uc) := by rw [cell_of_row _ _ _ _ _ _ A1.out]; rfl
      have RA := hide (R.out.below (((Below.refl B wr).trans (WA.out.mono (Nat.le_trans hB BB.out.size)))))
      have IA := hide (WI.out.below WA.out)
      have BA := hide (BB.out.then_below WA.out)
      have hBa : B ≤ wa.heap.size := Nat.le_trans (Nat.le_trans hB BB.out.size) WA.out.size
      have TA := hide (h2.out.below ((BA.out).mono hB))
      have Hb : 0 ≤ H ∧ H ≤ 281474976710656 := by
        by_cases f0 : 0 ≤ fn
        · rw [HY.out f0]
          have t1 := Int.tmod_nonneg 1000003 f0
          have t2 := Int.tmod_lt_of_pos fn (show (0 : Int) < 1000003 by decide)
          have := E.hTo_bd (h := 3 + fn.tmod 1000003) (vs := xs.map fun x => ws.getD x.toNat 0) (by omega) (by omega) (fun j => by
            rcases Nat.lt_or_ge j xs.length with c | c
            · rw [List.getD_eq_getElem?_getD, List.getElem?_map, List.getElem?_eq_getElem c]
              exact (wbd.out _).1
            · rw [List.getD_eq_getElem?_getD, List.getElem?_eq_none (by rw [List.length_map]; exact c)]
              exact Int.le_refl _) xs.length
          omega
        · rw [HN.out f0]
          omega
      clear c0 c1 R WI A1 OO WA
      go_cut [10] (fun sx wx => sx = .int .i64 H ∧ wx = wa)
      case first =>
        by_cases f0 : 0 ≤ fn
        · have t1 := Int.tmod_nonneg 1000003 f0
          have t2 := Int.tmod_lt_of_pos fn (show (0 : Int) < 1000003 by decide)
          have hv : Hid (∀ j, 0 ≤ (xs.map fun x => ws.getD x.toNat 0).getD j 0) := fun j => by
            rcases Nat.lt_or_ge j xs.length with c | c
            · rw [List.getD_eq_getElem?_getD, List.getElem?_map, List.getElem?_eq_getElem c]
              exact (wbd.out _).1
            · rw [List.getD_eq_getElem?_getD, List.getElem?_eq_none (by rw [List.length_map]; exact c)]
              exact Int.le_refl _
          have hbd := hide (fun j => E.hTo_bd (h := 3 + fn.tmod 1000003) (vs := xs.map fun x => ws.getD x.toNat 0) (by omega) (by omega) hv.out j)
          have HY' := hide (HY.out f0)
          clear HY HN Hb
          go_wp2_with fail
          go_loop [10, 11] (fun x y => ∃ j : Nat, x = .int .i64 (E.hTo (3 + fn.tmod 1000003) (xs.map fun x => ws.getD x.toNat 0) j) ∧ y = .int .i64 (j : Int) ∧ j ≤ xs.length) (fun _ y => xs.length - (intOf y).toNat)
          case atStart => exact ⟨0, by show _ = Value.int .i64 (3 + fn.tmod 1000003); rw [Int.tmod_eq_emod_of_nonneg f0], rfl, Nat.zero_le _⟩
          case round =>
            obtain ⟨j, rfl, rfl, hj⟩ := hrel
            by_cases hjl : j < xs.length
            · obtain ⟨b1, o1, rfl, hb1, d1⟩ := RA.out.at_ hjl
              have aj := E.ahead_at ah.out hjl
              obtain ⟨q, hq⟩ : ∃ q : Nat, xs.getD j 0 = q := ⟨(xs.getD j 0).toNat, by omega⟩
              rw [hq] at d1 aj
              obtain ⟨b2, o2, rfl, hb2, d2⟩ := IA.out.at_ (j := q) (by rw [wl.out]; omega)
              have hstep : Hid (E.hTo (3 + fn.tmod 1000003) (xs.map fun x => ws.getD x.toNat 0) (j + 1) = (E.hTo (3 + fn.tmod 1000003) (xs.map fun x => ws.getD x.toNat 0) j * 31 + ws.getD q 0 + 5 * (j : Int)).tmod 1000003) := by
                show E.hstep _ _ _ = _
                have e : (xs.map fun x => ws.getD x.toNat 0).getD j 0 = ws.getD q 0 := by
                  rw [List.getD_eq_getElem?_getD, List.getElem?_map, List.getElem?_eq_getElem hjl]
                  show ws.getD (xs[j]).toNat 0 = _
                  have : xs[j] = (q : Int) := by
                    rw [← hq, List.getD_eq_getElem?_getD, List.getElem?_eq_getElem hjl]
                    rfl
                  rw [this, Int.toNat_natCast]
                rw [e]
                rfl
              obtain ⟨y1, y2⟩ := hbd.out j
              obtain ⟨v1, v2⟩ := wbd.out q
              have jl : (j : Int) < (xs.length : Int) := by omega
              have ql : (q : Int) < (k : Int) := by omega
              generalize E.hTo (3 + fn.tmod 1000003) (xs.map fun x => ws.getD x.toNat 0) j = hj0 at *
              generalize ws.getD q 0 = wq at *
              have s1 := Int.tmod_nonneg 1000003 (show 0 ≤ hj0 * 31 + wq + 5 * (j : Int) by omega)
              have s2 := Int.tmod_lt_of_pos (hj0 * 31 + wq + 5 * (j : Int)) (show (0 : Int) < 1000003 by decide)
              clear hq aj hb1 hb2
              go_wp2
              go_round
              case rel => exact ⟨j + 1, by rw [hstep.out, Int.tmod_eq_emod_of_nonneg (by omega)], by go_num, by omega⟩
              case measure => simp [intOf]; omega
            · obtain rfl : j = xs.length := by omega
              obtain ⟨y1, y2⟩ := hbd.out xs.length
              generalize E.hTo (3 + fn.tmod 1000003) (xs.map fun x => ws.getD x.toNat 0) xs.length = hj0 at *
              clear hjl hj
              go_wp2
              go_meet
              exact ⟨by rw [HY'.out], rfl⟩
        · have f1 : fn < 0 := by omega
          have e := hide (HN.out f0)
          clear HY HN Hb
          go_wp2
          go_meet
          exact ⟨by rw [e.out], rfl⟩
      case rest =>
        obtain ⟨rfl, hw⟩ := hcut
        subst wc
        obtain ⟨Hb1, Hb2⟩ := Hb
        clear HY HN z0 z1' ah RA
        go_upto_if 65 with fail
        go_cut [12] (fun sx wx => sx = .int .i64 (E.vOf tb sz H) ∧ wx = wa)
        case first =>
          by_cases t0 : tb.length = 0
          · have e : Hid (E.vOf tb sz H = H.tmod sz) := by show _ = _; unfold E.vOf; rw [if_pos t0]
            obtain rfl : tb = [] := List.length_eq_zero_iff.1 t0
            clear t0
            go_wp2
            go_meet
            exact ⟨by rw [e.out, Int.tmod_eq_emod_of_nonneg Hb1], rfl⟩
          · have t1 : (0 : Int) < (tb.length : Int) := by omega
            have m1 := Int.tmod_nonneg (tb.length : Int) Hb1
            have m2 := Int.tmod_lt_of_pos H t1
            obtain ⟨q, hq⟩ : ∃ q : Nat, H.tmod tb.length = q := ⟨(H.tmod tb.length).toNat, by omega⟩
            have hq2 : H % (tb.length : Int) = q := by rw [← Int.tmod_eq_emod_of_nonneg Hb1]; exact hq
            rw [hq] at m1 m2
            obtain ⟨b2, o2, rfl, hb2, d2⟩ := TA.out.at_ (j := q) (by omega)
            have e : Hid (E.vOf tb sz H = (tb.getD q 0).tmod sz) := by show _ = _; unfold E.vOf; rw [if_neg t0, hq, Int.toNat_natCast]
            generalize tb.getD q 0 = tq at *
            have s1 := Int.tmod_lt_of_pos tq (show (0 : Int) < sz by omega)
            have s2 := Int.lt_tmod_of_pos tq (show (0 : Int) < sz by omega)
            have t2 : ¬ (tb.length : Int) = 0 := by omega
            have z3 : ¬ sz = 0 := by omega
            clear t0
            go_wp2
            go_meet
            exact ⟨by rw [e.out], rfl⟩
        case rest =>
          obtain ⟨rfl, hw⟩ := hcut
          subst wc
          obtain ⟨p1, p2⟩ := E.vOf_bd tb (show 0 < sz by omega) H
          generalize E.vOf tb sz H = V at *
          go_upto_if 76 with fail
          go_cut [12] (fun sx wx => sx = .int .i64 (E.pos V) ∧ wx = wa)
          case first =>
            by_cases v0 : V < 0
            · have e : Hid (E.pos V = -V) := if_pos v0
              go_wp2
              go_meet
              exact ⟨by rw [e.out], rfl⟩
            · have e : Hid (E.pos V = V) := if_neg v0
              go_wp2
              go_meet
              exact ⟨by rw [e.out], rfl⟩
          case rest =>
            obtain ⟨rfl, hw⟩ := hcut
            subst wc
            generalize E.pos V = PV at *
            have wl' := wl.out
            have OO2 : Hid (wa.ownsRow w.heap.size 3 1 (.slice aw k cw) ws.length (ws.map (Value.int .i64))) := OA.out
            have hBw := BA.out.size
            go_wp2_with (at_builtin; (refine wpList_append_own _ rfl _ _ 24 rfl w.heap.size 3 i0 (.int .i64 0) 1 8 wSliceInt hi hz0 hz1 hz2 rfl (by decide) _ _ _ rfl (World.ownsRow.alloc OO2.out _) ⟨wa.heap.size, 0, none⟩ 1 1 [.int .i64 PV] rfl rfl (cell_one_new _ _ _) (by simp [Value.oneCell']) (by unfold maxLen; omega) (by omega) (by simp; omega) ?_; intro v' w5 hown' hgrow _; replace hown' := hide hown'; replace hgrow := hide hgrow))
            go_roundw
            case rel =>
              refine ⟨k + 1, by go_num, by omega, ?_, ?_⟩
              · show OwnW _ _ _ _
                rw [wstep.out]
                unfold OwnW
                rw [List.length_append, List.map_append]
                exact hown'.out
              · exact (BA.out.then_below ((Below.refl _ wa).alloc (Nat.le_refl _) _)).then_grown hgrow.out (fun g hg => (OO2.out.lt g hg).1)
            case measure => simp [intOf]; omega
    · obtain rfl : k = fs.length := by omega
      have RR := hide (OO.out.row (by rw [wl]; omega))
      clear hlt hk wl
      go_wp2
      go_ret
      exact ⟨⟨_, rfl, RR.out⟩, BB.out⟩
end Go.Proofs.Ytgipjbinlbjlmaa
