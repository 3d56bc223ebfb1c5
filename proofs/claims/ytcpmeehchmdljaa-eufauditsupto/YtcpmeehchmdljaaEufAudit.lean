/-
  euf: Audit.
-/
import Derived.Test.YtcpmeehchmdljaaEufFol
namespace Go.Proofs.Ytcpmeehchmdljaa
open Go.RowKit Go.Maps
set_option linter.unusedVariables false
theorem links64 {B : Nat} {w : World} {v : Value} {ls : List E.Lk} (h : Links B w v ls) : W64 ls := by
  intro g hg
  obtain ⟨j, hj, rfl⟩ := List.getElem_of_mem hg
  obtain ⟨a, cap, e, h1, h2⟩ := h
  obtain ⟨b, off, _, _, hc⟩ := h2 (by rintro rfl; simp at hj)
  obtain ⟨-, -, -, -, -, k⟩ := hc j hj
  rw [List.getD_eq_getElem?_getD, List.getElem?_eq_getElem hj] at k
  exact k
theorem FM.grown {w w' : World} {bm : Nat} {gs : List E.Lk} {r : Option Nat} (h : FM w bm gs) (q : w.grownBy w' r) (hne : some bm ≠ r) : FM w' bm gs := h.same (q.block bm h.lt hne)
/-- The first links of gs, in the map. -/
theorem FM.step {w' : World} {bm n : Nat} {gs : List E.Lk} {g : E.Lk} (hk : g.kind = 1) (hn : n ≤ gs.length) (h : w'.ownsMap Try.prog 53 (unitElem (H := Unit)) bm (n + 1) ((setOf (.agg []) (accF gs)).put (kf g.a g.b g.tag) (.agg []))) : FM w' bm (gs ++ [g]) := by
  refine ⟨n + 1, by simp; omega, ?_⟩
  rw [accF_append]
  have e : accF [g] = [kf g.a g.b g.tag] := by
    show (if g.kind = 1 then kf g.a g.b g.tag :: accF [] else accF []) = _
    rw [if_pos hk]
    rfl
  rw [e, setOf_snoc]
  exact h
theorem FM.pass {w' : World} {bm : Nat} {gs : List E.Lk} {g : E.Lk} (hk : g.kind ≠ 1) (h : FM w' bm gs) : FM w' bm (gs ++ [g]) := by
  obtain ⟨n, hn, h⟩ := h
  refine ⟨n, by simp; omega, ?_⟩
  rw [accF_append]
  have e : accF [g] = [] := by
    show (if g.kind = 1 then kf g.a g.b g.tag :: accF [] else accF []) = _
    rw [if_neg hk]
    rfl
  rw [e, List.append_nil]
  exact h
theorem firstNo_at (p : Nat → Bool) (n k : Nat) (hk : k ≤ n) (h : ∀ i, i < k → p i = true) : (k = n → E.firstNo p n n 0 = -1) ∧ (k < n → p k = false → E.firstNo p n n 0 = k) := by
  rcases E.firstNo_spec p n n 0 (by omega) with ⟨e, g⟩ | ⟨j, e, g1, g2, g3, g4⟩
  · refine ⟨fun _ => e, fun hk hp => ?_⟩
    have := g k (by omega) hk
    rw [hp] at this
    cases this
  · refine ⟨fun hn => ?_, fun hk hp => ?_⟩
    · have := h j (by omega)
      rw [g3] at this
      cases this
    · rcases Nat.lt_trichotomy j k with c | c | c
      · have := h j c
        rw [g3] at this
        cases this
      · rw [e, c]
      · have := g4 k (by omega) c
        rw [hp] at this
        cases this
set_option maxRecDepth 100000 in
set_option maxHeartbeats 4000000 in
theorem audit_calls (w : World) (B : Nat) (vn vg vl : Value) (fs : List E.Fl) (gs ls : List E.Lk) (hB : B ≤ w.heap.size) (h1 : Flats B w vn fs) (h2 : Links B w vg gs) (h3 : Links B w vl ls) :
    Calls Try.prog 5 #[vn, vg, vl] w fun e w' => e = .returned (.tuple #[.int .i64 (E.auditI fs gs ls), .int .i64 (E.auditE fs)]) ∧ Below w.heap.size w w' := by
  have g64 := links64 h2
  have q0 := hide (esound_calls w B vn fs h1 hB)
  obtain ⟨ag, cg, rfl, gn⟩ := h2.shape
  obtain ⟨al, cl, rfl, ln⟩ := h3.shape
  obtain ⟨an, cn, rfl, nn⟩ := h1.shape
  replace h1 := hide h1
  replace h2 := hide h2
  replace h3 := hide h3
  cases hs : E.soundB fs
  · have e1 : Hid (E.auditI fs gs ls = 0) := by show _ = _; unfold E.auditI; rw [hs]; rfl
    have e2 : Hid (E.auditE fs = 80) := by show _ = _; unfold E.auditE; rw [hs]; rfl
    rw [hs] at q0
    clear hs
    go_enter Try.func5, Try.ntmps5
    go_wp2_with (go_at_call 13; refine q0.out.mono ?_; rintro x w1 ⟨rfl, b1⟩; replace b1 := hide b1)
    refine bodyPost_ret (v := .tuple #[.int .i64 0, .int .i64 80]) (by simp [results, Try.results5, go_sem]) rfl ?_
    exact ⟨by rw [e1.out, e2.out], b1.out⟩
  have e1 : Hid (E.auditI fs gs ls = E.firstNo (E.folB fs gs ls) ls.length ls.length 0) := by show _ = _; unfold E.auditI; rw [hs]; rfl
  have e2 : Hid (E.auditE fs = 0) := by show _ = _; unfold E.auditE; rw [hs]; rfl
  rw [hs] at q0
  clear hs
  have hmm := @run_makeMap Try.prog
  go_enter Try.func5, Try.ntmps5
  go_upto_region 3 with (go_at_call 13; refine q0.out.mono ?_; rintro x w1 ⟨rfl, b1⟩; replace b1 := hide b1)
  go_upto_region 4 with fail
  have hBw : B ≤ w1.heap.size := Nat.le_trans hB b1.out.size
  have N1 := hide (h1.out.below (b1.out.mono hB))
  have L1 := hide (h3.out.below (b1.out.mono hB))
  have G1 := hide (h2.out.below (b1.out.mono hB))
  have M0 : Hid (FM ((w1.alloc (.map #[] 0)).alloc (.cells #[.slice an fs.length cn, .map (some w1.heap.size), .slice al ls.length cl] 50)) w1.heap.size []) :=
    ⟨0, Nat.le_refl _, (World.ownsMap_made w1 Try.prog 53 (unitElem (H := Unit))).alloc _⟩
  have H0 : Hid (((w1.alloc (.map #[] 0)).alloc (.cells #[.slice an fs.length cn, .map (some w1.heap.size), .slice al ls.length cl] 50)).heap[w1.heap.size + 1]? = some (.cells #[.slice an fs.length cn, .map (some w1.heap.size), .slice al ls.length cl] 50 (0, 0))) := by
    have := heap_alloc_new (w1.alloc (.map #[] 0)) (.cells #[.slice an fs.length cn, .map (some w1.heap.size), .slice al ls.length cl] 50)
    show _ = _
    simpa using this
  have B0 : Hid (Below w1.heap.size w1 ((w1.alloc (.map #[] 0)).alloc (.cells #[.slice an fs.length cn, .map (some w1.heap.size), .slice al ls.length cl] 50))) := (alloc_bel _ _).then_below (alloc_bel _ _)
  clear q0 h1 h2 h3 hmm
  generalize ((w1.alloc (.map #[] 0)).alloc (.cells #[.slice an fs.length cn, .map (some w1.heap.size), .slice al ls.length cl] 50)) = w2 at *
  go_wp2_with fail
  go_loopw [21] (fun x wr => ∃ k : Nat, x = .int .i64 (k : Int) ∧ k ≤ gs.length ∧ Hid (FM wr w1.heap.size (gs.take k)) ∧ Hid (wr.heap[w1.heap.size + 1]? = some (.cells #[.slice an fs.length cn, .map (some w1.heap.size), .slice al ls.length cl] 50 (0, 0))) ∧ Hid (Below w1.heap.size w1 wr)) (fun x _ => gs.length - (intOf x).toNat)
  case atStart => exact ⟨0, rfl, Nat.zero_le _, M0, H0, B0⟩
  case round =>
    clear M0 H0 B0
    obtain ⟨k, rfl, hk, MM, HH, BB⟩ := hrel
    by_cases hlt : k < gs.length
    · obtain ⟨bg, og, rfl, hbg, d0, d1, d2, d3, ⟨u, d4, RU⟩, ia, ib, it⟩ := (G1.out.below (BB.out.mono hBw)).at_ hlt
      obtain ⟨au, cu, rfl, -⟩ := RU.shape
      clear RU
      have kl : (k : Int) < (gs.length : Int) := by omega
      have tk : gs.take (k + 1) = gs.take k ++ [gs.getD k E.l0] := by
        rw [List.getD_eq_getElem?_getD, List.getElem?_eq_getElem hlt]
        simp
      have tl : (gs.take k).length = k := by rw [List.length_take]; omega
      obtain ⟨l, hl⟩ : ∃ l, gs.getD k E.l0 = l := ⟨_, rfl⟩
      rw [hl] at d0 d1 d2 d3 d4 ia ib it tk
      clear hl
      obtain ⟨kd, a, b, tg, ks⟩ := l
      simp only at d0 d1 d2 d3 d4 ia ib it
      have WA : Hid (Below wr.heap.size wr (wr.alloc (.cells #[.int .i64 kd, .int .i64 a, .int .i64 b, .int .i64 tg, .slice au ks.length cu] 26))) := alloc_bel _ _
      have A1 : Hid ((wr.alloc (.cells #[.int .i64 kd, .int .i64 a, .int .i64 b, .int .i64 tg, .slice au ks.length cu] 26)).heap[wr.heap.size]? = some (.cells #[.int .i64 kd, .int .i64 a, .int .i64 b, .int .i64 tg, .slice au ks.length cu] 26 (0, 0))) := heap_alloc_new wr _
      replace tk := hide tk
      replace tl := hide tl
      go_upto_region 7 with fail
      generalize (wr.alloc (.cells #[.int .i64 kd, .int .i64 a, .int .i64 b, .int .i64 tg, .slice au ks.length cu] 26)) = wb at *
      have z0 : wb.cell? ⟨wr.heap.size, 0, none⟩ = some (.int .i64 kd) := by rw [cell_of_row _ _ _ _ _ _ A1.out]; rfl
      have z1 : wb.cell? ⟨wr.heap.size, 1, none⟩ = some (.int .i64 a) := by rw [cell_of_row _ _ _ _ _ _ A1.out]; rfl
      have z2 : wb.cell? ⟨wr.heap.size, 2, none⟩ = some (.int .i64 b) := by rw [cell_of_row _ _ _ _ _ _ A1.out]; rfl
      have z3 : wb.cell? ⟨wr.heap.size, 3, none⟩ = some (.int .i64 tg) := by rw [cell_of_row _ _ _ _ _ _ A1.out]; rfl
      have HB : Hid (wb.heap[w1.heap.size + 1]? = some (.cells #[.slice an fs.length cn, .map (some w1.heap.size), .slice al ls.length cl] 50 (0, 0))) := (WA.out.block _ (Array.getElem?_eq_some_iff.1 HH.out).1).trans HH.out
      have y1 : wb.cell? ⟨w1.heap.size + 1, 1, none⟩ = some (.map (some w1.heap.size)) := by rw [cell_of_row _ _ _ _ _ _ HB.out]; rfl
      have MB := hide (MM.out.below WA.out)
      have BD := hide (BB.out.then_below WA.out)
      clear d0 d1 d2 d3 d4 A1 HH MM
      by_cases k1 : kd = 1
      · subst k1
        obtain ⟨n, hn, hown⟩ := MB.out
        rw [tl.out] at hn
        have hkey := key_fact ia ib it
        replace hown := hide hown
        go_wp2_with (at_mapUpdate; refine wpList_mapUpdate_own _ rfl _ _ _ 48 rfl 53 51 eLaw eMap (unitElem (H := Unit)) w1.heap.size n _ rfl hown.out (by unfold maxLen; omega) _ _ _ rfl rfl hkey _ [] unitElem_mk ?_; intro w5 hown5 hgrow5; replace hown5 := hide hown5; replace hgrow5 := hide hgrow5)
        go_roundw
        case rel =>
          refine ⟨k + 1, by go_num, by omega, ?_, ?_, ?_⟩
          · show FM _ _ _
            rw [tk.out]
            exact FM.step (g := ⟨1, a, b, tg, ks⟩) rfl (by rw [tl.out]; exact hn) hown5.out
          · exact (hgrow5.out.block _ (Array.getElem?_eq_some_iff.1 HB.out).1 (by simp)).trans HB.out
          · exact BD.out.then_grown hgrow5.out (by rintro g ⟨⟩; exact Nat.le_refl _)
        case measure => simp [intOf]; omega
      · have k2 : (kd == 1) = false := by simpa using k1
        have M2 : Hid (FM wb w1.heap.size (gs.take (k + 1))) := by
          show FM _ _ _
          rw [tk.out]
          exact FM.pass (g := ⟨kd, a, b, tg, ks⟩) k1 MB.out
        go_wp2_with fail
        go_roundw
        case rel => exact ⟨k + 1, by go_num, by omega, M2, HB, BD⟩
        case measure => simp [intOf]; omega
    · obtain rfl : k = gs.length := by omega
      rw [List.take_length] at MM
      have AA : Hid (AU B (w1.heap.size + 1) wr fs ls w1.heap.size) := by
        refine ⟨.slice an fs.length cn, .slice al ls.length cl, ?_, ?_, ?_, N1.out.below (BB.out.mono hBw), L1.out.below (BB.out.mono hBw)⟩
        · rw [cell_of_row _ _ _ _ _ _ HH.out]; rfl
        · rw [cell_of_row _ _ _ _ _ _ HH.out]; rfl
        · rw [cell_of_row _ _ _ _ _ _ HH.out]; rfl
      have hBr : B ≤ wr.heap.size := Nat.le_trans hBw BB.out.size
      have BR : Hid (Below wr.heap.size wr wr) := Below.refl _ _
      have P0 : Hid (∀ q, q < 0 → E.folB fs gs ls q = true) := fun q hq => by omega
      clear hlt hk HH
      go_wp2_with fail
      obtain ⟨wo, hwo⟩ : ∃ wo, wo = wr := ⟨wr, rfl⟩
      subst hwo
      go_loopw [41] (fun x wz => ∃ p : Nat, x = .int .i64 (p : Int) ∧ p ≤ ls.length ∧ Hid (∀ q, q < p → E.folB fs gs ls q = true) ∧ Hid (Below wo.heap.size wo wz)) (fun x _ => ls.length - (intOf x).toNat)
      case atStart => exact ⟨0, rfl, Nat.zero_le _, P0, BR⟩
      case round =>
        clear P0 BR
        obtain ⟨p, rfl, hp, PP, BZ⟩ := hrel
        have hBz : B ≤ wr.heap.size := Nat.le_trans hBr BZ.out.size
        have BF := hide (b1.out.then_below (BB.out.then_below BZ.out))
        by_cases hpl : p < ls.length
        · have C := hide (follows_calls wr B (w1.heap.size + 1) w1.heap.size fs gs ls (AA.out.below hBr BZ.out) (MM.out.below BZ.out) g64 hBz p hpl)
          have pl : (p : Int) < (ls.length : Int) := by omega
          cases hf : E.folB fs gs ls p
          · have e := hide ((firstNo_at (E.folB fs gs ls) ls.length p hp PP.out).2 hpl hf)
            rw [hf] at C
            clear hf PP
            go_wp2_with (go_at_call 14; refine C.out.mono ?_; rintro x w6 ⟨rfl, b6⟩; replace b6 := hide b6)
            refine bodyPost_ret (v := .tuple #[.int .i64 (p : Int), .int .i64 0]) (by simp [results, Try.results5, go_sem]) rfl ?_
            exact ⟨by rw [e1.out, e2.out, e.out], BF.out.then_below b6.out⟩
          · have P1 : Hid (∀ q, q < p + 1 → E.folB fs gs ls q = true) := by
              intro q hq
              rcases Nat.lt_or_ge q p with c | c
              · exact PP.out q c
              · obtain rfl : q = p := by omega
                exact hf
            rw [hf] at C
            clear hf PP
            go_wp2_with (go_at_call 14; refine C.out.mono ?_; rintro x w6 ⟨rfl, b6⟩; replace b6 := hide b6)
            go_roundw
            case rel => exact ⟨p + 1, by go_num, by omega, P1, BZ.out.then_below b6.out⟩
            case measure => simp [intOf]; omega
        · obtain rfl : p = ls.length := by omega
          have e := hide ((firstNo_at (E.folB fs gs ls) ls.length ls.length hp PP.out).1 rfl)
          clear hpl hp PP
          go_wp2_with fail
          refine bodyPost_ret (v := .tuple #[.int .i64 (-1), .int .i64 0]) (by simp [results, Try.results5, go_sem]) rfl ?_
          exact ⟨by rw [e1.out, e2.out, e.out], BF.out⟩
end Go.Proofs.Ytcpmeehchmdljaa
