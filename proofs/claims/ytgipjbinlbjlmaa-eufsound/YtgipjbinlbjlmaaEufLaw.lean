/-
  The law EufSound.
-/
import Derived.Test.YtgipjbinlbjlmaaEufAudit
import Derived.Test.YtgipjbinlbjlmaaEufWorth
namespace Go.Proofs.Ytgipjbinlbjlmaa
open Go.RowKit Go.Maps
set_option linter.unusedVariables false
theorem eno_calls (w : World) (z : Int) : Calls Try.prog 6 #[.int .i64 z] w fun e w' => e = .returned (.int .i64 z) ∧ w' = w := by
  go_enter Try.func6, Try.ntmps6
  go_wp2
  go_ret
  exact ⟨rfl, rfl⟩
theorem irow_nil (B : Nat) (w : World) : IRow B w (.slice none 0 0) [] := ⟨none, 0, rfl, by simp, fun h => absurd rfl h⟩
theorem links_nil (B : Nat) (w : World) : Links B w (.slice none 0 0) [] := ⟨none, 0, rfl, by simp, fun h => absurd rfl h⟩
theorem flats_one {w : World} {g : Nat} (h : w.heap[g]? = some (.cells #[.int .i64 0, .slice none 0 0] 31 (0, 0))) : Flats w.heap.size w (.slice (some ⟨g, 0, none⟩) 1 1) [⟨0, []⟩] := by
  refine ⟨some ⟨g, 0, none⟩, 1, rfl, by simp, fun _ => ⟨g, 0, rfl, (Array.getElem?_eq_some_iff.1 h).1, fun j hj => ?_⟩⟩
  obtain rfl : j = 0 := by simpa using hj
  refine ⟨?_, .slice none 0 0, ?_, irow_nil _ _⟩
  · rw [cell_of_row _ _ _ _ _ _ h]; rfl
  · rw [cell_of_row _ _ _ _ _ _ h]; rfl
theorem links_one {w : World} {g : Nat} {k t : Int} (ht : I64 t) (h : w.heap[g]? = some (.cells #[.int .i64 k, .int .i64 0, .int .i64 0, .int .i64 t, .slice none 0 0] 26 (0, 0))) : Links w.heap.size w (.slice (some ⟨g, 0, none⟩) 1 1) [⟨k, 0, 0, t, []⟩] := by
  refine ⟨some ⟨g, 0, none⟩, 1, rfl, by simp, fun _ => ⟨g, 0, rfl, (Array.getElem?_eq_some_iff.1 h).1, fun j hj => ?_⟩⟩
  obtain rfl : j = 0 := by simpa using hj
  have z : I64 0 := ⟨by decide, by decide⟩
  refine ⟨?_, ?_, ?_, ?_, ⟨.slice none 0 0, ?_, irow_nil _ _⟩, z, z, ht⟩
  all_goals (rw [cell_of_row _ _ _ _ _ _ h]; rfl)
theorem two_box' (w : World) (o1 o2 : Obj) : ((w.alloc o1).alloc o2).heap[w.heap.size]? = some o1 ∧ ((w.alloc o1).alloc o2).heap[w.heap.size + 1]? = some o2 ∧ Below w.heap.size w ((w.alloc o1).alloc o2) :=
  ⟨(two_box w o1 o2).1, (two_box w o1 o2).2.1, (alloc_bel w o1).then_below (alloc_bel _ o2)⟩
theorem audit_self (w : World) : Calls Try.prog 5 #[.slice (some ⟨w.heap.size + 1, 0, none⟩) 1 1, .slice none 0 0, .slice (some ⟨w.heap.size, 0, none⟩) 1 1] ((w.alloc (.cells #[.int .i64 2, .int .i64 0, .int .i64 0, .int .i64 0, .slice none 0 0] 26)).alloc (.cells #[.int .i64 0, .slice none 0 0] 31)) fun e w' => e = .returned (.tuple #[.int .i64 (-1), .int .i64 0]) ∧ Below w.heap.size w w' := by
  obtain ⟨t1, t2, t3⟩ := two_box' w (.cells #[.int .i64 2, .int .i64 0, .int .i64 0, .int .i64 0, .slice none 0 0] 26) (.cells #[.int .i64 0, .slice none 0 0] 31)
  refine (audit_calls _ _ _ _ _ _ _ _ (Nat.le_refl _) (flats_one (g := w.heap.size + 1) t2) (links_nil _ _) (links_one (g := w.heap.size) ⟨by decide, by decide⟩ t1)).mono ?_
  rintro e w' ⟨rfl, b⟩
  have e1 : E.auditI [⟨0, []⟩] [] [⟨2, 0, 0, 0, []⟩] = -1 := by decide
  have e2 : E.auditE [⟨0, []⟩] = 0 := by decide
  exact ⟨by rw [e1, e2], t3.then_below b⟩
theorem audit_given (w : World) : Calls Try.prog 5 #[.slice (some ⟨w.heap.size, 0, none⟩) 1 1, .slice none 0 0, .slice (some ⟨w.heap.size + 1, 0, none⟩) 1 1] ((w.alloc (.cells #[.int .i64 0, .slice none 0 0] 31)).alloc (.cells #[.int .i64 1, .int .i64 0, .int .i64 0, .int .i64 1, .slice none 0 0] 26)) fun e w' => e = .returned (.tuple #[.int .i64 0, .int .i64 0]) ∧ Below w.heap.size w w' := by
  obtain ⟨t1, t2, t3⟩ := two_box' w (.cells #[.int .i64 0, .slice none 0 0] 31) (.cells #[.int .i64 1, .int .i64 0, .int .i64 0, .int .i64 1, .slice none 0 0] 26)
  refine (audit_calls _ _ _ _ _ _ _ _ (Nat.le_refl _) (flats_one (g := w.heap.size) t1) (links_nil _ _) (links_one (g := w.heap.size + 1) ⟨by decide, by decide⟩ t2)).mono ?_
  rintro e w' ⟨rfl, b⟩
  have e1 : E.auditI [⟨0, []⟩] [] [⟨1, 0, 0, 1, []⟩] = 0 := by decide
  have e2 : E.auditE [⟨0, []⟩] = 0 := by decide
  exact ⟨by rw [e1, e2], t3.then_below b⟩
def szOf (z : Int) : Int := 1 + (if z < 1 then 1 else z).tmod 8
theorem szOf_bd (z : Int) : 1 ≤ szOf z ∧ szOf z ≤ 8 := by
  unfold szOf
  have h : (0 : Int) ≤ (if z < 1 then 1 else z) := by split <;> omega
  have := Int.tmod_nonneg 8 h
  have := Int.tmod_lt_of_pos (if z < 1 then 1 else z) (show (0 : Int) < 8 by decide)
  omega
theorem fol_self {fs : List E.Fl} {gs ls : List E.Lk} {i : Nat} {a : Int} (h : ls.getD i E.l0 = ⟨2, a, a, 0, []⟩) (ha : E.inB fs.length a = true) : E.folB fs gs ls i = true := by
  rw [fol_kind h (by unfold E.preB; rw [ha]; simp) (by rfl)]
  simp [E.kindB]
/-- Where the first link that does not follow stands, and up to where all do. -/
theorem up_of {p : Nat → Bool} {n : Nat} {A : Int} (hA : E.firstNo p n n 0 = A) : ∃ up : Nat, up ≤ n ∧ ((A = -1 ∧ up = n) ∨ (A = up ∧ up < n ∧ p up = false)) ∧ ∀ i, i < up → p i = true := by
  rcases E.firstNo_spec p n n 0 (by omega) with ⟨e, g⟩ | ⟨j, e, g1, g2, g3, g4⟩
  · exact ⟨n, Nat.le_refl _, .inl ⟨by rw [← hA, e], rfl⟩, fun i hi => g i (by omega) hi⟩
  · exact ⟨j, by omega, .inr ⟨by rw [← hA, e], g2, g3⟩, fun i hi => g4 i (by omega) hi⟩
def GH (fs : List E.Fl) (ws : List Int) (g : E.Lk) : Prop := g.kind = 1 → E.inB fs.length g.a = true → E.inB fs.length g.b = true → ws.getD g.a.toNat 0 = ws.getD g.b.toNat 0
set_option maxRecDepth 100000 in
set_option maxHeartbeats 4000000 in
theorem eufSound_calls (w : World) (vn vg vl vt : Value) (fs : List E.Fl) (gs ls : List E.Lk) (tb : List Int) (z : Int) (hz : I64 z) (h1 : Flats w.heap.size w vn fs) (h2 : Links w.heap.size w vg gs) (h3 : Links w.heap.size w vl ls) (h4 : IRow w.heap.size w vt tb) (hn : fs.length ≤ 4398046511104) :
    Calls Try.prog 3 #[vn, vg, vl, vt, .int .i64 z] w fun e w' => e = .returned (.bool true) ∧ Below w.heap.size w w' := by
  obtain ⟨an, cn, rfl, -⟩ := h1.shape
  obtain ⟨ag, cg, rfl, gn⟩ := h2.shape
  obtain ⟨al, cl, rfl, ln⟩ := h3.shape
  obtain ⟨at', ct, rfl, tn⟩ := h4.shape
  obtain ⟨zl, zh⟩ := hz
  have q1 := hide (audit_self w)
  replace h1 := hide h1
  replace h2 := hide h2
  replace h3 := hide h3
  replace h4 := hide h4
  go_enter Try.func3, Try.ntmps3
  go_upto_region 3 with (go_at_call 5; refine q1.out.mono ?_; rintro x w1 ⟨rfl, b1⟩; replace b1 := hide b1)
  have q2 := hide (audit_given w1)
  clear q1
  go_upto_region 4 with (go_at_call 5; refine q2.out.mono ?_; rintro x w2 ⟨rfl, b2⟩; replace b2 := hide (b1.out.then_below b2))
  have q3 := hide (audit_calls w2 w.heap.size _ _ _ fs gs ls b2.out.size (h1.out.below b2.out) (h2.out.below b2.out) (h3.out.below b2.out))
  clear q2 b1
  go_upto_region 7 with (first
    | (go_at_call 6; refine (eno_calls _ _).mono ?_; rintro x w5 ⟨rfl, hq⟩; have hq := hq.symm; subst hq)
    | (go_at_call 5; refine q3.out.mono ?_; rintro x w3 ⟨rfl, b3⟩; replace b3 := hide (b2.out.then_below b3)))
  have q4 := hide (lsound_calls w3 w.heap.size _ fs (h1.out.below b3.out))
  clear q3 b2
  cases hs : E.soundB fs
  · have e1 : E.auditI fs gs ls = 0 := by unfold E.auditI; rw [hs]; rfl
    have e2 : E.auditE fs = 80 := by unfold E.auditE; rw [hs]; rfl
    rw [hs] at q4
    clear hs
    rw [e1, e2]
    go_wp2_with (first
      | (go_at_call 6; refine (eno_calls _ _).mono ?_; rintro x w5 ⟨rfl, hq⟩; have hq := hq.symm; subst hq)
      | (go_at_call 7; refine q4.out.mono ?_; rintro x w4 ⟨rfl, hq⟩; have hq := hq.symm; subst hq))
    go_ret
    exact ⟨by rfl, b3.out⟩
  have e2 : E.auditE fs = 0 := by unfold E.auditE; rw [hs]; rfl
  have e1 : E.auditI fs gs ls = E.firstNo (E.folB fs gs ls) ls.length ls.length 0 := by unfold E.auditI; rw [hs]; rfl
  rw [hs] at q4
  replace hs := hide hs
  rw [e1, e2]
  clear e1 e2
  obtain ⟨A, hA⟩ : ∃ A, E.firstNo (E.folB fs gs ls) ls.length ls.length 0 = A := ⟨_, rfl⟩
  rw [hA]
  obtain ⟨up, hup, hUA, hfol⟩ := up_of hA
  clear hA
  have a1 : decide (A < -1) = false := by rw [decide_eq_false_iff_not]; omega
  have a2 : decide ((ls.length : Int) ≤ A) = false := by rw [decide_eq_false_iff_not]; omega
  have a3 : ¬ A < -1 := by omega
  have a4 : ¬ (ls.length : Int) ≤ A := by omega
  replace hUA := hide hUA
  replace hfol := hide hfol
  go_upto_if 88 with (first
    | (go_at_call 6; refine (eno_calls _ _).mono ?_; rintro x w5 ⟨rfl, hq⟩; have hq := hq.symm; subst hq)
    | (go_at_call 7; refine q4.out.mono ?_; rintro x w4 ⟨rfl, hq⟩; have hq := hq.symm; subst hq))
  clear q4
  obtain ⟨Y, hY⟩ : ∃ Y : Int, (if z < 1 then 1 else z) = Y := ⟨_, rfl⟩
  go_cut [4] (fun sx wx => sx = .int .i64 Y ∧ wx = w3)
  case first =>
    by_cases z1 : z < 1
    · rw [if_pos z1] at hY
      subst hY
      go_wp2
      go_meet
      exact ⟨rfl, rfl⟩
    · rw [if_neg z1] at hY
      subst hY
      go_wp2
      go_meet
      exact ⟨rfl, rfl⟩
  case rest =>
    obtain ⟨rfl, hw⟩ := hcut
    subst wc
    have Y0 : 0 ≤ Y := by rw [← hY]; split <;> omega
    have Y1 : Y ≤ 9223372036854775807 := by rw [← hY]; split <;> omega
    have eS : 1 + Y % 8 = szOf z := by
      unfold szOf
      rw [hY, Int.tmod_eq_emod_of_nonneg Y0]
    obtain ⟨S1, S2⟩ := szOf_bd z
    clear hY
    generalize szOf z = S at *
    have q5 := hide (worth_calls w3 w.heap.size _ _ fs tb S b3.out.size (h1.out.below b3.out) (h4.out.below b3.out) S1 S2 hs.out hn)
    have wlen := E.wsTo_len tb S fs fs.length
    have CONG := hide (fun a b ha hb h0 hfn hl h => E.worth_cong (tb := tb) (sz := S) (fs := fs) hs.out (a := a) (b := b) ha hb h0 hfn hl h)
    generalize E.wsTo tb S fs fs.length = ws at *
    go_upto_region 15 with (go_at_call 8; refine q5.out.mono ?_; rintro x w4 ⟨⟨r, rfl, IR⟩, b4⟩; obtain ⟨ar, cr, rfl, -⟩ := IR.shape; replace IR := hide IR; replace b4 := hide (b3.out.then_below b4))
    clear q5 eS Y0 Y1 S1 S2 zl zh b3
    have G4 := hide (h2.out.below b4.out)
    have L4 := hide (h3.out.below b4.out)
    have P0 : Hid (∀ q, q < 0 → GH fs ws (gs.getD q E.l0)) := fun q hq => by omega
    have D0 : Hid (∃ m, w4 = w4.drewN m) := ⟨0, rfl⟩
    go_wp2_with fail
    go_loopw [19] (fun x wr => ∃ p : Nat, x = .int .i64 (p : Int) ∧ p ≤ gs.length ∧ Hid (∀ q, q < p → GH fs ws (gs.getD q E.l0)) ∧ Hid (∃ m, wr = w4.drewN m)) (fun x _ => gs.length - (intOf x).toNat)
    case atStart => exact ⟨0, rfl, Nat.zero_le _, P0, D0⟩
    case round =>
      clear P0 D0
      obtain ⟨p, rfl, hp, PP, HW⟩ := hrel
      have HWn : Hid (∀ m', ∃ m, wr.drewN m' = w4.drewN m) := by
        intro m'
        obtain ⟨m, e⟩ := HW.out
        exact ⟨m + m', by rw [e]; exact World.drewN_drewN _ _ _⟩
      have BWr : Hid (∀ m', Below w.heap.size w (wr.drewN m')) := by
        intro m'
        obtain ⟨m, e⟩ := HWn.out m'
        rw [e]
        exact below_drewN b4.out m
      have IRr : Hid (IRow w4.heap.size wr (.slice ar fs.length cr) ws) := by
        obtain ⟨m, e⟩ := HW.out
        rw [e, ← wlen]
        exact IR.out
      by_cases hpl : p < gs.length
      · obtain ⟨bg, og, rfl, hbg, d0, d1, d2, d3, -, -, -, -⟩ := G4.out.at_ hpl
        obtain ⟨m0, em⟩ := HW.out
        replace d0 : wr.cell? ⟨bg, og + p * 5, none⟩ = some (.int .i64 (gs.getD p E.l0).kind) := by rw [em]; exact d0
        replace d1 : wr.cell? ⟨bg, og + p * 5 + 1, none⟩ = some (.int .i64 (gs.getD p E.l0).a) := by rw [em]; exact d1
        replace d2 : wr.cell? ⟨bg, og + p * 5 + 2, none⟩ = some (.int .i64 (gs.getD p E.l0).b) := by rw [em]; exact d2
        clear em d3
        have P1 : Hid (GH fs ws (gs.getD p E.l0) → ∀ q, q < p + 1 → GH fs ws (gs.getD q E.l0)) := by
          intro h q hq
          rcases Nat.lt_or_ge q p with c | c
          · exact PP.out q c
          · obtain rfl : q = p := by omega
            exact h
        generalize gs.getD p E.l0 = l at *
        obtain ⟨kd, a, b, tg, ks⟩ := l
        simp only at d0 d1 d2
        have pl : (p : Int) < (gs.length : Int) := by omega
        clear PP
        go_upto_region 18 with fail
        go_cut [20] (fun sx wx => sx = .bool (E.inB fs.length a && E.inB fs.length b) ∧ wx = wr)
        case first => as_aux_lemma =>
          clear P1 IRr BWr HWn
          by_cases c1 : 0 ≤ a
          · by_cases c2 : 0 ≤ b
            · by_cases c3 : a < (fs.length : Int)
              · by_cases c4 : b < (fs.length : Int)
                · have e : Hid ((E.inB fs.length a && E.inB fs.length b) = true) := by show _ = _; rw [E.inB_iff.2 ⟨c1, c3⟩, E.inB_iff.2 ⟨c2, c4⟩]; rfl
                  go_wp2
                  go_meet
                  exact ⟨by rw [e.out], rfl⟩
                · have e : Hid ((E.inB fs.length a && E.inB fs.length b) = false) := by show _ = _; rw [Bool.and_eq_false_iff]; right; exact decide_eq_false (fun c => c4 c.2)
                  go_wp2
                  go_meet
                  exact ⟨by rw [e.out], rfl⟩
              · have e : Hid ((E.inB fs.length a && E.inB fs.length b) = false) := by show _ = _; rw [Bool.and_eq_false_iff]; left; exact decide_eq_false (fun c => c3 c.2)
                go_wp2
                go_meet
                exact ⟨by rw [e.out], rfl⟩
            · have e : Hid ((E.inB fs.length a && E.inB fs.length b) = false) := by show _ = _; rw [Bool.and_eq_false_iff]; right; exact decide_eq_false (fun c => c2 c.1)
              go_wp2
              go_meet
              exact ⟨by rw [e.out], rfl⟩
          · have e : Hid ((E.inB fs.length a && E.inB fs.length b) = false) := by show _ = _; rw [Bool.and_eq_false_iff]; left; exact decide_eq_false (fun c => c1 c.1)
            go_wp2
            go_meet
            exact ⟨by rw [e.out], rfl⟩
        case rest => as_aux_lemma =>
          obtain ⟨rfl, hw⟩ := hcut
          subst wc
          by_cases k1 : kd = 1
          · subst k1
            cases hin : (E.inB fs.length a && E.inB fs.length b)
            · have PN : Hid (∀ q, q < p + 1 → GH fs ws (gs.getD q E.l0)) := P1.out (fun _ ha hb => by
                simp only at ha hb
                rw [ha, hb] at hin
                cases hin)
              clear hin P1
              go_wp2_with fail
              go_quiet (fail)
              go_wp2_with fail
              go_roundw
              case rel => exact ⟨p + 1, by go_num, by omega, PN, HWn.out _⟩
              case measure => simp [intOf]; omega
            · rw [Bool.and_eq_true] at hin
              obtain ⟨na, rfl, la⟩ := inB_toNat hin.1
              obtain ⟨nb, rfl, lb⟩ := inB_toNat hin.2
              clear hin
              obtain ⟨br, orr, rfl, hbr, e1⟩ := IRr.out.at_ (j := na) (by omega)
              obtain ⟨br', orr', er, _, e2⟩ := IRr.out.at_ (j := nb) (by omega)
              cases er
              have xa : (na : Int) < (fs.length : Int) := by omega
              have xb : (nb : Int) < (fs.length : Int) := by omega
              by_cases ww : ws.getD na 0 = ws.getD nb 0
              · have PN : Hid (∀ q, q < p + 1 → GH fs ws (gs.getD q E.l0)) := P1.out (fun _ _ _ => by
                  simp only [Int.toNat_natCast]
                  exact ww)
                rw [← ww] at e2
                clear P1 ww
                generalize ws.getD na 0 = wv at *
                have we : (wv != wv) = false := by simp
                go_wp2_with fail
                go_quiet (fail)
                go_wp2_with fail
                go_roundw
                case rel => exact ⟨p + 1, by go_num, by omega, PN, HWn.out _⟩
                case measure => simp [intOf]; omega
              · clear P1
                generalize ws.getD na 0 = wv at *
                generalize ws.getD nb 0 = wu at *
                have we : (wv != wu) = true := by simpa using ww
                go_wp2_with fail
                go_quiet (fail)
                go_wp2_with fail
                go_ret
                exact ⟨by rfl, BWr.out _⟩
          · have k2 : (kd == 1) = false := by simpa using k1
            have PN : Hid (∀ q, q < p + 1 → GH fs ws (gs.getD q E.l0)) := P1.out (fun hk => absurd hk k1)
            clear P1
            generalize (E.inB fs.length a && E.inB fs.length b) = ib at *
            go_wp2_with fail
            go_quiet (fail)
            go_wp2_with fail
            go_roundw
            case rel => exact ⟨p + 1, by go_num, by omega, PN, HWn.out _⟩
            case measure => simp [intOf]; omega
      · obtain rfl : p = gs.length := by omega
        have HOLD := hide (E.fol_holds (fs := fs) (gs := gs) (ls := ls) (fun x => ws.getD x.toNat 0)
          (fun a b ha hb h0 hfn hl h => by
            simp only [Int.toNat_natCast]
            exact CONG.out a b ha hb h0 hfn hl h)
          (fun g hg h1 h2 h3 => by
            obtain ⟨j, hj, rfl⟩ := List.getElem_of_mem hg
            have := PP.out j hj
            rw [List.getD_eq_getElem?_getD, List.getElem?_eq_getElem hj] at this
            exact this h1 h2 h3) up hfol.out)
        have B4 : Hid (Below w4.heap.size w4 wr) := by
          obtain ⟨m, e⟩ := HW.out
          rw [e]
          exact below_drewN (Below.refl _ _) m
        have hw4 : w.heap.size ≤ w4.heap.size := b4.out.size
        clear hpl hp PP CONG HWn HW BWr IRr hfol
        go_upto_if 166 with fail
        go_cut [21] (fun sx wx => sx = .int .i64 (up : Int) ∧ wx = wr)
        case first => as_aux_lemma =>
          rcases hUA.out with ⟨u1, u2⟩ | ⟨u1, u2, u3⟩
          · subst u1
            subst u2
            clear hUA HOLD
            go_wp2
            go_meet
            exact ⟨rfl, rfl⟩
          · subst u1
            have u4 : ¬ (up : Int) = -1 := by omega
            have u5 : ((up : Int) == -1) = false := by rw [beq_eq_false_iff_ne]; omega
            clear hUA HOLD u3
            go_wp2
            go_meet
            exact ⟨rfl, rfl⟩
        case rest =>
          obtain ⟨rfl, hw⟩ := hcut
          subst wc
          go_wp2_with fail
          obtain ⟨wo, hwo⟩ : ∃ wo, wo = wr := ⟨wr, rfl⟩
          subst hwo
          go_loopw [22] (fun x wz => ∃ p : Nat, x = .int .i64 (p : Int) ∧ p ≤ up ∧ Hid (Below w4.heap.size w4 wz)) (fun x _ => up - (intOf x).toNat)
          case atStart => exact ⟨0, rfl, Nat.zero_le _, B4⟩
          case round => as_aux_lemma =>
            obtain ⟨p, rfl, hp, BZ⟩ := hrel
            by_cases hpl : p < up
            · obtain ⟨bl, ol, rfl, hbl, d0, d1, d2, d3, ⟨u, d4, RU⟩, -, -, -⟩ := (L4.out.below (BZ.out.mono hw4)).at_ (j := p) (by omega)
              obtain ⟨au, cu, rfl, -⟩ := RU.shape
              clear RU
              obtain ⟨i1, i2, i3⟩ := HOLD.out p hpl
              generalize ls.getD p E.l0 = l at *
              obtain ⟨kd, a, b, tg, ks⟩ := l
              simp only at d0 d1 d2 d3 d4 i1 i2 i3
              obtain ⟨na, rfl, la⟩ := inB_toNat i1
              obtain ⟨nb, rfl, lb⟩ := inB_toNat i2
              simp only [Int.toNat_natCast] at i3
              have pl : (p : Int) < (up : Int) := by omega
              have pl2 : (p : Int) < (ls.length : Int) := by omega
              have WA : Hid (Below wr.heap.size wr (wr.alloc (.cells #[.int .i64 kd, .int .i64 (na : Int), .int .i64 (nb : Int), .int .i64 tg, .slice au ks.length cu] 26))) := alloc_bel _ _
              have A1 : Hid ((wr.alloc (.cells #[.int .i64 kd, .int .i64 (na : Int), .int .i64 (nb : Int), .int .i64 tg, .slice au ks.length cu] 26)).heap[wr.heap.size]? = some (.cells #[.int .i64 kd, .int .i64 (na : Int), .int .i64 (nb : Int), .int .i64 tg, .slice au ks.length cu] 26 (0, 0))) := heap_alloc_new wr _
              clear i1 i2
              go_upto_region 28 with fail
              generalize (wr.alloc (.cells #[.int .i64 kd, .int .i64 (na : Int), .int .i64 (nb : Int), .int .i64 tg, .slice au ks.length cu] 26)) = wb at *
              have z1 : wb.cell? ⟨wr.heap.size, 1, none⟩ = some (.int .i64 (na : Int)) := by rw [cell_of_row _ _ _ _ _ _ A1.out]; rfl
              have z2 : wb.cell? ⟨wr.heap.size, 2, none⟩ = some (.int .i64 (nb : Int)) := by rw [cell_of_row _ _ _ _ _ _ A1.out]; rfl
              have BB : Hid (Below w4.heap.size w4 wb) := BZ.out.then_below WA.out
              have IB := IR.out.below BB.out
              rw [wlen] at IB
              obtain ⟨br, orr, rfl, hbr, e1⟩ := IB.at_ (j := na) (by omega)
              obtain ⟨br', orr', er, _, e2⟩ := IB.at_ (j := nb) (by omega)
              cases er
              rw [← i3] at e2
              generalize ws.getD na 0 = wv at *
              have xa : (na : Int) < (fs.length : Int) := by omega
              have xb : (nb : Int) < (fs.length : Int) := by omega
              have y1 : decide ((na : Int) < 0) = false := by simp
              have y2 : decide ((nb : Int) < 0) = false := by simp
              have y3 : decide ((fs.length : Int) ≤ (na : Int)) = false := by rw [decide_eq_false_iff_not]; omega
              have y4 : decide ((fs.length : Int) ≤ (nb : Int)) = false := by rw [decide_eq_false_iff_not]; omega
              have we : (wv != wv) = false := by simp
              have BN : Hid (∀ m, Below w4.heap.size w4 (wb.drewN m)) := fun m => below_drewN BB.out m
              clear d0 d1 d2 d3 d4 A1 WA IB i3 BZ
              go_quiet (fail)
              go_wp2_with fail
              go_roundw
              case rel => exact ⟨p + 1, by go_num, by omega, BN.out _⟩
              case measure => simp [intOf]; omega
            · obtain rfl : p = up := by omega
              have BF : Hid (∀ m, Below w.heap.size w (wr.drewN m)) := fun m => below_drewN (b4.out.then_below BZ.out) m
              clear hpl hp
              rcases hUA.out with ⟨u1, u2⟩ | ⟨u1, u2, u3⟩
              · subst u1
                clear hUA HOLD
                go_wp2_with fail
                go_quiet (fail)
                go_wp2_with fail
                go_ret
                exact ⟨by rfl, BF.out _⟩
              · subst u1
                obtain ⟨bl, ol, rfl, hbl, d0, d1, d2, d3, ⟨u, d4, RU⟩, -, -, -⟩ := (L4.out.below (BZ.out.mono hw4)).at_ (j := p) u2
                obtain ⟨au, cu, rfl, -⟩ := RU.shape
                clear RU
                have SF : Hid (∀ a, ls.getD p E.l0 = ⟨2, a, a, 0, []⟩ → E.inB fs.length a = true → False) := fun a h1 h2 => by
                  rw [fol_self h1 h2] at u3
                  cases u3
                generalize ls.getD p E.l0 = l at *
                obtain ⟨kd, a, b, tg, ks⟩ := l
                simp only at d0 d1 d2 d3 d4
                have pl2 : (p : Int) < (ls.length : Int) := by omega
                have u4 : ¬ (p : Int) = -1 := by omega
                have u5 : ((p : Int) == -1) = false := by rw [beq_eq_false_iff_ne]; omega
                clear hUA HOLD u3
                by_cases k1 : ¬ kd = 2
                · have k2 : (kd != 2) = true := by simpa using k1
                  go_wp2_with fail
                  go_quiet (fail)
                  go_wp2_with fail
                  go_ret
                  exact ⟨by rfl, BF.out _⟩
                obtain rfl : kd = 2 := Decidable.not_not.1 k1
                clear k1
                by_cases ab : ¬ a = b
                · have ab2 : (a != b) = true := by simpa using ab
                  go_wp2_with fail
                  go_quiet (fail)
                  go_wp2_with fail
                  go_ret
                  exact ⟨by rfl, BF.out _⟩
                obtain rfl : a = b := Decidable.not_not.1 ab
                clear ab
                have ab3 : (a != a) = false := by simp
                by_cases a0 : a < 0
                · have a5 : decide (a < 0) = true := decide_eq_true a0
                  go_wp2_with fail
                  go_quiet (fail)
                  go_wp2_with fail
                  go_ret
                  exact ⟨by rfl, BF.out _⟩
                have a5 : decide (a < 0) = false := decide_eq_false a0
                by_cases a6 : (fs.length : Int) ≤ a
                · have a7 : decide ((fs.length : Int) ≤ a) = true := decide_eq_true a6
                  go_wp2_with fail
                  go_quiet (fail)
                  go_wp2_with fail
                  go_ret
                  exact ⟨by rfl, BF.out _⟩
                have a7 : decide ((fs.length : Int) ≤ a) = false := decide_eq_false a6
                cases ks with
                | cons k0 ks =>
                  have k8 : decide ((0 : Int) < (((k0 :: ks).length : Nat) : Int)) = true := by rw [decide_eq_true_iff]; simp
                  go_wp2_with fail
                  go_quiet (fail)
                  go_wp2_with fail
                  go_ret
                  exact ⟨by rfl, BF.out _⟩
                | nil =>
                  by_cases t0 : tg = 0
                  · subst t0
                    exact absurd (SF.out a rfl (E.inB_iff.2 ⟨by omega, by omega⟩)) (fun h => h)
                  · have t1 : (tg != 0) = true := by simpa using t0
                    go_wp2_with fail
                    go_quiet (fail)
                    go_wp2_with fail
                    go_ret
                    exact ⟨by rfl, BF.out _⟩
end Go.Proofs.Ytgipjbinlbjlmaa
