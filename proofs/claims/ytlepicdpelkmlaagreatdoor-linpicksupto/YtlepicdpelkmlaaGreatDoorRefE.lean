/- Laid together of: RefCan, RefCan2, RefTwo. -/
import Derived.Test.YtlepicdpelkmlaaGreatDoorMulA
/- ==== RefCan ==== -/
namespace Go.Proofs.YtlepicdpelkmlaaGreatDoor
open Go.RowKit
set_option linter.unusedVariables false
theorem can_low {l : List UInt8} (h : CanT l) : Lit (clow l) ∧ clow l ≠ [48] := by
  cases hs : cslash l with
  | true => exact ⟨(h.2.2 hs).1, (h.2.2 hs).2.1⟩
  | false => rw [clow_plain hs]; exact ⟨by decide, by decide⟩
theorem can_vals {l : List UInt8} (h : CanT l) : (cneg l && !decide (M.dec (cup l) = 0)) = cneg l ∧ M.dec (cup l) / Nat.gcd (M.dec (cup l)) (M.dec (clow l)) = M.dec (cup l) ∧ M.dec (clow l) / Nat.gcd (M.dec (cup l)) (M.dec (clow l)) = M.dec (clow l) := by
  have h1 : Nat.gcd (M.dec (cup l)) (M.dec (clow l)) = 1 := by
    cases hs : cslash l with
    | true => exact (h.2.2 hs).2.2.2
    | false => rw [clow_plain hs, show M.dec [49] = 1 from rfl, Nat.gcd_one_right]
  rw [h1, Nat.div_one, Nat.div_one]
  refine ⟨?_, rfl, rfl⟩
  cases hc : cneg l with
  | false => rfl
  | true => simpa using fun e => h.2.1 hc ((dec_zero h.1).1 e)
theorem str_ne2 {T s : ByteArray} (h : T ≠ s) : ¬ T.toList = s.toList ∧ (T.toList == s.toList) = false ∧ ¬ T.data.toList = s.data.toList ∧ ¬ T = s ∧ ¬ s = T := by
  have h3 : ¬ T.data.toList = s.data.toList := fun e => h (by
    cases T with
    | mk a => cases s with
      | mk b => simp at e; rw [e])
  have h2 : ¬ T.toList = s.toList := by rw [← str_toList, ← str_toList]; exact h3
  exact ⟨h2, by simpa using h2, h3, h, fun e => h e.symm⟩
set_option maxRecDepth 100000 in
set_option maxHeartbeats 6400000 in
theorem of_plain (w : World) (s : ByteArray) (l : List UInt8) (hs : s.data.toList = l) (hl : l.length ≤ 1073741824) (hm : ∀ t, l ≠ 45 :: t) (h0 : 0 < l.length) :
    Calls Tryz.prog 50 #[.string s] w fun e w' => ((CanT l → ∃ v, e = .returned (.tuple #[v, .bool true]) ∧ RR w' v (cneg l) (M.dec (cup l)) (M.dec (clow l))) ∧ (¬ CanT l → e = .returned (.tuple #[.agg #[.bool false, .slice none 0 0, .slice none 0 0], .bool false]))) ∧ Below w.heap.size w w' := by
  have hRz := size_of s l hs
  have HT := hide hs
  have hSs := hide hs
  clear hs
  have hfirst : Hid (0 < l.length → (l.getD 0 0).toNat ≠ 45) := fun h e => by
    cases l with
    | nil => simp at h
    | cons b t => exact hm t (by simp at e; rw [show b = 45 from UInt8.toNat_inj.1 (by simpa using e)])
  have hTl : Hid (Lib.trimPrefix l [45] = l) := by
    show _ = _
    cases l with
    | nil => exact minus_nil
    | cons b t => exact minus_no b t (fun e => hm t (by rw [e]))
  have hcn : Hid (cneg l = false) := by show _ = _; unfold cneg; rw [hTl.out]; exact decide_eq_false (by omega)
  clear hm
  obtain ⟨W0, hW0⟩ : ∃ W0, w.alloc (.cells #[.bool false, .slice none 0 0, .slice none 0 0] 77) = W0 := ⟨_, rfl⟩
  have B0 : Hid (Below w.heap.size w W0) := by rw [← hW0]; exact (Below.refl _ w).alloc (Nat.le_refl _) _
  have A0 : Hid (W0.heap[w.heap.size]? = some (.cells #[.bool false, .slice none 0 0, .slice none 0 0] 77 (0, 0))) := by rw [← hW0]; exact heap_alloc_new w _
  have hb0 := byteAt s l HT.out 0 (by omega)
  have hb1 := hfirst.out h0
  generalize l.getD 0 0 = b0 at *
  go_enter Tryz.func50, Tryz.ntmps50
  go_wp2
  go_loopw [5, 6, 7] (fun a b j wr => ∃ q : Nat, q ≤ l.length ∧ a = .string s ∧ b = .string ⟨#[49]⟩ ∧ j = .int .i64 q ∧ Hid (∀ k, k < q → l.getD k 0 ≠ 47) ∧ wr = W0) (fun _ _ j _ => l.length - (intOf j).toNat)
  case atStart => exact ⟨0, Nat.zero_le _, rfl, rfl, rfl, fun k hk => absurd hk (Nat.not_lt_zero k), rfl⟩
  case round =>
    obtain ⟨q, hq, rfl, rfl, rfl, hno, hw⟩ := hrel
    replace hw := hw.symm
    subst hw
    by_cases hlt : q < l.length
    · have hqs : q < s.size := by omega
      have hb := byteAt s l HT.out q hqs
      have hcut := hide (fun h => cut_at l q hno.out hlt h)
      have hstep : Hid (l.getD q 0 ≠ 47 → ∀ k, k < q + 1 → l.getD k 0 ≠ 47) := fun h k hk => by
        rcases Nat.lt_or_ge k q with h2 | h2
        · exact hno.out k h2
        · obtain rfl : k = q := by omega
          exact h
      generalize l.getD q 0 = b at *
      by_cases h47 : b.toNat = 47
      · have hb47 : b = 47 := UInt8.toNat_inj.1 (by simpa using h47)
        have hc2 := hide (hcut.out hb47)
        clear hb47 hcut hstep hno
        obtain ⟨U, eU⟩ : ∃ U, s.extract 0 q = U := ⟨_, rfl⟩
        obtain ⟨L, eL⟩ : ∃ L, s.extract (q + 1) l.length = L := ⟨_, rfl⟩
        have hU : Hid (U.data.toList = l.take q) := by rw [← eU]; exact extract_take HT.out q
        have hLo : Hid (L.data.toList = l.drop (q + 1)) := by rw [← eL]; exact extract_drop' HT.out hRz (q + 1)
        have hcu : Hid (cup l = l.take q) := by show _ = _; unfold cup; rw [hTl.out, hc2.out]
        have hcl : Hid (clow l = l.drop (q + 1)) := by show _ = _; unfold clow; rw [hTl.out, hc2.out]; rfl
        have hu1 : (l.take q).length ≤ l.length := by rw [List.length_take]; omega
        have hu2 : (l.drop (q + 1)).length ≤ l.length := by rw [List.length_drop]; omega
        have hUz := size_of U _ hU.out
        have hLz := size_of L _ hLo.out
        generalize l.take q = u at *
        generalize l.drop (q + 1) = lo at *
        have qU := hide (rdigits_calls W0 U u hU.out (by omega))
        have qL := hide (rdigits_calls W0 L lo hLo.out (by omega))
        by_cases hGu : Lit u
        · by_cases hGl : Lit lo
          · by_cases h48 : lo = [48]
            ·
              have hR : Hid (¬ CanT l) := fun h => (can_low h).2 (by rw [hcl.out]; exact h48)
              have hL48 : L = ⟨#[48]⟩ := by have := hLo.out; rw [h48] at this; exact str_is this
              rw [decide_eq_true hGu] at qU
              rw [decide_eq_true hGl, hL48] at qL
              rw [hL48] at eL
              obtain ⟨z0, z1, z2, f0, f1, f2⟩ := box3 A0.out
              clear hGu hGl h48 hLz hL48
              go_wp2_with (first
                  | (go_at_call 66; (with_reducible refine qU.out.mono ?_); rintro e wx ⟨rfl, hwx⟩; rw [hwx])
                  | (go_at_call 66; (with_reducible refine qL.out.mono ?_); rintro e wx ⟨rfl, hwx⟩; rw [hwx]))
              refine bodyPost_ret (v := .tuple #[.agg #[.bool false, .slice none 0 0, .slice none 0 0], .bool false]) (by simp [results, Tryz.results50, go_sem, z0, z1, z2]) rfl ?_
              exact ⟨⟨fun h => absurd h hR.out, fun _ => rfl⟩, B0.out.then_grown (set3 _ _ _ _ _) (by rintro g ⟨⟩; exact Nat.le_refl _)⟩
            ·
              rw [decide_eq_true hGu] at qU
              rw [decide_eq_true hGl] at qL
              obtain ⟨i1, i2, i3, i4⟩ := str_ne hLo.out h48
              have hz0 : 0 < M.dec lo := Nat.pos_of_ne_zero (fun e => h48 ((dec_zero hGl).1 e))
              have qN := hide (rnatOf_calls W0 U u hU.out hGu.1.2 (by omega))
              have gL := hide hGl.1.2
              have kU := hide (dec_NB (K := l.length + 1) hGu.1.2 (by omega))
              have kL := hide (dec_NB (K := l.length + 1) hGl.1.2 (by omega))
              have kq : Hid (∀ a b : Nat, (a : Int) < M.NB ^ (l.length + 1) → ((a / b : Nat) : Int) < M.NB ^ (l.length + 1)) := fun a b h => Int.lt_of_le_of_lt (by have := Nat.div_le_self a b; omega) h
              have hdg : Hid (0 < M.dec lo / Nat.gcd (M.dec u) (M.dec lo)) := Nat.div_pos (Nat.gcd_le_right _ hz0) (Nat.gcd_pos_of_pos_right _ hz0)
              have hct : Hid (rText (false && !decide (M.dec u = 0)) (M.dec u / Nat.gcd (M.dec u) (M.dec lo)) (M.dec lo / Nat.gcd (M.dec u) (M.dec lo)) = l ↔ CanT l) := by
                have := can_text l (by rw [hcu.out]; exact hGu) (by rw [hcl.out]; exact hGl) (by rw [hcl.out]; exact h48)
                rw [hcu.out, hcl.out, hcn.out] at this
                exact this
              have hcv : Hid (CanT l → (false && !decide (M.dec u = 0)) = false ∧ M.dec u / Nat.gcd (M.dec u) (M.dec lo) = M.dec u ∧ M.dec lo / Nat.gcd (M.dec u) (M.dec lo) = M.dec lo) := fun h => by
                have := can_vals h
                rwa [hcu.out, hcl.out, hcn.out] at this
              clear hGu hGl h48
              by_cases hcan : CanT l
              · have hTs : Hid ((⟨(rText false (M.dec u) (M.dec lo)).toArray⟩ : ByteArray) = s) := by
                  show _ = _
                  have h1 := hct.out.2 hcan
                  rw [(hcv.out hcan).1, (hcv.out hcan).2.1, (hcv.out hcan).2.2] at h1
                  rw [h1]
                  exact (str_is hSs.out).symm
                have HC := hide hcan
                clear hcan hct
                go_wp2_with (first
                  | (go_at_call 66; (with_reducible refine qU.out.mono ?_); rintro e wx ⟨rfl, hwx⟩; rw [hwx])
                  | (go_at_call 66; (with_reducible refine qL.out.mono ?_); rintro e wx ⟨rfl, hwx⟩; rw [hwx])
                  | (go_at_call 67; (with_reducible refine qN.out.mono ?_); rintro e w5 ⟨⟨v5, rfl, n5⟩, b5⟩; have qO := hide (rnatOf_calls w5 L lo hLo.out gL.out (by omega)); replace n5 := hide n5; replace b5 := hide b5)
                  | (go_at_call 67; (with_reducible refine qO.out.mono ?_); rintro e w6 ⟨⟨v6, rfl, n6⟩, b6⟩; have q7 := hide (fun neg => ratio_calls w6 neg _ _ (M.dec u) (M.dec lo) (l.length + 1) (n5.out.below b6) n6 hz0 kU.out kL.out (by omega) (by omega)); replace n6 := hide n6; replace b6 := hide b6)
                  | (go_at_call 52; (with_reducible refine (q7.out false).mono ?_); rintro e w7 ⟨⟨v7, rfl, n7⟩, b7⟩; rw [(hcv.out HC.out).1, (hcv.out HC.out).2.1, (hcv.out HC.out).2.2] at n7; obtain ⟨pa, pl, pc, ra, rl, rc, rfl, m1, m2⟩ := n7; have BB : Hid (Below W0.heap.size W0 w7) := (b5.out.then_below b6.out).then_below b7; have q8 := hide (rtext_calls (w7.alloc (.cells #[.bool false, .slice pa pl pc, .slice ra rl rc] 77)) (.agg #[.bool false, .slice pa pl pc, .slice ra rl rc]) false (M.dec u) (M.dec lo) (l.length + 1) ⟨pa, pl, pc, ra, rl, rc, rfl, m1.below (alloc_below w7 _), m2.below (alloc_below w7 _)⟩ hz0 kU.out kL.out (by omega)); rw [hTs.out] at q8; replace m1 := hide m1; replace m2 := hide m2; replace b7 := hide b7)
                  | (go_at_call 30; refine q8.out.mono ?_; rintro e w8 ⟨rfl, b8⟩
                     have BC : Hid (Below W0.heap.size W0 w8) := (BB.out.then_below (alloc_below w7 _)).then_below b8
                     have A1 := hide (kept_block A0.out BC.out)
                     obtain ⟨z0, z1, z2, f0, f1, f2⟩ := box3 A1.out
                     obtain ⟨r0, r1, r2, -, -, -⟩ := box3 (kept_block (heap_alloc_new w7 (.cells #[.bool false, .slice pa pl pc, .slice ra rl rc] 77)) b8)
                     replace b8 := hide b8))
                refine bodyPost_ret (v := .tuple #[.agg #[.bool false, .slice pa pl pc, .slice ra rl rc], .bool true]) (by simp [results, Tryz.results50, go_sem, z0, z1, z2]) rfl ?_
                have q := set3 w8 w.heap.size (.bool false) (.slice pa pl pc) (.slice ra rl rc)
                refine ⟨⟨fun _ => ⟨_, rfl, ?_⟩, fun h => absurd HC.out h⟩, (B0.out.then_below BC.out).then_grown q (by rintro g ⟨⟩; exact Nat.le_refl _)⟩
                rw [hcn.out, hcu.out, hcl.out]
                exact ⟨pa, pl, pc, ra, rl, rc, rfl, ((m1.out.below (alloc_below w7 _)).below b8.out).past A1.out q, ((m2.out.below (alloc_below w7 _)).below b8.out).past A1.out q⟩
              · obtain ⟨T, hTs⟩ : ∃ T : ByteArray, (⟨(rText (false && !decide (M.dec u = 0)) (M.dec u / Nat.gcd (M.dec u) (M.dec lo)) (M.dec lo / Nat.gcd (M.dec u) (M.dec lo))).toArray⟩ : ByteArray) = T := ⟨_, rfl⟩
                have hne : T ≠ s := fun e => hcan (hct.out.1 (by
                  have h1 := hSs.out
                  rw [← e, ← hTs] at h1
                  simpa using h1))
                obtain ⟨o2, o3, o4, o5, o6⟩ := str_ne2 hne
                have hR := hide hcan
                replace hTs := hide hTs
                clear hcan hct hcv hne
                go_wp2_with (first
                  | (go_at_call 66; (with_reducible refine qU.out.mono ?_); rintro e wx ⟨rfl, hwx⟩; rw [hwx])
                  | (go_at_call 66; (with_reducible refine qL.out.mono ?_); rintro e wx ⟨rfl, hwx⟩; rw [hwx])
                  | (go_at_call 67; (with_reducible refine qN.out.mono ?_); rintro e w5 ⟨⟨v5, rfl, n5⟩, b5⟩; have qO := hide (rnatOf_calls w5 L lo hLo.out gL.out (by omega)); replace n5 := hide n5; replace b5 := hide b5)
                  | (go_at_call 67; (with_reducible refine qO.out.mono ?_); rintro e w6 ⟨⟨v6, rfl, n6⟩, b6⟩; have q7 := hide (fun neg => ratio_calls w6 neg _ _ (M.dec u) (M.dec lo) (l.length + 1) (n5.out.below b6) n6 hz0 kU.out kL.out (by omega) (by omega)); replace n6 := hide n6; replace b6 := hide b6)
                  | (go_at_call 52; (with_reducible refine (q7.out false).mono ?_); rintro e w7 ⟨⟨v7, rfl, n7⟩, b7⟩; obtain ⟨pa, pl, pc, ra, rl, rc, rfl, m1, m2⟩ := n7; have BB : Hid (Below W0.heap.size W0 w7) := (b5.out.then_below b6.out).then_below b7; have q8 := hide (rtext_calls (w7.alloc (.cells #[.bool (false && !decide (M.dec u = 0)), .slice pa pl pc, .slice ra rl rc] 77)) (.agg #[.bool (false && !decide (M.dec u = 0)), .slice pa pl pc, .slice ra rl rc]) (false && !decide (M.dec u = 0)) (M.dec u / Nat.gcd (M.dec u) (M.dec lo)) (M.dec lo / Nat.gcd (M.dec u) (M.dec lo)) (l.length + 1) ⟨pa, pl, pc, ra, rl, rc, rfl, m1.below (alloc_below w7 _), m2.below (alloc_below w7 _)⟩ hdg.out (kq.out _ _ kU.out) (kq.out _ _ kL.out) (by omega)); rw [hTs.out] at q8; replace m1 := hide m1; replace m2 := hide m2; replace b7 := hide b7)
                  | (go_at_call 30; refine q8.out.mono ?_; rintro e w8 ⟨rfl, b8⟩
                     have BC : Hid (Below W0.heap.size W0 w8) := (BB.out.then_below (alloc_below w7 _)).then_below b8
                     have A1 := hide (kept_block A0.out BC.out)
                     obtain ⟨z0, z1, z2, f0, f1, f2⟩ := box3 A1.out
                     obtain ⟨r0, r1, r2, -, -, -⟩ := box3 (kept_block (heap_alloc_new w7 (.cells #[.bool (false && !decide (M.dec u = 0)), .slice pa pl pc, .slice ra rl rc] 77)) b8)
                     replace b8 := hide b8))
                refine bodyPost_ret (v := .tuple #[.agg #[.bool false, .slice none 0 0, .slice none 0 0], .bool false]) (by simp [results, Tryz.results50, go_sem, z0, z1, z2]) rfl ?_
                exact ⟨⟨fun h => absurd h hR.out, fun _ => rfl⟩, (B0.out.then_below BC.out).then_grown (set3 _ _ _ _ _) (by rintro g ⟨⟩; exact Nat.le_refl _)⟩
          ·
            have hR : Hid (¬ CanT l) := fun h => hGl (by have := (can_low h).1; rwa [hcl.out] at this)
            rw [decide_eq_true hGu] at qU
            rw [decide_eq_false hGl] at qL
            obtain ⟨z0, z1, z2, f0, f1, f2⟩ := box3 A0.out
            clear hGu hGl
            go_wp2_with (first
                | (go_at_call 66; (with_reducible refine qU.out.mono ?_); rintro e wx ⟨rfl, hwx⟩; rw [hwx])
                | (go_at_call 66; (with_reducible refine qL.out.mono ?_); rintro e wx ⟨rfl, hwx⟩; rw [hwx]))
            refine bodyPost_ret (v := .tuple #[.agg #[.bool false, .slice none 0 0, .slice none 0 0], .bool false]) (by simp [results, Tryz.results50, go_sem, z0, z1, z2]) rfl ?_
            exact ⟨⟨fun h => absurd h hR.out, fun _ => rfl⟩, B0.out.then_grown (set3 _ _ _ _ _) (by rintro g ⟨⟩; exact Nat.le_refl _)⟩
        ·
          have hR : Hid (¬ CanT l) := fun h => hGu (by have := h.1; rwa [hcu.out] at this)
          rw [decide_eq_false hGu] at qU
          obtain ⟨z0, z1, z2, f0, f1, f2⟩ := box3 A0.out
          clear hGu
          go_wp2_with (go_at_call 66; (with_reducible refine qU.out.mono ?_); rintro e wx ⟨rfl, hwx⟩; rw [hwx])
          refine bodyPost_ret (v := .tuple #[.agg #[.bool false, .slice none 0 0, .slice none 0 0], .bool false]) (by simp [results, Tryz.results50, go_sem, z0, z1, z2]) rfl ?_
          exact ⟨⟨fun h => absurd h hR.out, fun _ => rfl⟩, B0.out.then_grown (set3 _ _ _ _ _) (by rintro g ⟨⟩; exact Nat.le_refl _)⟩
      · have hb47 : b ≠ 47 := fun e => h47 (by rw [e]; rfl)
        have hn2 := hide (hstep.out hb47)
        clear hb47 hcut hstep
        go_wp2
        go_roundw
        case rel => exact ⟨q + 1, by omega, rfl, rfl, by simp, hn2, trivial⟩
        case measure => simp [intOf]; omega
    · obtain rfl : q = l.length := by omega
      have hc2 := hide (cut_none l hno.out)
      obtain ⟨L, eL⟩ : ∃ L : ByteArray, (⟨#[49]⟩ : ByteArray) = L := ⟨_, rfl⟩
      have hU : Hid (s.data.toList = l) := HT.out
      have hLo : Hid (L.data.toList = [49]) := by rw [← eL]; exact hide rfl
      have hcu : Hid (cup l = l) := by show _ = _; unfold cup; rw [hTl.out, hc2.out]
      have hcl : Hid (clow l = [49]) := by show _ = _; unfold clow; rw [hTl.out, hc2.out]; rfl
      have hGl : Lit [49] := by decide
      have h48 : ([49] : List UInt8) ≠ [48] := by decide
      obtain ⟨lo, hlo⟩ : ∃ lo : List UInt8, ([49] : List UInt8) = lo := ⟨_, rfl⟩
      have hloz : lo.length = 1 := by rw [← hlo]; rfl
      rw [hlo] at hLo hcl hGl h48
      have hLz := size_of L lo hLo.out
      clear hlo hno
      have qU := hide (rdigits_calls W0 s l hU.out (by omega))
      have qL := hide (rdigits_calls W0 L lo hLo.out (by omega))
      by_cases hGu : Lit l
      ·
        rw [decide_eq_true hGu] at qU
        rw [decide_eq_true hGl] at qL
        obtain ⟨i1, i2, i3, i4⟩ := str_ne hLo.out h48
        have hz0 : 0 < M.dec lo := Nat.pos_of_ne_zero (fun e => h48 ((dec_zero hGl).1 e))
        have qN := hide (rnatOf_calls W0 s l hU.out hGu.1.2 (by omega))
        have gL := hide hGl.1.2
        have kU := hide (dec_NB (K := l.length + 1) hGu.1.2 (by omega))
        have kL := hide (dec_NB (K := l.length + 1) hGl.1.2 (by omega))
        have kq : Hid (∀ a b : Nat, (a : Int) < M.NB ^ (l.length + 1) → ((a / b : Nat) : Int) < M.NB ^ (l.length + 1)) := fun a b h => Int.lt_of_le_of_lt (by have := Nat.div_le_self a b; omega) h
        have hdg : Hid (0 < M.dec lo / Nat.gcd (M.dec l) (M.dec lo)) := Nat.div_pos (Nat.gcd_le_right _ hz0) (Nat.gcd_pos_of_pos_right _ hz0)
        have hct : Hid (rText (false && !decide (M.dec l = 0)) (M.dec l / Nat.gcd (M.dec l) (M.dec lo)) (M.dec lo / Nat.gcd (M.dec l) (M.dec lo)) = l ↔ CanT l) := by
          have := can_text l (by rw [hcu.out]; exact hGu) (by rw [hcl.out]; exact hGl) (by rw [hcl.out]; exact h48)
          rw [hcu.out, hcl.out, hcn.out] at this
          exact this
        have hcv : Hid (CanT l → (false && !decide (M.dec l = 0)) = false ∧ M.dec l / Nat.gcd (M.dec l) (M.dec lo) = M.dec l ∧ M.dec lo / Nat.gcd (M.dec l) (M.dec lo) = M.dec lo) := fun h => by
          have := can_vals h
          rwa [hcu.out, hcl.out, hcn.out] at this
        clear hGu hGl h48
        by_cases hcan : CanT l
        · have hTs : Hid ((⟨(rText false (M.dec l) (M.dec lo)).toArray⟩ : ByteArray) = s) := by
            show _ = _
            have h1 := hct.out.2 hcan
            rw [(hcv.out hcan).1, (hcv.out hcan).2.1, (hcv.out hcan).2.2] at h1
            rw [h1]
            exact (str_is hSs.out).symm
          have HC := hide hcan
          clear hcan hct
          go_wp2_with (first
            | (go_at_call 66; (with_reducible refine qU.out.mono ?_); rintro e wx ⟨rfl, hwx⟩; rw [hwx])
            | (go_at_call 66; (with_reducible refine qL.out.mono ?_); rintro e wx ⟨rfl, hwx⟩; rw [hwx])
            | (go_at_call 67; (with_reducible refine qN.out.mono ?_); rintro e w5 ⟨⟨v5, rfl, n5⟩, b5⟩; have qO := hide (rnatOf_calls w5 L lo hLo.out gL.out (by omega)); replace n5 := hide n5; replace b5 := hide b5)
            | (go_at_call 67; (with_reducible refine qO.out.mono ?_); rintro e w6 ⟨⟨v6, rfl, n6⟩, b6⟩; have q7 := hide (fun neg => ratio_calls w6 neg _ _ (M.dec l) (M.dec lo) (l.length + 1) (n5.out.below b6) n6 hz0 kU.out kL.out (by omega) (by omega)); replace n6 := hide n6; replace b6 := hide b6)
            | (go_at_call 52; (with_reducible refine (q7.out false).mono ?_); rintro e w7 ⟨⟨v7, rfl, n7⟩, b7⟩; rw [(hcv.out HC.out).1, (hcv.out HC.out).2.1, (hcv.out HC.out).2.2] at n7; obtain ⟨pa, pl, pc, ra, rl, rc, rfl, m1, m2⟩ := n7; have BB : Hid (Below W0.heap.size W0 w7) := (b5.out.then_below b6.out).then_below b7; have q8 := hide (rtext_calls (w7.alloc (.cells #[.bool false, .slice pa pl pc, .slice ra rl rc] 77)) (.agg #[.bool false, .slice pa pl pc, .slice ra rl rc]) false (M.dec l) (M.dec lo) (l.length + 1) ⟨pa, pl, pc, ra, rl, rc, rfl, m1.below (alloc_below w7 _), m2.below (alloc_below w7 _)⟩ hz0 kU.out kL.out (by omega)); rw [hTs.out] at q8; replace m1 := hide m1; replace m2 := hide m2; replace b7 := hide b7)
            | (go_at_call 30; refine q8.out.mono ?_; rintro e w8 ⟨rfl, b8⟩
               have BC : Hid (Below W0.heap.size W0 w8) := (BB.out.then_below (alloc_below w7 _)).then_below b8
               have A1 := hide (kept_block A0.out BC.out)
               obtain ⟨z0, z1, z2, f0, f1, f2⟩ := box3 A1.out
               obtain ⟨r0, r1, r2, -, -, -⟩ := box3 (kept_block (heap_alloc_new w7 (.cells #[.bool false, .slice pa pl pc, .slice ra rl rc] 77)) b8)
               replace b8 := hide b8))
          refine bodyPost_ret (v := .tuple #[.agg #[.bool false, .slice pa pl pc, .slice ra rl rc], .bool true]) (by simp [results, Tryz.results50, go_sem, z0, z1, z2]) rfl ?_
          have q := set3 w8 w.heap.size (.bool false) (.slice pa pl pc) (.slice ra rl rc)
          refine ⟨⟨fun _ => ⟨_, rfl, ?_⟩, fun h => absurd HC.out h⟩, (B0.out.then_below BC.out).then_grown q (by rintro g ⟨⟩; exact Nat.le_refl _)⟩
          rw [hcn.out, hcu.out, hcl.out]
          exact ⟨pa, pl, pc, ra, rl, rc, rfl, ((m1.out.below (alloc_below w7 _)).below b8.out).past A1.out q, ((m2.out.below (alloc_below w7 _)).below b8.out).past A1.out q⟩
        · obtain ⟨T, hTs⟩ : ∃ T : ByteArray, (⟨(rText (false && !decide (M.dec l = 0)) (M.dec l / Nat.gcd (M.dec l) (M.dec lo)) (M.dec lo / Nat.gcd (M.dec l) (M.dec lo))).toArray⟩ : ByteArray) = T := ⟨_, rfl⟩
          have hne : T ≠ s := fun e => hcan (hct.out.1 (by
            have h1 := hSs.out
            rw [← e, ← hTs] at h1
            simpa using h1))
          obtain ⟨o2, o3, o4, o5, o6⟩ := str_ne2 hne
          have hR := hide hcan
          replace hTs := hide hTs
          clear hcan hct hcv hne
          go_wp2_with (first
            | (go_at_call 66; (with_reducible refine qU.out.mono ?_); rintro e wx ⟨rfl, hwx⟩; rw [hwx])
            | (go_at_call 66; (with_reducible refine qL.out.mono ?_); rintro e wx ⟨rfl, hwx⟩; rw [hwx])
            | (go_at_call 67; (with_reducible refine qN.out.mono ?_); rintro e w5 ⟨⟨v5, rfl, n5⟩, b5⟩; have qO := hide (rnatOf_calls w5 L lo hLo.out gL.out (by omega)); replace n5 := hide n5; replace b5 := hide b5)
            | (go_at_call 67; (with_reducible refine qO.out.mono ?_); rintro e w6 ⟨⟨v6, rfl, n6⟩, b6⟩; have q7 := hide (fun neg => ratio_calls w6 neg _ _ (M.dec l) (M.dec lo) (l.length + 1) (n5.out.below b6) n6 hz0 kU.out kL.out (by omega) (by omega)); replace n6 := hide n6; replace b6 := hide b6)
            | (go_at_call 52; (with_reducible refine (q7.out false).mono ?_); rintro e w7 ⟨⟨v7, rfl, n7⟩, b7⟩; obtain ⟨pa, pl, pc, ra, rl, rc, rfl, m1, m2⟩ := n7; have BB : Hid (Below W0.heap.size W0 w7) := (b5.out.then_below b6.out).then_below b7; have q8 := hide (rtext_calls (w7.alloc (.cells #[.bool (false && !decide (M.dec l = 0)), .slice pa pl pc, .slice ra rl rc] 77)) (.agg #[.bool (false && !decide (M.dec l = 0)), .slice pa pl pc, .slice ra rl rc]) (false && !decide (M.dec l = 0)) (M.dec l / Nat.gcd (M.dec l) (M.dec lo)) (M.dec lo / Nat.gcd (M.dec l) (M.dec lo)) (l.length + 1) ⟨pa, pl, pc, ra, rl, rc, rfl, m1.below (alloc_below w7 _), m2.below (alloc_below w7 _)⟩ hdg.out (kq.out _ _ kU.out) (kq.out _ _ kL.out) (by omega)); rw [hTs.out] at q8; replace m1 := hide m1; replace m2 := hide m2; replace b7 := hide b7)
            | (go_at_call 30; refine q8.out.mono ?_; rintro e w8 ⟨rfl, b8⟩
               have BC : Hid (Below W0.heap.size W0 w8) := (BB.out.then_below (alloc_below w7 _)).then_below b8
               have A1 := hide (kept_block A0.out BC.out)
               obtain ⟨z0, z1, z2, f0, f1, f2⟩ := box3 A1.out
               obtain ⟨r0, r1, r2, -, -, -⟩ := box3 (kept_block (heap_alloc_new w7 (.cells #[.bool (false && !decide (M.dec l = 0)), .slice pa pl pc, .slice ra rl rc] 77)) b8)
               replace b8 := hide b8))
          refine bodyPost_ret (v := .tuple #[.agg #[.bool false, .slice none 0 0, .slice none 0 0], .bool false]) (by simp [results, Tryz.results50, go_sem, z0, z1, z2]) rfl ?_
          exact ⟨⟨fun h => absurd h hR.out, fun _ => rfl⟩, (B0.out.then_below BC.out).then_grown (set3 _ _ _ _ _) (by rintro g ⟨⟩; exact Nat.le_refl _)⟩
      ·
        have hR : Hid (¬ CanT l) := fun h => hGu (by have := h.1; rwa [hcu.out] at this)
        rw [decide_eq_false hGu] at qU
        obtain ⟨z0, z1, z2, f0, f1, f2⟩ := box3 A0.out
        clear hGu
        go_wp2_with (go_at_call 66; (with_reducible refine qU.out.mono ?_); rintro e wx ⟨rfl, hwx⟩; rw [hwx])
        refine bodyPost_ret (v := .tuple #[.agg #[.bool false, .slice none 0 0, .slice none 0 0], .bool false]) (by simp [results, Tryz.results50, go_sem, z0, z1, z2]) rfl ?_
        exact ⟨⟨fun h => absurd h hR.out, fun _ => rfl⟩, B0.out.then_grown (set3 _ _ _ _ _) (by rintro g ⟨⟩; exact Nat.le_refl _)⟩
end Go.Proofs.YtlepicdpelkmlaaGreatDoor
/- ==== RefCan2 ==== -/
namespace Go.Proofs.YtlepicdpelkmlaaGreatDoor
open Go.RowKit
set_option linter.unusedVariables false
set_option maxRecDepth 100000 in
set_option maxHeartbeats 6400000 in
theorem of_minus (w : World) (s : ByteArray) (l t : List UInt8) (hs : s.data.toList = l) (hl : l.length ≤ 1073741824) (hm : l = 45 :: t) :
    Calls Tryz.prog 50 #[.string s] w fun e w' => ((CanT l → ∃ v, e = .returned (.tuple #[v, .bool true]) ∧ RR w' v (cneg l) (M.dec (cup l)) (M.dec (clow l))) ∧ (¬ CanT l → e = .returned (.tuple #[.agg #[.bool false, .slice none 0 0, .slice none 0 0], .bool false]))) ∧ Below w.heap.size w w' := by
  have hll : l.length = t.length + 1 := by rw [hm]; rfl
  have hsz := size_of s l hs
  have hSs := hide hs
  have hb0 := byteAt s l hs 0 (by omega)
  have hb1 : l.getD 0 0 = 45 := by rw [hm]; rfl
  rw [hb1] at hb0
  rw [hll] at hsz
  obtain ⟨R, eR⟩ : ∃ R, s.extract 1 (t.length + 1) = R := ⟨_, rfl⟩
  have HT : Hid (R.data.toList = t) := by
    show _ = _
    rw [← eR, ← hsz, extract_drop hs 1, hm]
    rfl
  have hRz := size_of R t HT.out
  have hTl : Hid (Lib.trimPrefix l [45] = t) := by rw [hm]; exact hide (minus_yes t)
  have hcn : Hid (cneg l = true) := by show _ = _; unfold cneg; rw [hTl.out]; exact decide_eq_true (by omega)
  clear hm hs hb1
  replace hll := hide hll
  have hl2 : t.length ≤ l.length := by have := hll.out; omega
  have hdt : decide ((t.length : Int) < (t.length : Int) + 1) = true := decide_eq_true (by omega)
  obtain ⟨W0, hW0⟩ : ∃ W0, w.alloc (.cells #[.bool false, .slice none 0 0, .slice none 0 0] 77) = W0 := ⟨_, rfl⟩
  have B0 : Hid (Below w.heap.size w W0) := by rw [← hW0]; exact (Below.refl _ w).alloc (Nat.le_refl _) _
  have A0 : Hid (W0.heap[w.heap.size]? = some (.cells #[.bool false, .slice none 0 0, .slice none 0 0] 77 (0, 0))) := by rw [← hW0]; exact heap_alloc_new w _
  go_enter Tryz.func50, Tryz.ntmps50
  go_wp2
  go_loopw [5, 6, 7] (fun a b j wr => ∃ q : Nat, q ≤ t.length ∧ a = .string R ∧ b = .string ⟨#[49]⟩ ∧ j = .int .i64 q ∧ Hid (∀ k, k < q → t.getD k 0 ≠ 47) ∧ wr = W0) (fun _ _ j _ => t.length - (intOf j).toNat)
  case atStart => exact ⟨0, Nat.zero_le _, rfl, rfl, rfl, fun k hk => absurd hk (Nat.not_lt_zero k), rfl⟩
  case round =>
    obtain ⟨q, hq, rfl, rfl, rfl, hno, hw⟩ := hrel
    replace hw := hw.symm
    subst hw
    by_cases hlt : q < t.length
    · have hqs : q < R.size := by omega
      have hb := byteAt R t HT.out q hqs
      have hcut := hide (fun h => cut_at t q hno.out hlt h)
      have hstep : Hid (t.getD q 0 ≠ 47 → ∀ k, k < q + 1 → t.getD k 0 ≠ 47) := fun h k hk => by
        rcases Nat.lt_or_ge k q with h2 | h2
        · exact hno.out k h2
        · obtain rfl : k = q := by omega
          exact h
      generalize t.getD q 0 = b at *
      by_cases h47 : b.toNat = 47
      · have hb47 : b = 47 := UInt8.toNat_inj.1 (by simpa using h47)
        have hc2 := hide (hcut.out hb47)
        clear hb47 hcut hstep hno
        obtain ⟨U, eU⟩ : ∃ U, R.extract 0 q = U := ⟨_, rfl⟩
        obtain ⟨L, eL⟩ : ∃ L, R.extract (q + 1) t.length = L := ⟨_, rfl⟩
        have hU : Hid (U.data.toList = t.take q) := by rw [← eU]; exact extract_take HT.out q
        have hLo : Hid (L.data.toList = t.drop (q + 1)) := by rw [← eL]; exact extract_drop' HT.out hRz (q + 1)
        have hcu : Hid (cup l = t.take q) := by show _ = _; unfold cup; rw [hTl.out, hc2.out]
        have hcl : Hid (clow l = t.drop (q + 1)) := by show _ = _; unfold clow; rw [hTl.out, hc2.out]; rfl
        have hu1 : (t.take q).length ≤ t.length := by rw [List.length_take]; omega
        have hu2 : (t.drop (q + 1)).length ≤ t.length := by rw [List.length_drop]; omega
        have hUz := size_of U _ hU.out
        have hLz := size_of L _ hLo.out
        generalize t.take q = u at *
        generalize t.drop (q + 1) = lo at *
        have qU := hide (rdigits_calls W0 U u hU.out (by omega))
        have qL := hide (rdigits_calls W0 L lo hLo.out (by omega))
        by_cases hGu : Lit u
        · by_cases hGl : Lit lo
          · by_cases h48 : lo = [48]
            ·
              have hR : Hid (¬ CanT l) := fun h => (can_low h).2 (by rw [hcl.out]; exact h48)
              have hL48 : L = ⟨#[48]⟩ := by have := hLo.out; rw [h48] at this; exact str_is this
              rw [decide_eq_true hGu] at qU
              rw [decide_eq_true hGl, hL48] at qL
              rw [hL48] at eL
              obtain ⟨z0, z1, z2, f0, f1, f2⟩ := box3 A0.out
              clear hGu hGl h48 hLz hL48
              go_wp2_with (first
                  | (go_at_call 66; (with_reducible refine qU.out.mono ?_); rintro e wx ⟨rfl, hwx⟩; rw [hwx])
                  | (go_at_call 66; (with_reducible refine qL.out.mono ?_); rintro e wx ⟨rfl, hwx⟩; rw [hwx]))
              refine bodyPost_ret (v := .tuple #[.agg #[.bool false, .slice none 0 0, .slice none 0 0], .bool false]) (by simp [results, Tryz.results50, go_sem, z0, z1, z2]) rfl ?_
              exact ⟨⟨fun h => absurd h hR.out, fun _ => rfl⟩, B0.out.then_grown (set3 _ _ _ _ _) (by rintro g ⟨⟩; exact Nat.le_refl _)⟩
            ·
              rw [decide_eq_true hGu] at qU
              rw [decide_eq_true hGl] at qL
              obtain ⟨i1, i2, i3, i4⟩ := str_ne hLo.out h48
              have hz0 : 0 < M.dec lo := Nat.pos_of_ne_zero (fun e => h48 ((dec_zero hGl).1 e))
              have qN := hide (rnatOf_calls W0 U u hU.out hGu.1.2 (by omega))
              have gL := hide hGl.1.2
              have kU := hide (dec_NB (K := l.length + 1) hGu.1.2 (by omega))
              have kL := hide (dec_NB (K := l.length + 1) hGl.1.2 (by omega))
              have kq : Hid (∀ a b : Nat, (a : Int) < M.NB ^ (l.length + 1) → ((a / b : Nat) : Int) < M.NB ^ (l.length + 1)) := fun a b h => Int.lt_of_le_of_lt (by have := Nat.div_le_self a b; omega) h
              have hdg : Hid (0 < M.dec lo / Nat.gcd (M.dec u) (M.dec lo)) := Nat.div_pos (Nat.gcd_le_right _ hz0) (Nat.gcd_pos_of_pos_right _ hz0)
              have hct : Hid (rText (true && !decide (M.dec u = 0)) (M.dec u / Nat.gcd (M.dec u) (M.dec lo)) (M.dec lo / Nat.gcd (M.dec u) (M.dec lo)) = l ↔ CanT l) := by
                have := can_text l (by rw [hcu.out]; exact hGu) (by rw [hcl.out]; exact hGl) (by rw [hcl.out]; exact h48)
                rw [hcu.out, hcl.out, hcn.out] at this
                exact this
              have hcv : Hid (CanT l → (true && !decide (M.dec u = 0)) = true ∧ M.dec u / Nat.gcd (M.dec u) (M.dec lo) = M.dec u ∧ M.dec lo / Nat.gcd (M.dec u) (M.dec lo) = M.dec lo) := fun h => by
                have := can_vals h
                rwa [hcu.out, hcl.out, hcn.out] at this
              clear hGu hGl h48
              by_cases hcan : CanT l
              · have hTs : Hid ((⟨(rText true (M.dec u) (M.dec lo)).toArray⟩ : ByteArray) = s) := by
                  show _ = _
                  have h1 := hct.out.2 hcan
                  rw [(hcv.out hcan).1, (hcv.out hcan).2.1, (hcv.out hcan).2.2] at h1
                  rw [h1]
                  exact (str_is hSs.out).symm
                have HC := hide hcan
                clear hcan hct
                go_wp2_with (first
                  | (go_at_call 66; (with_reducible refine qU.out.mono ?_); rintro e wx ⟨rfl, hwx⟩; rw [hwx])
                  | (go_at_call 66; (with_reducible refine qL.out.mono ?_); rintro e wx ⟨rfl, hwx⟩; rw [hwx])
                  | (go_at_call 67; (with_reducible refine qN.out.mono ?_); rintro e w5 ⟨⟨v5, rfl, n5⟩, b5⟩; have qO := hide (rnatOf_calls w5 L lo hLo.out gL.out (by omega)); replace n5 := hide n5; replace b5 := hide b5)
                  | (go_at_call 67; (with_reducible refine qO.out.mono ?_); rintro e w6 ⟨⟨v6, rfl, n6⟩, b6⟩; have q7 := hide (fun neg => ratio_calls w6 neg _ _ (M.dec u) (M.dec lo) (l.length + 1) (n5.out.below b6) n6 hz0 kU.out kL.out (by omega) (by omega)); replace n6 := hide n6; replace b6 := hide b6)
                  | (go_at_call 52; (with_reducible refine (q7.out true).mono ?_); rintro e w7 ⟨⟨v7, rfl, n7⟩, b7⟩; rw [(hcv.out HC.out).1, (hcv.out HC.out).2.1, (hcv.out HC.out).2.2] at n7; obtain ⟨pa, pl, pc, ra, rl, rc, rfl, m1, m2⟩ := n7; have BB : Hid (Below W0.heap.size W0 w7) := (b5.out.then_below b6.out).then_below b7; have q8 := hide (rtext_calls (w7.alloc (.cells #[.bool true, .slice pa pl pc, .slice ra rl rc] 77)) (.agg #[.bool true, .slice pa pl pc, .slice ra rl rc]) true (M.dec u) (M.dec lo) (l.length + 1) ⟨pa, pl, pc, ra, rl, rc, rfl, m1.below (alloc_below w7 _), m2.below (alloc_below w7 _)⟩ hz0 kU.out kL.out (by omega)); rw [hTs.out] at q8; replace m1 := hide m1; replace m2 := hide m2; replace b7 := hide b7)
                  | (go_at_call 30; refine q8.out.mono ?_; rintro e w8 ⟨rfl, b8⟩
                     have BC : Hid (Below W0.heap.size W0 w8) := (BB.out.then_below (alloc_below w7 _)).then_below b8
                     have A1 := hide (kept_block A0.out BC.out)
                     obtain ⟨z0, z1, z2, f0, f1, f2⟩ := box3 A1.out
                     obtain ⟨r0, r1, r2, -, -, -⟩ := box3 (kept_block (heap_alloc_new w7 (.cells #[.bool true, .slice pa pl pc, .slice ra rl rc] 77)) b8)
                     replace b8 := hide b8))
                refine bodyPost_ret (v := .tuple #[.agg #[.bool true, .slice pa pl pc, .slice ra rl rc], .bool true]) (by simp [results, Tryz.results50, go_sem, z0, z1, z2]) rfl ?_
                have q := set3 w8 w.heap.size (.bool true) (.slice pa pl pc) (.slice ra rl rc)
                refine ⟨⟨fun _ => ⟨_, rfl, ?_⟩, fun h => absurd HC.out h⟩, (B0.out.then_below BC.out).then_grown q (by rintro g ⟨⟩; exact Nat.le_refl _)⟩
                rw [hcn.out, hcu.out, hcl.out]
                exact ⟨pa, pl, pc, ra, rl, rc, rfl, ((m1.out.below (alloc_below w7 _)).below b8.out).past A1.out q, ((m2.out.below (alloc_below w7 _)).below b8.out).past A1.out q⟩
              · obtain ⟨T, hTs⟩ : ∃ T : ByteArray, (⟨(rText (true && !decide (M.dec u = 0)) (M.dec u / Nat.gcd (M.dec u) (M.dec lo)) (M.dec lo / Nat.gcd (M.dec u) (M.dec lo))).toArray⟩ : ByteArray) = T := ⟨_, rfl⟩
                have hne : T ≠ s := fun e => hcan (hct.out.1 (by
                  have h1 := hSs.out
                  rw [← e, ← hTs] at h1
                  simpa using h1))
                obtain ⟨o2, o3, o4, o5, o6⟩ := str_ne2 hne
                have hR := hide hcan
                replace hTs := hide hTs
                clear hcan hct hcv hne
                go_wp2_with (first
                  | (go_at_call 66; (with_reducible refine qU.out.mono ?_); rintro e wx ⟨rfl, hwx⟩; rw [hwx])
                  | (go_at_call 66; (with_reducible refine qL.out.mono ?_); rintro e wx ⟨rfl, hwx⟩; rw [hwx])
                  | (go_at_call 67; (with_reducible refine qN.out.mono ?_); rintro e w5 ⟨⟨v5, rfl, n5⟩, b5⟩; have qO := hide (rnatOf_calls w5 L lo hLo.out gL.out (by omega)); replace n5 := hide n5; replace b5 := hide b5)
                  | (go_at_call 67; (with_reducible refine qO.out.mono ?_); rintro e w6 ⟨⟨v6, rfl, n6⟩, b6⟩; have q7 := hide (fun neg => ratio_calls w6 neg _ _ (M.dec u) (M.dec lo) (l.length + 1) (n5.out.below b6) n6 hz0 kU.out kL.out (by omega) (by omega)); replace n6 := hide n6; replace b6 := hide b6)
                  | (go_at_call 52; (with_reducible refine (q7.out true).mono ?_); rintro e w7 ⟨⟨v7, rfl, n7⟩, b7⟩; obtain ⟨pa, pl, pc, ra, rl, rc, rfl, m1, m2⟩ := n7; have BB : Hid (Below W0.heap.size W0 w7) := (b5.out.then_below b6.out).then_below b7; have q8 := hide (rtext_calls (w7.alloc (.cells #[.bool (true && !decide (M.dec u = 0)), .slice pa pl pc, .slice ra rl rc] 77)) (.agg #[.bool (true && !decide (M.dec u = 0)), .slice pa pl pc, .slice ra rl rc]) (true && !decide (M.dec u = 0)) (M.dec u / Nat.gcd (M.dec u) (M.dec lo)) (M.dec lo / Nat.gcd (M.dec u) (M.dec lo)) (l.length + 1) ⟨pa, pl, pc, ra, rl, rc, rfl, m1.below (alloc_below w7 _), m2.below (alloc_below w7 _)⟩ hdg.out (kq.out _ _ kU.out) (kq.out _ _ kL.out) (by omega)); rw [hTs.out] at q8; replace m1 := hide m1; replace m2 := hide m2; replace b7 := hide b7)
                  | (go_at_call 30; refine q8.out.mono ?_; rintro e w8 ⟨rfl, b8⟩
                     have BC : Hid (Below W0.heap.size W0 w8) := (BB.out.then_below (alloc_below w7 _)).then_below b8
                     have A1 := hide (kept_block A0.out BC.out)
                     obtain ⟨z0, z1, z2, f0, f1, f2⟩ := box3 A1.out
                     obtain ⟨r0, r1, r2, -, -, -⟩ := box3 (kept_block (heap_alloc_new w7 (.cells #[.bool (true && !decide (M.dec u = 0)), .slice pa pl pc, .slice ra rl rc] 77)) b8)
                     replace b8 := hide b8))
                refine bodyPost_ret (v := .tuple #[.agg #[.bool false, .slice none 0 0, .slice none 0 0], .bool false]) (by simp [results, Tryz.results50, go_sem, z0, z1, z2]) rfl ?_
                exact ⟨⟨fun h => absurd h hR.out, fun _ => rfl⟩, (B0.out.then_below BC.out).then_grown (set3 _ _ _ _ _) (by rintro g ⟨⟩; exact Nat.le_refl _)⟩
          ·
            have hR : Hid (¬ CanT l) := fun h => hGl (by have := (can_low h).1; rwa [hcl.out] at this)
            rw [decide_eq_true hGu] at qU
            rw [decide_eq_false hGl] at qL
            obtain ⟨z0, z1, z2, f0, f1, f2⟩ := box3 A0.out
            clear hGu hGl
            go_wp2_with (first
                | (go_at_call 66; (with_reducible refine qU.out.mono ?_); rintro e wx ⟨rfl, hwx⟩; rw [hwx])
                | (go_at_call 66; (with_reducible refine qL.out.mono ?_); rintro e wx ⟨rfl, hwx⟩; rw [hwx]))
            refine bodyPost_ret (v := .tuple #[.agg #[.bool false, .slice none 0 0, .slice none 0 0], .bool false]) (by simp [results, Tryz.results50, go_sem, z0, z1, z2]) rfl ?_
            exact ⟨⟨fun h => absurd h hR.out, fun _ => rfl⟩, B0.out.then_grown (set3 _ _ _ _ _) (by rintro g ⟨⟩; exact Nat.le_refl _)⟩
        ·
          have hR : Hid (¬ CanT l) := fun h => hGu (by have := h.1; rwa [hcu.out] at this)
          rw [decide_eq_false hGu] at qU
          obtain ⟨z0, z1, z2, f0, f1, f2⟩ := box3 A0.out
          clear hGu
          go_wp2_with (go_at_call 66; (with_reducible refine qU.out.mono ?_); rintro e wx ⟨rfl, hwx⟩; rw [hwx])
          refine bodyPost_ret (v := .tuple #[.agg #[.bool false, .slice none 0 0, .slice none 0 0], .bool false]) (by simp [results, Tryz.results50, go_sem, z0, z1, z2]) rfl ?_
          exact ⟨⟨fun h => absurd h hR.out, fun _ => rfl⟩, B0.out.then_grown (set3 _ _ _ _ _) (by rintro g ⟨⟩; exact Nat.le_refl _)⟩
      · have hb47 : b ≠ 47 := fun e => h47 (by rw [e]; rfl)
        have hn2 := hide (hstep.out hb47)
        clear hb47 hcut hstep
        go_wp2
        go_roundw
        case rel => exact ⟨q + 1, by omega, rfl, rfl, by simp, hn2, trivial⟩
        case measure => simp [intOf]; omega
    · obtain rfl : q = t.length := by omega
      have hc2 := hide (cut_none t hno.out)
      obtain ⟨L, eL⟩ : ∃ L : ByteArray, (⟨#[49]⟩ : ByteArray) = L := ⟨_, rfl⟩
      have hU : Hid (R.data.toList = t) := HT.out
      have hLo : Hid (L.data.toList = [49]) := by rw [← eL]; exact hide rfl
      have hcu : Hid (cup l = t) := by show _ = _; unfold cup; rw [hTl.out, hc2.out]
      have hcl : Hid (clow l = [49]) := by show _ = _; unfold clow; rw [hTl.out, hc2.out]; rfl
      have hGl : Lit [49] := by decide
      have h48 : ([49] : List UInt8) ≠ [48] := by decide
      obtain ⟨lo, hlo⟩ : ∃ lo : List UInt8, ([49] : List UInt8) = lo := ⟨_, rfl⟩
      have hloz : lo.length = 1 := by rw [← hlo]; rfl
      rw [hlo] at hLo hcl hGl h48
      have hLz := size_of L lo hLo.out
      clear hlo hno
      have qU := hide (rdigits_calls W0 R t hU.out (by omega))
      have qL := hide (rdigits_calls W0 L lo hLo.out (by omega))
      by_cases hGu : Lit t
      ·
        rw [decide_eq_true hGu] at qU
        rw [decide_eq_true hGl] at qL
        obtain ⟨i1, i2, i3, i4⟩ := str_ne hLo.out h48
        have hz0 : 0 < M.dec lo := Nat.pos_of_ne_zero (fun e => h48 ((dec_zero hGl).1 e))
        have qN := hide (rnatOf_calls W0 R t hU.out hGu.1.2 (by omega))
        have gL := hide hGl.1.2
        have kU := hide (dec_NB (K := l.length + 1) hGu.1.2 (by omega))
        have kL := hide (dec_NB (K := l.length + 1) hGl.1.2 (by omega))
        have kq : Hid (∀ a b : Nat, (a : Int) < M.NB ^ (l.length + 1) → ((a / b : Nat) : Int) < M.NB ^ (l.length + 1)) := fun a b h => Int.lt_of_le_of_lt (by have := Nat.div_le_self a b; omega) h
        have hdg : Hid (0 < M.dec lo / Nat.gcd (M.dec t) (M.dec lo)) := Nat.div_pos (Nat.gcd_le_right _ hz0) (Nat.gcd_pos_of_pos_right _ hz0)
        have hct : Hid (rText (true && !decide (M.dec t = 0)) (M.dec t / Nat.gcd (M.dec t) (M.dec lo)) (M.dec lo / Nat.gcd (M.dec t) (M.dec lo)) = l ↔ CanT l) := by
          have := can_text l (by rw [hcu.out]; exact hGu) (by rw [hcl.out]; exact hGl) (by rw [hcl.out]; exact h48)
          rw [hcu.out, hcl.out, hcn.out] at this
          exact this
        have hcv : Hid (CanT l → (true && !decide (M.dec t = 0)) = true ∧ M.dec t / Nat.gcd (M.dec t) (M.dec lo) = M.dec t ∧ M.dec lo / Nat.gcd (M.dec t) (M.dec lo) = M.dec lo) := fun h => by
          have := can_vals h
          rwa [hcu.out, hcl.out, hcn.out] at this
        clear hGu hGl h48
        by_cases hcan : CanT l
        · have hTs : Hid ((⟨(rText true (M.dec t) (M.dec lo)).toArray⟩ : ByteArray) = s) := by
            show _ = _
            have h1 := hct.out.2 hcan
            rw [(hcv.out hcan).1, (hcv.out hcan).2.1, (hcv.out hcan).2.2] at h1
            rw [h1]
            exact (str_is hSs.out).symm
          have HC := hide hcan
          clear hcan hct
          go_wp2_with (first
            | (go_at_call 66; (with_reducible refine qU.out.mono ?_); rintro e wx ⟨rfl, hwx⟩; rw [hwx])
            | (go_at_call 66; (with_reducible refine qL.out.mono ?_); rintro e wx ⟨rfl, hwx⟩; rw [hwx])
            | (go_at_call 67; (with_reducible refine qN.out.mono ?_); rintro e w5 ⟨⟨v5, rfl, n5⟩, b5⟩; have qO := hide (rnatOf_calls w5 L lo hLo.out gL.out (by omega)); replace n5 := hide n5; replace b5 := hide b5)
            | (go_at_call 67; (with_reducible refine qO.out.mono ?_); rintro e w6 ⟨⟨v6, rfl, n6⟩, b6⟩; have q7 := hide (fun neg => ratio_calls w6 neg _ _ (M.dec t) (M.dec lo) (l.length + 1) (n5.out.below b6) n6 hz0 kU.out kL.out (by omega) (by omega)); replace n6 := hide n6; replace b6 := hide b6)
            | (go_at_call 52; (with_reducible refine (q7.out true).mono ?_); rintro e w7 ⟨⟨v7, rfl, n7⟩, b7⟩; rw [(hcv.out HC.out).1, (hcv.out HC.out).2.1, (hcv.out HC.out).2.2] at n7; obtain ⟨pa, pl, pc, ra, rl, rc, rfl, m1, m2⟩ := n7; have BB : Hid (Below W0.heap.size W0 w7) := (b5.out.then_below b6.out).then_below b7; have q8 := hide (rtext_calls (w7.alloc (.cells #[.bool true, .slice pa pl pc, .slice ra rl rc] 77)) (.agg #[.bool true, .slice pa pl pc, .slice ra rl rc]) true (M.dec t) (M.dec lo) (l.length + 1) ⟨pa, pl, pc, ra, rl, rc, rfl, m1.below (alloc_below w7 _), m2.below (alloc_below w7 _)⟩ hz0 kU.out kL.out (by omega)); rw [hTs.out] at q8; replace m1 := hide m1; replace m2 := hide m2; replace b7 := hide b7)
            | (go_at_call 30; refine q8.out.mono ?_; rintro e w8 ⟨rfl, b8⟩
               have BC : Hid (Below W0.heap.size W0 w8) := (BB.out.then_below (alloc_below w7 _)).then_below b8
               have A1 := hide (kept_block A0.out BC.out)
               obtain ⟨z0, z1, z2, f0, f1, f2⟩ := box3 A1.out
               obtain ⟨r0, r1, r2, -, -, -⟩ := box3 (kept_block (heap_alloc_new w7 (.cells #[.bool true, .slice pa pl pc, .slice ra rl rc] 77)) b8)
               replace b8 := hide b8))
          refine bodyPost_ret (v := .tuple #[.agg #[.bool true, .slice pa pl pc, .slice ra rl rc], .bool true]) (by simp [results, Tryz.results50, go_sem, z0, z1, z2]) rfl ?_
          have q := set3 w8 w.heap.size (.bool true) (.slice pa pl pc) (.slice ra rl rc)
          refine ⟨⟨fun _ => ⟨_, rfl, ?_⟩, fun h => absurd HC.out h⟩, (B0.out.then_below BC.out).then_grown q (by rintro g ⟨⟩; exact Nat.le_refl _)⟩
          rw [hcn.out, hcu.out, hcl.out]
          exact ⟨pa, pl, pc, ra, rl, rc, rfl, ((m1.out.below (alloc_below w7 _)).below b8.out).past A1.out q, ((m2.out.below (alloc_below w7 _)).below b8.out).past A1.out q⟩
        · obtain ⟨T, hTs⟩ : ∃ T : ByteArray, (⟨(rText (true && !decide (M.dec t = 0)) (M.dec t / Nat.gcd (M.dec t) (M.dec lo)) (M.dec lo / Nat.gcd (M.dec t) (M.dec lo))).toArray⟩ : ByteArray) = T := ⟨_, rfl⟩
          have hne : T ≠ s := fun e => hcan (hct.out.1 (by
            have h1 := hSs.out
            rw [← e, ← hTs] at h1
            simpa using h1))
          obtain ⟨o2, o3, o4, o5, o6⟩ := str_ne2 hne
          have hR := hide hcan
          replace hTs := hide hTs
          clear hcan hct hcv hne
          go_wp2_with (first
            | (go_at_call 66; (with_reducible refine qU.out.mono ?_); rintro e wx ⟨rfl, hwx⟩; rw [hwx])
            | (go_at_call 66; (with_reducible refine qL.out.mono ?_); rintro e wx ⟨rfl, hwx⟩; rw [hwx])
            | (go_at_call 67; (with_reducible refine qN.out.mono ?_); rintro e w5 ⟨⟨v5, rfl, n5⟩, b5⟩; have qO := hide (rnatOf_calls w5 L lo hLo.out gL.out (by omega)); replace n5 := hide n5; replace b5 := hide b5)
            | (go_at_call 67; (with_reducible refine qO.out.mono ?_); rintro e w6 ⟨⟨v6, rfl, n6⟩, b6⟩; have q7 := hide (fun neg => ratio_calls w6 neg _ _ (M.dec t) (M.dec lo) (l.length + 1) (n5.out.below b6) n6 hz0 kU.out kL.out (by omega) (by omega)); replace n6 := hide n6; replace b6 := hide b6)
            | (go_at_call 52; (with_reducible refine (q7.out true).mono ?_); rintro e w7 ⟨⟨v7, rfl, n7⟩, b7⟩; obtain ⟨pa, pl, pc, ra, rl, rc, rfl, m1, m2⟩ := n7; have BB : Hid (Below W0.heap.size W0 w7) := (b5.out.then_below b6.out).then_below b7; have q8 := hide (rtext_calls (w7.alloc (.cells #[.bool (true && !decide (M.dec t = 0)), .slice pa pl pc, .slice ra rl rc] 77)) (.agg #[.bool (true && !decide (M.dec t = 0)), .slice pa pl pc, .slice ra rl rc]) (true && !decide (M.dec t = 0)) (M.dec t / Nat.gcd (M.dec t) (M.dec lo)) (M.dec lo / Nat.gcd (M.dec t) (M.dec lo)) (l.length + 1) ⟨pa, pl, pc, ra, rl, rc, rfl, m1.below (alloc_below w7 _), m2.below (alloc_below w7 _)⟩ hdg.out (kq.out _ _ kU.out) (kq.out _ _ kL.out) (by omega)); rw [hTs.out] at q8; replace m1 := hide m1; replace m2 := hide m2; replace b7 := hide b7)
            | (go_at_call 30; refine q8.out.mono ?_; rintro e w8 ⟨rfl, b8⟩
               have BC : Hid (Below W0.heap.size W0 w8) := (BB.out.then_below (alloc_below w7 _)).then_below b8
               have A1 := hide (kept_block A0.out BC.out)
               obtain ⟨z0, z1, z2, f0, f1, f2⟩ := box3 A1.out
               obtain ⟨r0, r1, r2, -, -, -⟩ := box3 (kept_block (heap_alloc_new w7 (.cells #[.bool (true && !decide (M.dec t = 0)), .slice pa pl pc, .slice ra rl rc] 77)) b8)
               replace b8 := hide b8))
          refine bodyPost_ret (v := .tuple #[.agg #[.bool false, .slice none 0 0, .slice none 0 0], .bool false]) (by simp [results, Tryz.results50, go_sem, z0, z1, z2]) rfl ?_
          exact ⟨⟨fun h => absurd h hR.out, fun _ => rfl⟩, (B0.out.then_below BC.out).then_grown (set3 _ _ _ _ _) (by rintro g ⟨⟩; exact Nat.le_refl _)⟩
      ·
        have hR : Hid (¬ CanT l) := fun h => hGu (by have := h.1; rwa [hcu.out] at this)
        rw [decide_eq_false hGu] at qU
        obtain ⟨z0, z1, z2, f0, f1, f2⟩ := box3 A0.out
        clear hGu
        go_wp2_with (go_at_call 66; (with_reducible refine qU.out.mono ?_); rintro e wx ⟨rfl, hwx⟩; rw [hwx])
        refine bodyPost_ret (v := .tuple #[.agg #[.bool false, .slice none 0 0, .slice none 0 0], .bool false]) (by simp [results, Tryz.results50, go_sem, z0, z1, z2]) rfl ?_
        exact ⟨⟨fun h => absurd h hR.out, fun _ => rfl⟩, B0.out.then_grown (set3 _ _ _ _ _) (by rintro g ⟨⟩; exact Nat.le_refl _)⟩
set_option maxRecDepth 100000 in
set_option maxHeartbeats 6400000 in
theorem of_nil (w : World) (s : ByteArray) (l : List UInt8) (hs : s.data.toList = l) (hnil : l = []) :
    Calls Tryz.prog 50 #[.string s] w fun e w' => ((CanT l → ∃ v, e = .returned (.tuple #[v, .bool true]) ∧ RR w' v (cneg l) (M.dec (cup l)) (M.dec (clow l))) ∧ (¬ CanT l → e = .returned (.tuple #[.agg #[.bool false, .slice none 0 0, .slice none 0 0], .bool false]))) ∧ Below w.heap.size w w' := by
  have hR : Hid (¬ CanT l) := fun h => by
    have h1 := h.1.1.1
    rw [hnil] at h1
    exact h1 (by decide)
  obtain ⟨W0, hW0⟩ : ∃ W0, w.alloc (.cells #[.bool false, .slice none 0 0, .slice none 0 0] 77) = W0 := ⟨_, rfl⟩
  have B0 : Hid (Below w.heap.size w W0) := by rw [← hW0]; exact (Below.refl _ w).alloc (Nat.le_refl _) _
  have A0 : Hid (W0.heap[w.heap.size]? = some (.cells #[.bool false, .slice none 0 0, .slice none 0 0] 77 (0, 0))) := by rw [← hW0]; exact heap_alloc_new w _
  have hz := size_of s l hs
  have h00 : l.length = 0 := by rw [hnil]; rfl
  have hsz : s.size = 0 := by omega
  have qU := hide (rdigits_calls W0 s l hs (by omega))
  rw [decide_eq_false (fun h : Lit l => h.1.1 hnil)] at qU
  clear hnil hz
  obtain ⟨z0, z1, z2, f0, f1, f2⟩ := box3 A0.out
  go_enter Tryz.func50, Tryz.ntmps50
  go_wp2
  go_loopw [5, 6, 7] (fun a b j wr => a = .string s ∧ b = .string ⟨#[49]⟩ ∧ j = .int .i64 0 ∧ wr = W0) (fun _ _ _ _ => 0)
  case atStart => exact ⟨rfl, rfl, rfl, rfl⟩
  case round =>
    obtain ⟨rfl, rfl, rfl, hw⟩ := hrel
    replace hw := hw.symm
    subst hw
    go_wp2_with (go_at_call 66; (with_reducible refine qU.out.mono ?_); rintro e wx ⟨rfl, hwx⟩; rw [hwx])
    refine bodyPost_ret (v := .tuple #[.agg #[.bool false, .slice none 0 0, .slice none 0 0], .bool false]) (by simp [results, Tryz.results50, go_sem, z0, z1, z2]) rfl ?_
    exact ⟨⟨fun h => absurd h hR.out, fun _ => rfl⟩, B0.out.then_grown (set3 _ _ _ _ _) (by rintro g ⟨⟩; exact Nat.le_refl _)⟩
theorem rof_calls (w : World) (s : ByteArray) (l : List UInt8) (hs : s.data.toList = l) (hl : l.length ≤ 1073741824) :
    Calls Tryz.prog 50 #[.string s] w fun e w' => ((CanT l → ∃ v, e = .returned (.tuple #[v, .bool true]) ∧ RR w' v (cneg l) (M.dec (cup l)) (M.dec (clow l))) ∧ (¬ CanT l → e = .returned (.tuple #[.agg #[.bool false, .slice none 0 0, .slice none 0 0], .bool false]))) ∧ Below w.heap.size w w' := by
  by_cases h : ∃ t, l = 45 :: t
  · obtain ⟨t, ht⟩ := h
    exact of_minus w s l t hs hl ht
  · by_cases h0 : l = []
    · exact of_nil w s l hs h0
    · exact of_plain w s l hs hl (fun t e => h ⟨t, e⟩) (List.length_pos_iff.2 h0)
end Go.Proofs.YtlepicdpelkmlaaGreatDoor
/- ==== RefTwo ==== -/
namespace Go.Proofs.YtlepicdpelkmlaaGreatDoor
open Go.RowKit
set_option linter.unusedVariables false
/-- Of, in one form for both answers. -/
theorem rof_one (w : World) (s : ByteArray) (l : List UInt8) (hs : s.data.toList = l) (hl : l.length ≤ 1073741824) (k : Bool) (hk : k = true ↔ CanT l) :
    Calls Tryz.prog 50 #[.string s] w fun e w' => (∃ b na nl nc da dl dc, e = .returned (.tuple #[.agg #[.bool b, .slice na nl nc, .slice da dl dc], .bool k]) ∧ (CanT l → RR w' (.agg #[.bool b, .slice na nl nc, .slice da dl dc]) (cneg l) (M.dec (cup l)) (M.dec (clow l)))) ∧ Below w.heap.size w w' := by
  refine (rof_calls w s l hs hl).mono ?_
  rintro e w' ⟨⟨h1, h2⟩, h3⟩
  refine ⟨?_, h3⟩
  by_cases hc : CanT l
  · obtain ⟨v, rfl, hr⟩ := h1 hc
    obtain rfl : k = true := hk.2 hc
    have hr' := hr
    obtain ⟨na, nl, nc, da, dl, dc, rfl, -, -⟩ := hr
    exact ⟨cneg l, na, nl, nc, da, dl, dc, rfl, fun _ => hr'⟩
  · obtain rfl : k = false := by
      cases k with
      | false => rfl
      | true => exact absurd (hk.1 rfl) hc
    exact ⟨false, none, 0, 0, none, 0, 0, h2 hc, fun h => absurd h hc⟩
theorem RR.past {w w' : World} {v : Value} {neg : Bool} {n d g : Nat} {x : Bool} {ya : Option Addr} {yl yc : Nat} {za : Option Addr} {zl zc : Nat} {t : TypeId} (h : RR w v neg n d) (hg : w.heap[g]? = some (.cells #[.bool x, .slice ya yl yc, .slice za zl zc] t (0, 0))) (q : w.grownBy w' (some g)) : RR w' v neg n d := by
  obtain ⟨na, nl, nc, da, dl, dc, rfl, h1, h2⟩ := h
  exact ⟨na, nl, nc, da, dl, dc, rfl, h1.past hg q, h2.past hg q⟩
theorem cells6_kept {w W W2 : World} {a1 a2 a3 a4 a5 a6 : Addr} {v1 v2 v3 v4 v5 v6 : Value} (h : W.cell? a1 = some v1 ∧ W.cell? a2 = some v2 ∧ W.cell? a3 = some v3 ∧ W.cell? a4 = some v4 ∧ W.cell? a5 = some v5 ∧ W.cell? a6 = some v6 ∧ Below w.heap.size w W) (b : Below W.heap.size W W2) :
    W2.cell? a1 = some v1 ∧ W2.cell? a2 = some v2 ∧ W2.cell? a3 = some v3 ∧ W2.cell? a4 = some v4 ∧ W2.cell? a5 = some v5 ∧ W2.cell? a6 = some v6 ∧ Below w.heap.size w W2 := by
  obtain ⟨h1, h2, h3, h4, h5, h6, h7⟩ := h
  exact ⟨by rw [b.cell (World.block_lt_of_cell? W _ h1)]; exact h1, by rw [b.cell (World.block_lt_of_cell? W _ h2)]; exact h2, by rw [b.cell (World.block_lt_of_cell? W _ h3)]; exact h3, by rw [b.cell (World.block_lt_of_cell? W _ h4)]; exact h4, by rw [b.cell (World.block_lt_of_cell? W _ h5)]; exact h5, by rw [b.cell (World.block_lt_of_cell? W _ h6)]; exact h6, h7.then_below b⟩
theorem cells6_set3 {w W : World} {g h H : Nat} {v1 v2 v3 v4 v5 v6 a b c : Value} (hh : W.cell? ⟨g, 0, none⟩ = some v1 ∧ W.cell? ⟨g, 1, none⟩ = some v2 ∧ W.cell? ⟨g, 2, none⟩ = some v3 ∧ W.cell? ⟨h, 0, none⟩ = some v4 ∧ W.cell? ⟨h, 1, none⟩ = some v5 ∧ W.cell? ⟨h, 2, none⟩ = some v6 ∧ Below w.heap.size w W) (hg : g ≠ H) (hk : h ≠ H) (hH : w.heap.size ≤ H) :
    (((W.setCell ⟨H, 0, none⟩ a).setCell ⟨H, 1, none⟩ b).setCell ⟨H, 2, none⟩ c).cell? ⟨g, 0, none⟩ = some v1 ∧ (((W.setCell ⟨H, 0, none⟩ a).setCell ⟨H, 1, none⟩ b).setCell ⟨H, 2, none⟩ c).cell? ⟨g, 1, none⟩ = some v2 ∧ (((W.setCell ⟨H, 0, none⟩ a).setCell ⟨H, 1, none⟩ b).setCell ⟨H, 2, none⟩ c).cell? ⟨g, 2, none⟩ = some v3 ∧
    (((W.setCell ⟨H, 0, none⟩ a).setCell ⟨H, 1, none⟩ b).setCell ⟨H, 2, none⟩ c).cell? ⟨h, 0, none⟩ = some v4 ∧ (((W.setCell ⟨H, 0, none⟩ a).setCell ⟨H, 1, none⟩ b).setCell ⟨H, 2, none⟩ c).cell? ⟨h, 1, none⟩ = some v5 ∧ (((W.setCell ⟨H, 0, none⟩ a).setCell ⟨H, 1, none⟩ b).setCell ⟨H, 2, none⟩ c).cell? ⟨h, 2, none⟩ = some v6 ∧ Below w.heap.size w (((W.setCell ⟨H, 0, none⟩ a).setCell ⟨H, 1, none⟩ b).setCell ⟨H, 2, none⟩ c) := by
  obtain ⟨h1, h2, h3, h4, h5, h6, h7⟩ := hh
  have q := set3 W H a b c
  exact ⟨q.cell h1 (by simpa using hg), q.cell h2 (by simpa using hg), q.cell h3 (by simpa using hg), q.cell h4 (by simpa using hk), q.cell h5 (by simpa using hk), q.cell h6 (by simpa using hk), h7.then_grown q (by rintro g ⟨⟩; exact hH)⟩
end Go.Proofs.YtlepicdpelkmlaaGreatDoor
