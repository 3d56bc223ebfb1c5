/- Laid together of: RefJoin, BackLaw, RefShow, NodeCopied. -/
import Derived.Test.YtackibimlpkcmaaGreatDoorKz33
import Derived.Test.YtackibimlpkcmaaGreatDoorKz23
import Derived.Test.YtackibimlpkcmaaGreatDoorKz28
import Derived.Test.YtackibimlpkcmaaGreatDoorKz10
import Derived.Test.YtackibimlpkcmaaGreatDoorKz29
import Derived.Test.YtackibimlpkcmaaGreatDoorNodeForestKz
import Derived.Test.YtackibimlpkcmaaGreatDoorKz16
/- ==== RefJoin ==== -/
namespace Go.Proofs.YtackibimlpkcmaaGreatDoor
open Go.RowKit
set_option linter.unusedVariables false
theorem own_kept {B : Nat} {w w' : World} {v : Value} {acc : List UInt8} (h : OwnV B w v acc) (q : Below w.heap.size w w') : OwnV B w' v acc := by
  refine ⟨h.1, ?_⟩
  rcases h.2 with h2 | ⟨b, cap, cur, h1, h2, h3, h4⟩
  · exact .inl h2
  · exact .inr ⟨b, cap, cur, h1, h2, (q.block b (Array.getElem?_eq_some_iff.1 h3).1).trans h3, h4⟩
theorem take_one (s : List UInt8) (j : Nat) (h : j < s.length) : s.take (j + 1) = s.take j ++ [s.getD j 0] := by
  rw [List.take_succ_eq_append_getElem h, List.getD_eq_getElem?_getD, List.getElem?_eq_getElem h]
  rfl
set_option maxRecDepth 100000 in
set_option maxHeartbeats 8000000 in
theorem rjoin_calls (w : World) (hr : Rsv w) (v : Value) (ts : List J) (hv : JRow w v ts) (hl : jtot ts ≤ 268435456) :
    Calls Tryz.prog 22 #[v] w fun e w' => e = .returned (.tuple #[qv (S.jn resv none (jk ts)), .int .i64 (qe (S.jn resv none (jk ts)))]) ∧ Below w.heap.size w w' := by
  obtain ⟨iB, hi1, hz0, hz1, hz2⟩ := info_parts infoByte
  obtain ⟨R, hR⟩ : ∃ R, S.jn resv none (jk ts) = R := ⟨_, rfl⟩
  rw [hR]
  obtain ⟨LL, hLL⟩ : ∃ n, ts.length = n := ⟨_, rfl⟩
  obtain ⟨a1, cp1, rfl, n1, n1'⟩ := hv.shape
  have t1 := hide hv
  rw [hLL] at n1 t1 ⊢
  have hLh := hide hLL
  have hrH := hide hr
  have J0 : JN ts 0 [] R := by
    rw [← hR]
    show (S.jn resv none (jk ts)).map ([] ++ ·) = _
    cases S.jn resv none (jk ts) <;> rfl
  replace J0 := hide J0
  clear hv hLL hR hr
  go_enter Tryz.func22, Tryz.ntmps22
  go_wp2
  go_loopw [4, 5] (fun bv j wr => ∃ (k : Nat) (acc : List UInt8), k ≤ LL ∧ j = .int .i64 k ∧ Hid (OwnV w.heap.size wr bv acc) ∧ Hid (Below w.heap.size w wr) ∧ Hid (acc.length ≤ jtot (ts.take k)) ∧ Hid (JN ts k acc R)) (fun _ j _ => LL - (intOf j).toNat)
  case atStart => exact ⟨0, [], Nat.zero_le _, rfl, World.ownsRow_nil _ _ _ _, Below.refl _ _, Nat.zero_le _, J0⟩
  case round =>
    clear J0
    obtain ⟨k, acc, hk, rfl, hO, hB, hal, hJ⟩ := hrel
    have hwz : w.heap.size ≤ wr.heap.size := hB.out.size
    have htl := jtot_le (ts := ts) k
    have hal' := hal.out
    obtain ⟨va, vc, hv⟩ := own_shape (ownsRow_zero hO.out)
    subst hv
    have cv := hO.out.conv
    obtain ⟨L, hL⟩ : ∃ L, acc.length = L := ⟨_, rfl⟩
    rw [hL] at hal' cv hO ⊢
    have hLh2 := hide hL
    clear hL
    by_cases hlt : k < LL
    · have hkl : k < ts.length := by rw [hLh.out]; exact hlt
      have T1 := t1.out.below hB.out
      obtain ⟨g1, f1, rfl, x0, x1, x2, x3⟩ := T1.at_ (j := k) hkl
      have htt := jtot_take hkl
      have htl2 := jtot_le (ts := ts) (k + 1)
      have Jn := hide (fun h => hJ.out.none hkl h)
      have Js := hide (fun s h => hJ.out.some (s := s) hkl h)
      have hxl : (ts.getD k j0).text.length ≤ 536870912 := by omega
      have hsp := spl_len (ts.getD k j0).kind (ts.getD k j0).text
      have qs := rspell_calls wr (hrH.out.below hB.out) (ts.getD k j0).kind (ts.getD k j0).beg (ts.getD k j0).fin ⟨(ts.getD k j0).text.toArray⟩ (ts.getD k j0).text rfl (by omega)
      have hprev : k = 0 ∨ ∃ pk : Int, (k ≠ 0 ∧ prevK ts k = Option.some pk) ∧ wr.cell? ⟨g1, f1 + (k - 1) * 4, none⟩ = Option.some (.int .i64 pk) := by
        by_cases h0 : k = 0
        · exact .inl h0
        · obtain ⟨g2, f2, e, y0, -⟩ := T1.at_ (j := k - 1) (by omega)
          cases e
          refine .inr ⟨_, ⟨h0, ?_⟩, y0⟩
          unfold prevK
          rw [if_neg h0]
      have hg1 : g1 < wr.heap.size := World.block_lt_of_cell? wr _ x0
      generalize hpK : prevK ts k = pK at Js hprev
      generalize ts.getD k j0 = t at x0 x1 x2 x3 Jn Js hxl hsp qs htt
      obtain ⟨kd, ta, tb, tx⟩ := t
      simp only at x0 x1 x2 x3 Jn Js hxl hsp qs htt
      obtain ⟨S1, hS1⟩ : ∃ s : ByteArray, (⟨tx.toArray⟩ : ByteArray) = s := ⟨_, rfl⟩
      rw [hS1] at x3 qs
      obtain ⟨o, ho⟩ : ∃ o, S.spl resv kd tx = o := ⟨_, rfl⟩
      rw [ho] at qs hsp
      have Jn' : o = Option.none → R = Option.none := fun h => Jn.out (ho.trans h)
      have Js' : ∀ s, o = Option.some s → JN ts (k + 1) (acc ++ S.sep pK kd ++ s) R := fun s h => Js.out s (ho.trans h)
      replace Jn' := hide Jn'
      replace Js' := hide Js'
      replace qs := hide qs
      replace hpK := hide hpK
      have i1 : (k : Int) < LL := by omega
      clear T1 hS1 Jn Js ho
      cases o with
      | none =>
        have hRn := hide (Jn'.out rfl)
        have q2 : Hid (Calls Tryz.prog 34 #[.agg #[.int .i64 kd, .int .i64 ta, .int .i64 tb, .string S1]] wr fun e w' => e = .returned (.tuple #[.string ⟨#[]⟩, .int .i64 17]) ∧ Below wr.heap.size wr w') := qs
        clear qs cv hprev
        go_wp2_with (go_at_call 34; refine q2.out.mono ?_; rintro e w2 ⟨rfl, b2⟩; replace b2 := hide b2)
        go_ret2
        exact ⟨by rw [hRn.out]; rfl, hB.out.then_below b2.out⟩
      | some s =>
        obtain ⟨S2, hS2⟩ : ∃ s' : ByteArray, (⟨s.toArray⟩ : ByteArray) = s' := ⟨_, rfl⟩
        have q2 : Calls Tryz.prog 34 #[.agg #[.int .i64 kd, .int .i64 ta, .int .i64 tb, .string S1]] wr fun e w' => e = .returned (.tuple #[.string ⟨s.toArray⟩, .int .i64 0]) ∧ Below wr.heap.size wr w' := qs.out
        rw [hS2] at q2
        replace q2 := hide q2
        have J3 := hide (Js'.out s rfl)
        have hS2l : S2.data.toList = s := by rw [← hS2]
        have s2l : S2.size = s.length := size_of S2 s hS2l
        have hat := hide (fun (j : Nat) (h : j < S2.size) => byteAt S2 s hS2l j h)
        have hsl : s.length ≤ 2 * tx.length + 2 := hsp
        have hO2 := hide (fun w' (q : Below wr.heap.size wr w') => own_kept hO.out q)
        clear qs hS2 hsp Jn' Js' cv hS2l
        rcases hprev with h0 | ⟨pk, hpk, y0⟩
        · have hpk : pK = Option.none := by
            rw [← hpK.out]
            unfold prevK
            exact if_pos h0
          subst hpk
          have i0 : ¬ (0 : Int) < k := by omega
          clear h0
          have hsep : S.sep Option.none kd = [] := rfl
          rw [hsep, List.append_nil] at J3
          clear hsep
          go_wp2_with (go_at_call 34; refine q2.out.mono ?_; rintro e w2 ⟨rfl, b2⟩; have d1 := (b2.cell (p := ⟨g1, f1 + k * 4, none⟩) hg1).trans x0; have O2 := hide (hO2.out w2 b2); have B2 := hide (hB.out.then_below b2); clear b2)
          go_loopw [4, 8] (fun v j wx => ∃ jj : Nat, jj ≤ S2.size ∧ j = .int .i64 jj ∧ Hid (OwnV w.heap.size wx v (acc ++ s.take jj)) ∧ Hid (Below w.heap.size w wx)) (fun _ j _ => S2.size - (intOf j).toNat)
          case atStart => exact ⟨0, Nat.zero_le _, rfl, by simp only [List.take_zero, List.append_nil]; exact O2.out, B2⟩
          case round =>
            obtain ⟨jj, hj1, rfl, hOj, hBj⟩ := hrel
            by_cases hjl : jj < S2.size
            · have hjl1 : (jj : Int) < S2.size := by omega
              have hbj : S2[jj]'hjl = s.getD jj 0 := hat.out jj hjl
              have hsn := take_one s jj (by omega)
              obtain ⟨x, hx2⟩ : ∃ x, s.getD jj 0 = x := ⟨_, rfl⟩
              rw [hx2] at hbj hsn
              obtain ⟨va2, vc2, hv2⟩ := own_shape (ownsRow_zero hOj.out)
              subst hv2
              obtain ⟨L2, hL2⟩ : ∃ L2, (acc ++ s.take jj).length = L2 := ⟨_, rfl⟩
              have hL2b : L2 ≤ L + 1 + s.length := by rw [← hL2]; simp only [List.length_append, hLh2.out, List.length_take]; omega
              have hO5 := hOj.out
              unfold OwnV at hO5
              rw [hL2] at hO5 hOj ⊢
              replace hO5 := hide hO5
              have hwz2 : w.heap.size ≤ wr.heap.size := hBj.out.size
              have hsn' := hide hsn
              have hL2h := hide hL2
              clear hsn hx2 hL2
              go_wp2_with (at_builtin; (refine wpList_append_own _ rfl _ _ 44 rfl w.heap.size 5 iB (.int .u8 0) 1 1 sliceByte hi1 hz0 hz1 hz2 rfl (by decide) _ _ _ rfl (hO5.out.alloc _) ⟨wr.heap.size, 0, none⟩ 1 1 [.int .u8 x.toNat] rfl rfl (cell_one_new _ _ _) (by simp [Value.oneCell']) (by unfold maxLen; omega) (by omega) (by simp; omega) ?_; intro v' w1 o1 g1 _; replace o1 := hide o1; replace g1 := hide g1))
              go_roundw
              case rel => exact ⟨jj + 1, by omega, by go_num, by rw [hsn'.out, ← List.append_assoc]; exact own_snoc (x := x) hL2h.out o1.out, own_below hBj.out hwz2 g1.out hOj.out⟩
              case measure => simp [intOf]; omega
            · have hjn : jj = s.length := by omega
              have hjl1 : ¬ (jj : Int) < S2.size := by omega
              have hfull : s.take jj = s := by rw [hjn, List.take_length]
              rw [hfull] at hOj
              clear hfull
              go_wp2
              go_roundw
              case rel => exact ⟨k + 1, acc ++ s, by omega, by go_num, hOj, hBj, (by show (acc ++ s).length ≤ _; rw [List.length_append, hLh2.out, htt]; omega), J3⟩
              case measure => simp [intOf]; omega
        · have hk0 : k ≠ 0 := hpk.1
          obtain ⟨m, rfl⟩ : ∃ m, k = m + 1 := ⟨k - 1, by omega⟩
          have hpk2 := hpk.2
          subst hpk2
          rw [Nat.add_sub_cancel] at y0
          have ew : IntKind.i64.wrap ((m : Int) + 1 - 1) = m := by rw [IntKind.wrap_i64]; omega
          have i0 : (0 : Int) < (m : Int) + 1 := by omega
          have i5 : (m : Int) < LL := by omega
          by_cases hp1 : pk = 1
          · subst hp1
            have hsep : S.sep (Option.some 1) kd = [] := by unfold S.sep; simp
            rw [hsep, List.append_nil] at J3
            clear hsep
            go_wp2_with (go_at_call 34; refine q2.out.mono ?_; rintro e w2 ⟨rfl, b2⟩; have d1 := (b2.cell (p := ⟨g1, f1 + (m + 1) * 4, none⟩) hg1).trans x0; have y2 := (b2.cell (p := ⟨g1, f1 + m * 4, none⟩) hg1).trans y0; have O2 := hide (hO2.out w2 b2); have B2 := hide (hB.out.then_below b2); clear b2)
            go_loopw [4, 8] (fun v j wx => ∃ jj : Nat, jj ≤ S2.size ∧ j = .int .i64 jj ∧ Hid (OwnV w.heap.size wx v (acc ++ s.take jj)) ∧ Hid (Below w.heap.size w wx)) (fun _ j _ => S2.size - (intOf j).toNat)
            case atStart => exact ⟨0, Nat.zero_le _, rfl, by simp only [List.take_zero, List.append_nil]; exact O2.out, B2⟩
            case round =>
              obtain ⟨jj, hj1, rfl, hOj, hBj⟩ := hrel
              by_cases hjl : jj < S2.size
              · have hjl1 : (jj : Int) < S2.size := by omega
                have hbj : S2[jj]'hjl = s.getD jj 0 := hat.out jj hjl
                have hsn := take_one s jj (by omega)
                obtain ⟨x, hx2⟩ : ∃ x, s.getD jj 0 = x := ⟨_, rfl⟩
                rw [hx2] at hbj hsn
                obtain ⟨va2, vc2, hv2⟩ := own_shape (ownsRow_zero hOj.out)
                subst hv2
                obtain ⟨L2, hL2⟩ : ∃ L2, (acc ++ s.take jj).length = L2 := ⟨_, rfl⟩
                have hL2b : L2 ≤ L + 1 + s.length := by rw [← hL2]; simp only [List.length_append, hLh2.out, List.length_take]; omega
                have hO5 := hOj.out
                unfold OwnV at hO5
                rw [hL2] at hO5 hOj ⊢
                replace hO5 := hide hO5
                have hwz2 : w.heap.size ≤ wr.heap.size := hBj.out.size
                have hsn' := hide hsn
                have hL2h := hide hL2
                clear hsn hx2 hL2
                go_wp2_with (at_builtin; (refine wpList_append_own _ rfl _ _ 44 rfl w.heap.size 5 iB (.int .u8 0) 1 1 sliceByte hi1 hz0 hz1 hz2 rfl (by decide) _ _ _ rfl (hO5.out.alloc _) ⟨wr.heap.size, 0, none⟩ 1 1 [.int .u8 x.toNat] rfl rfl (cell_one_new _ _ _) (by simp [Value.oneCell']) (by unfold maxLen; omega) (by omega) (by simp; omega) ?_; intro v' w1 o1 g1 _; replace o1 := hide o1; replace g1 := hide g1))
                go_roundw
                case rel => exact ⟨jj + 1, by omega, by go_num, by rw [hsn'.out, ← List.append_assoc]; exact own_snoc (x := x) hL2h.out o1.out, own_below hBj.out hwz2 g1.out hOj.out⟩
                case measure => simp [intOf]; omega
              · have hjn : jj = s.length := by omega
                have hjl1 : ¬ (jj : Int) < S2.size := by omega
                have hfull : s.take jj = s := by rw [hjn, List.take_length]
                rw [hfull] at hOj
                clear hfull
                go_wp2
                go_roundw
                case rel => exact ⟨m + 1 + 1, acc ++ s, by omega, by go_num, hOj, hBj, (by show (acc ++ s).length ≤ _; rw [List.length_append, hLh2.out, htt]; omega), J3⟩
                case measure => simp [intOf]; omega
          · by_cases hk2 : kd = 2
            · subst hk2
              have e1 : (pk != 1) = true := by simpa using hp1
              have hsep : S.sep (Option.some pk) 2 = [] := by unfold S.sep; simp
              rw [hsep, List.append_nil] at J3
              clear hsep
              go_wp2_with (go_at_call 34; refine q2.out.mono ?_; rintro e w2 ⟨rfl, b2⟩; have d1 := (b2.cell (p := ⟨g1, f1 + (m + 1) * 4, none⟩) hg1).trans x0; have y2 := (b2.cell (p := ⟨g1, f1 + m * 4, none⟩) hg1).trans y0; have O2 := hide (hO2.out w2 b2); have B2 := hide (hB.out.then_below b2); clear b2)
              go_loopw [4, 8] (fun v j wx => ∃ jj : Nat, jj ≤ S2.size ∧ j = .int .i64 jj ∧ Hid (OwnV w.heap.size wx v (acc ++ s.take jj)) ∧ Hid (Below w.heap.size w wx)) (fun _ j _ => S2.size - (intOf j).toNat)
              case atStart => exact ⟨0, Nat.zero_le _, rfl, by simp only [List.take_zero, List.append_nil]; exact O2.out, B2⟩
              case round =>
                obtain ⟨jj, hj1, rfl, hOj, hBj⟩ := hrel
                by_cases hjl : jj < S2.size
                · have hjl1 : (jj : Int) < S2.size := by omega
                  have hbj : S2[jj]'hjl = s.getD jj 0 := hat.out jj hjl
                  have hsn := take_one s jj (by omega)
                  obtain ⟨x, hx2⟩ : ∃ x, s.getD jj 0 = x := ⟨_, rfl⟩
                  rw [hx2] at hbj hsn
                  obtain ⟨va2, vc2, hv2⟩ := own_shape (ownsRow_zero hOj.out)
                  subst hv2
                  obtain ⟨L2, hL2⟩ : ∃ L2, (acc ++ s.take jj).length = L2 := ⟨_, rfl⟩
                  have hL2b : L2 ≤ L + 1 + s.length := by rw [← hL2]; simp only [List.length_append, hLh2.out, List.length_take]; omega
                  have hO5 := hOj.out
                  unfold OwnV at hO5
                  rw [hL2] at hO5 hOj ⊢
                  replace hO5 := hide hO5
                  have hwz2 : w.heap.size ≤ wr.heap.size := hBj.out.size
                  have hsn' := hide hsn
                  have hL2h := hide hL2
                  clear hsn hx2 hL2
                  go_wp2_with (at_builtin; (refine wpList_append_own _ rfl _ _ 44 rfl w.heap.size 5 iB (.int .u8 0) 1 1 sliceByte hi1 hz0 hz1 hz2 rfl (by decide) _ _ _ rfl (hO5.out.alloc _) ⟨wr.heap.size, 0, none⟩ 1 1 [.int .u8 x.toNat] rfl rfl (cell_one_new _ _ _) (by simp [Value.oneCell']) (by unfold maxLen; omega) (by omega) (by simp; omega) ?_; intro v' w1 o1 g1 _; replace o1 := hide o1; replace g1 := hide g1))
                  go_roundw
                  case rel => exact ⟨jj + 1, by omega, by go_num, by rw [hsn'.out, ← List.append_assoc]; exact own_snoc (x := x) hL2h.out o1.out, own_below hBj.out hwz2 g1.out hOj.out⟩
                  case measure => simp [intOf]; omega
                · have hjn : jj = s.length := by omega
                  have hjl1 : ¬ (jj : Int) < S2.size := by omega
                  have hfull : s.take jj = s := by rw [hjn, List.take_length]
                  rw [hfull] at hOj
                  clear hfull
                  go_wp2
                  go_roundw
                  case rel => exact ⟨m + 1 + 1, acc ++ s, by omega, by go_num, hOj, hBj, (by show (acc ++ s).length ≤ _; rw [List.length_append, hLh2.out, htt]; omega), J3⟩
                  case measure => simp [intOf]; omega
            · have hsep : S.sep (Option.some pk) kd = [32] := by
                unfold S.sep
                exact if_pos ⟨hp1, hk2⟩
              rw [hsep] at J3
              have e1 : (pk != 1) = true := by simpa using hp1
              have e2 : (kd != 2) = true := by simpa using hk2
              clear hsep
              go_wp2_with (first
                | (go_at_call 34; refine q2.out.mono ?_; rintro e w2 ⟨rfl, b2⟩; have d1 := (b2.cell (p := ⟨g1, f1 + (m + 1) * 4, none⟩) hg1).trans x0; have y2 := (b2.cell (p := ⟨g1, f1 + m * 4, none⟩) hg1).trans y0; have O2 := hO2.out w2 b2; have O2' := O2; unfold OwnV at O2'; rw [hLh2.out] at O2'; replace O2 := hide O2; replace O2' := hide O2'; have hwz2 := Nat.le_trans hwz b2.size; have B2 := hide (hB.out.then_below b2); clear b2)
                | (at_builtin; (refine wpList_append_own _ rfl _ _ 44 rfl w.heap.size 5 iB (.int .u8 0) 1 1 sliceByte hi1 hz0 hz1 hz2 rfl (by decide) _ _ _ rfl (O2'.out.alloc _) ⟨w2.heap.size, 0, none⟩ 1 1 [.int .u8 32] rfl rfl (cell_one_new _ _ _) (by simp [Value.oneCell']) (by unfold maxLen; omega) (by omega) (by simp; omega) ?_; intro v' w5 o5 g5 _; have O5 := hide (own_snoc (x := 32) hLh2.out o5); have B5 := hide (own_below B2.out hwz2 g5 O2.out); clear o5 g5)))
              go_loopw [4, 8] (fun v j wx => ∃ jj : Nat, jj ≤ S2.size ∧ j = .int .i64 jj ∧ Hid (OwnV w.heap.size wx v ((acc ++ [32]) ++ s.take jj)) ∧ Hid (Below w.heap.size w wx)) (fun _ j _ => S2.size - (intOf j).toNat)
              case atStart => exact ⟨0, Nat.zero_le _, rfl, by simp only [List.take_zero, List.append_nil]; exact O5.out, B5⟩
              case round =>
                obtain ⟨jj, hj1, rfl, hOj, hBj⟩ := hrel
                by_cases hjl : jj < S2.size
                · have hjl1 : (jj : Int) < S2.size := by omega
                  have hbj : S2[jj]'hjl = s.getD jj 0 := hat.out jj hjl
                  have hsn := take_one s jj (by omega)
                  obtain ⟨x, hx2⟩ : ∃ x, s.getD jj 0 = x := ⟨_, rfl⟩
                  rw [hx2] at hbj hsn
                  obtain ⟨va2, vc2, hv2⟩ := own_shape (ownsRow_zero hOj.out)
                  subst hv2
                  obtain ⟨L2, hL2⟩ : ∃ L2, ((acc ++ [32]) ++ s.take jj).length = L2 := ⟨_, rfl⟩
                  have hL2b : L2 ≤ L + 1 + s.length := by rw [← hL2]; simp only [List.length_append, List.length_singleton, hLh2.out, List.length_take]; omega
                  have hO5 := hOj.out
                  unfold OwnV at hO5
                  rw [hL2] at hO5 hOj ⊢
                  replace hO5 := hide hO5
                  have hwz2 : w.heap.size ≤ wr.heap.size := hBj.out.size
                  have hsn' := hide hsn
                  have hL2h := hide hL2
                  clear hsn hx2 hL2
                  go_wp2_with (at_builtin; (refine wpList_append_own _ rfl _ _ 44 rfl w.heap.size 5 iB (.int .u8 0) 1 1 sliceByte hi1 hz0 hz1 hz2 rfl (by decide) _ _ _ rfl (hO5.out.alloc _) ⟨wr.heap.size, 0, none⟩ 1 1 [.int .u8 x.toNat] rfl rfl (cell_one_new _ _ _) (by simp [Value.oneCell']) (by unfold maxLen; omega) (by omega) (by simp; omega) ?_; intro v' w1 o1 g1 _; replace o1 := hide o1; replace g1 := hide g1))
                  go_roundw
                  case rel => exact ⟨jj + 1, by omega, by go_num, by rw [hsn'.out, ← List.append_assoc]; exact own_snoc (x := x) hL2h.out o1.out, own_below hBj.out hwz2 g1.out hOj.out⟩
                  case measure => simp [intOf]; omega
                · have hjn : jj = s.length := by omega
                  have hjl1 : ¬ (jj : Int) < S2.size := by omega
                  have hfull : s.take jj = s := by rw [hjn, List.take_length]
                  rw [hfull] at hOj
                  clear hfull
                  go_wp2
                  go_roundw
                  case rel => exact ⟨m + 1 + 1, (acc ++ [32]) ++ s, by omega, by go_num, hOj, hBj, (by show ((acc ++ [32]) ++ s).length ≤ _; rw [List.length_append, List.length_append, List.length_singleton, hLh2.out, htt]; omega), J3⟩
                  case measure => simp [intOf]; omega
    · have hk2 : k = ts.length := by rw [hLh.out]; omega
      have hRs : R = Option.some acc := by
        have := hJ.out
        unfold JN at this
        rw [hk2, List.drop_length] at this
        rw [← this]
        show Option.map _ (Option.some []) = _
        simp
      replace hRs := hide hRs
      have i1 : ¬ (k : Int) < LL := by omega
      go_wp2
      go_ret2
      exact ⟨by rw [hRs.out]; rfl, hB.out⟩
end Go.Proofs.YtackibimlpkcmaaGreatDoor
/- ==== BackLaw ==== -/
namespace Go.Proofs.YtackibimlpkcmaaGreatDoor
open Go.RowKit
set_option linter.unusedVariables false
def four : List J := [⟨1, 0, 0, [40]⟩, ⟨3, 0, 0, [108, 101, 116]⟩, ⟨9, 0, 0, [97, 34, 98]⟩, ⟨2, 0, 0, [41]⟩]
theorem wr_let : S.wr [108, 101, 116] = true := by
  rw [S.wr_on (by decide) (by decide)]
  show S.wr [101, 116] = true
  rw [S.wr_on (by decide) (by decide)]
  show S.wr [116] = true
  rw [S.wr_on (by decide) (by decide)]
  exact S.wr_nil
theorem wr_aqb : S.wr [97, 34, 98] = true := by
  rw [S.wr_on (by decide) (by decide)]
  show S.wr [34, 98] = true
  rw [S.wr_on (by decide) (by decide)]
  show S.wr [98] = true
  rw [S.wr_on (by decide) (by decide)]
  exact S.wr_nil
theorem jn_four : S.jn resv none (jk four) = some [40, 124, 108, 101, 116, 124, 32, 34, 97, 34, 34, 98, 34, 41] := by
  have h1 : S.spl resv 1 [40] = some [40] := by decide +kernel
  have h2 : S.spl resv 2 [41] = some [41] := by decide +kernel
  have h3 : S.spl resv 3 [108, 101, 116] = some [124, 108, 101, 116, 124] := by
    show S.quo resv [108, 101, 116] = _
    unfold S.quo
    rw [if_neg (by decide +kernel), wr_let, if_pos (by decide)]
    rfl
  have h4 : S.spl resv 9 [97, 34, 98] = some [34, 97, 34, 34, 98, 34] := by
    show S.lit [97, 34, 98] = _
    unfold S.lit
    rw [wr_aqb, if_pos rfl]
    rfl
  show S.jn resv none [(1, [40]), (3, [108, 101, 116]), (9, [97, 34, 98]), (2, [41])] = _
  simp only [S.jn, h1, h2, h3, h4]
  rfl
theorem four_row (w W : World) (h : w.alloc (.cells #[.int .i64 1, .int .i64 0, .int .i64 0, .string ⟨#[40]⟩, .int .i64 3, .int .i64 0, .int .i64 0, .string ⟨#[108, 101, 116]⟩, .int .i64 9, .int .i64 0, .int .i64 0, .string ⟨#[97, 34, 98]⟩, .int .i64 2, .int .i64 0, .int .i64 0, .string ⟨#[41]⟩] 61) = W) :
    JRow W (.slice (some ⟨w.heap.size, 0, none⟩) 4 4) four := by
  have A : W.heap[w.heap.size]? = some (.cells #[.int .i64 1, .int .i64 0, .int .i64 0, .string ⟨#[40]⟩, .int .i64 3, .int .i64 0, .int .i64 0, .string ⟨#[108, 101, 116]⟩, .int .i64 9, .int .i64 0, .int .i64 0, .string ⟨#[97, 34, 98]⟩, .int .i64 2, .int .i64 0, .int .i64 0, .string ⟨#[41]⟩] 61 (0, 0)) := by rw [← h]; exact heap_alloc_new w _
  refine ⟨some ⟨w.heap.size, 0, none⟩, 4, rfl, Nat.le_refl _, by decide, fun _ => ⟨w.heap.size, 0, rfl, fun j hj => ?_⟩⟩
  have hj' : j < 4 := hj
  rcases (by omega : j = 0 ∨ j = 1 ∨ j = 2 ∨ j = 3) with rfl | rfl | rfl | rfl
  · exact ⟨cell_of_row _ _ 0 _ _ (0, 0) A, cell_of_row _ _ 1 _ _ (0, 0) A, cell_of_row _ _ 2 _ _ (0, 0) A, cell_of_row _ _ 3 _ _ (0, 0) A⟩
  · exact ⟨cell_of_row _ _ 4 _ _ (0, 0) A, cell_of_row _ _ 5 _ _ (0, 0) A, cell_of_row _ _ 6 _ _ (0, 0) A, cell_of_row _ _ 7 _ _ (0, 0) A⟩
  · exact ⟨cell_of_row _ _ 8 _ _ (0, 0) A, cell_of_row _ _ 9 _ _ (0, 0) A, cell_of_row _ _ 10 _ _ (0, 0) A, cell_of_row _ _ 11 _ _ (0, 0) A⟩
  · exact ⟨cell_of_row _ _ 12 _ _ (0, 0) A, cell_of_row _ _ 13 _ _ (0, 0) A, cell_of_row _ _ 14 _ _ (0, 0) A, cell_of_row _ _ 15 _ _ (0, 0) A⟩
theorem map_at {ms : List S.Tok} {ts : List J} (h : ms.map (fun t => ((t.kind : Int), t.text)) = jk ts) {k : Nat} (hk : k < ts.length) : ((ms.getD k tk0).kind : Int) = (ts.getD k j0).kind ∧ (ms.getD k tk0).text = (ts.getD k j0).text := by
  have hl : ms.length = ts.length := by
    have := congrArg List.length h
    simpa [jk] using this
  have := congrArg (fun z => z[k]?) h
  simp only [jk, List.getElem?_map] at this
  rw [List.getElem?_eq_getElem (by omega), List.getElem?_eq_getElem hk] at this
  simp only [Option.map_some, Option.some.injEq, Prod.mk.injEq] at this
  rw [List.getD_eq_getElem?_getD, List.getD_eq_getElem?_getD, List.getElem?_eq_getElem (by omega), List.getElem?_eq_getElem hk]
  exact this
theorem jn_len : ∀ (ts : List J) (p : Option Int) (s : List UInt8), S.jn resv p (jk ts) = some s → s.length ≤ jtot ts
  | [], p, s, h => by
    have : s = [] := by
      have h : some [] = some s := h
      exact (Option.some.inj h).symm
    subst this
    exact Nat.zero_le _
  | t :: r, p, s, h => by
    have h : S.jn resv p ((t.kind, t.text) :: jk r) = some s := h
    rw [S.jn] at h
    have hsl := spl_len t.kind t.text
    cases hs : S.spl resv t.kind t.text with
    | none => rw [hs] at h; cases h
    | some a =>
      rw [hs] at h hsl
      simp only at h
      cases hj : S.jn resv (some t.kind) (jk r) with
      | none => rw [hj] at h; cases h
      | some u =>
        rw [hj] at h
        have h := (Option.some.inj h).symm
        have ih := jn_len r _ u hj
        have hsep : (S.sep p t.kind).length ≤ 1 := by
          unfold S.sep
          cases p with
          | none => simp
          | some q => simp only; split <;> simp
        have hsl : a.length ≤ 2 * t.text.length + 2 := hsl
        rw [h]
        simp only [List.length_append, jtot]
        omega
theorem join_four (w W : World) (hc : Cls w) (hm : Mx w) (h : w.alloc (.cells #[.int .i64 1, .int .i64 0, .int .i64 0, .string ⟨#[40]⟩, .int .i64 3, .int .i64 0, .int .i64 0, .string ⟨#[108, 101, 116]⟩, .int .i64 9, .int .i64 0, .int .i64 0, .string ⟨#[97, 34, 98]⟩, .int .i64 2, .int .i64 0, .int .i64 0, .string ⟨#[41]⟩] 61) = W) :
    (Calls Tryz.prog 14 #[.slice (some ⟨w.heap.size, 0, none⟩) 4 4] W fun e w' => e = .returned (.tuple #[.string ⟨#[40, 124, 108, 101, 116, 124, 32, 34, 97, 34, 34, 98, 34, 41]⟩, .int .i64 0]) ∧ Below W.heap.size W w') ∧ Below w.heap.size w W := by
  have b : Below w.heap.size w W := by rw [← h]; exact (Below.refl _ w).alloc (Nat.le_refl _) _
  have q := join_calls W (cls_below hc b) (hm.below b) _ four (four_row w W h) (by decide)
  rw [jn_four] at q
  exact ⟨q, b⟩
end Go.Proofs.YtackibimlpkcmaaGreatDoor
/- ==== RefShow ==== -/
namespace Go.Proofs.YtackibimlpkcmaaGreatDoor
open Go.RowKit
set_option linter.unusedVariables false
theorem sconcat (a b c : List UInt8) : (⟨(a ++ b ++ c).toArray⟩ : ByteArray) = (⟨a.toArray⟩ ++ ⟨b.toArray⟩ : ByteArray) ++ ⟨c.toArray⟩ := by
  have ext : ∀ {x y : ByteArray}, x.data.toList = y.data.toList → x = y := fun {x y} h => by
    obtain ⟨x⟩ := x
    obtain ⟨y⟩ := y
    congr 1
    exact Array.toList_inj.1 h
  apply ext
  simp
set_option maxRecDepth 100000 in
set_option maxHeartbeats 8000000 in
theorem rshow_calls (w : World) (hr : Rsv w) (B : Nat) (v : Value) (ns : List Nd) (h : Nds B w v ns) (hB : B ≤ w.heap.size) (hlen : ns.length ≤ 1048576) (hT : ∀ k, k < ns.length → jtot (lnt ns k) ≤ 33554432) :
    Calls Tryz.prog 7 #[v] w fun e w' => e = .returned (.tuple #[.string ⟨(showV ns).toArray⟩, .int .i64 (showE ns)]) ∧ Below w.heap.size w w' := by
  have hN := hide h
  have q0 := rforest_calls w B v ns h hB
  obtain ⟨a, cap, rfl, h1, h2, h3, h4⟩ := h
  clear h3 h4
  cases hf : forestB ns
  · rw [hf] at q0
    replace q0 := hide q0
    have E : Hid (showV ns = [] ∧ showE ns = 22) := ⟨by unfold showV; rw [hf]; rfl, by unfold showE; rw [hf]; rfl⟩
    clear hf hT
    go_enter Tryz.func7, Tryz.ntmps7
    go_wp2_with (go_at_call 21; refine q0.out.mono ?_; rintro e w1 ⟨rfl, b1⟩; replace b1 := hide b1)
    go_ret2
    exact ⟨by rw [E.out.1, E.out.2]; rfl, b1.out⟩
  · rw [hf] at q0
    replace q0 := hide q0
    have hS := hide (forest_sizes hf)
    obtain ⟨R, hR⟩ : ∃ R, showA ns = R := ⟨_, rfl⟩
    have E : Hid (showV ns = R.getD [] ∧ showE ns = qe R) := ⟨by unfold showV; rw [hf, if_pos rfl, hR], by unfold showE; rw [hf, if_pos rfl, hR]⟩
    have I0 : Hid (∃ m, ns.length - 0 ≤ m ∧ shw ns (kl ns ns.length m 0) [] = R) := ⟨ns.length, Nat.sub_le _ _, hR⟩
    have F0 : Hid (fo (ns.drop 0) 0 [ns.length] = true) := hf
    have L0 : Hid (([] : List UInt8).length ≤ 0 * 33554433) := Nat.zero_le _
    have hTH := hide hT
    have hrH := hide hr
    obtain ⟨n, hn⟩ : ∃ n, ns.length = n := ⟨_, rfl⟩
    rw [hn] at hN h1 h2 hlen I0 F0 q0 ⊢
    have hnH := hide hn
    clear hf hT hR hn hr
    go_enter Tryz.func7, Tryz.ntmps7
    go_wp2_with (go_at_call 21; refine q0.out.mono ?_; rintro e w1 ⟨rfl, b1⟩; replace b1 := hide b1)
    go_loopw [4, 5] (fun s i wr => ∃ (k : Nat) (acc : List UInt8), i = .int .i64 k ∧ k ≤ n ∧ s = .string ⟨acc.toArray⟩ ∧ Hid (∃ m, n - k ≤ m ∧ shw ns (kl ns n m k) acc = R) ∧ Hid (fo (ns.drop k) k [n] = true) ∧ Hid (acc.length ≤ k * 33554433) ∧ Hid (Below w.heap.size w wr)) (fun _ i _ => n - (intOf i).toNat)
    case atStart => exact ⟨0, [], rfl, Nat.zero_le _, rfl, I0, F0, L0, b1⟩
    case round =>
      clear I0 F0 L0 b1 q0
      obtain ⟨k, acc, rfl, hk, rfl, II, FF, LL, BB⟩ := hrel
      by_cases hlt : k < n
      · have hkl : k < ns.length := by rw [hnH.out]; exact hlt
        have hNw := hN.out.below (BB.out.mono hB)
        obtain ⟨b, off, rfl, hb, c0, c1, c2, c3, c4⟩ := hNw.at_ hkl
        have hs := hS.out k hkl
        have hft := FF.out
        rw [← hnH.out] at hft
        obtain ⟨rp, fp⟩ := rt_piece hS.out hkl hft
        have hl := hTH.out k hkl
        have tq := rtoks_calls wr B (.slice (some ⟨b, off, none⟩) n cap) ns hNw (Nat.le_trans hB BB.out.size) (fun j hj => by have := hS.out j hj; have := hnH.out; omega) (by have := hnH.out; omega) k (k + (ns.getD k Nd.z).size.toNat) (by omega) (by omega)
        rw [show k + (ns.getD k Nd.z).size.toNat - k = (ns.getD k Nd.z).size.toNat by omega] at tq
        rw [show (ns.drop k).take (ns.getD k Nd.z).size.toNat = piece ns k from rfl, rp] at tq
        obtain ⟨m, hm, hshw⟩ := II.out
        obtain ⟨m', rfl⟩ : ∃ m', m = m' + 1 := ⟨m - 1, by omega⟩
        rw [kl_go ns n m' k hlt] at hshw
        have hshw' := hshw
        rw [shw] at hshw'
        rw [hnH.out] at hs
        obtain ⟨sz, hsz⟩ : ∃ sz, (ns.getD k Nd.z).size.toNat = sz := ⟨_, rfl⟩
        have hszI : (ns.getD k Nd.z).size = (sz : Int) := by omega
        rw [hsz] at tq fp hshw'
        rw [hszI] at c3 hs
        rw [hnH.out] at fp
        have ew : IntKind.i64.wrap ((k : Int) + (sz : Int)) = ((k + sz : Nat) : Int) := by rw [IntKind.wrap_i64]; omega
        have jq := hide (fun W u (h : Rsv W) (hj : JRow W u (lnt ns k)) => rjoin_calls W h u (lnt ns k) hj (by omega))
        have jl := fun s (h : S.jn resv none (jk (lnt ns k)) = some s) => jn_len (lnt ns k) none s h
        have i0 : (0 : Int) ≤ (k : Int) := by omega
        have hbw : b < wr.heap.size := by have := BB.out.size; omega
        have i1 : (k : Int) < (n : Int) := by omega
        obtain ⟨J, hJ⟩ : ∃ J, S.jn resv none (jk (lnt ns k)) = J := ⟨_, rfl⟩
        rw [hJ] at jq jl hshw'
        replace tq := hide tq
        replace fp := hide fp
        clear hNw c0 c1 c2 c4 hft rp hshw II FF hsz hszI hJ
        cases J with
        | none =>
          have hRn : Hid (R = none) := hshw'.symm
          have QV : qv (none : Option (List UInt8)) = .string ⟨#[]⟩ := rfl
          have QE : qe (none : Option (List UInt8)) = 17 := rfl
          rw [QV, QE] at jq
          clear hshw' QV QE jl hl
          go_wp2_with (first
            | (go_at_call 23; refine tq.out.mono ?_; rintro e w2 ⟨u, rfl, J2, b2⟩; replace J2 := hide J2; have B2 := hide (BB.out.then_below b2); clear b2)
            | (go_at_call 22; refine (jq.out w2 u (hrH.out.below B2.out) J2.out).mono ?_; rintro e w3 ⟨rfl, b3⟩; have B3 := hide (B2.out.then_below b3); clear b3))
          go_ret2
          exact ⟨by rw [E.out.1, E.out.2, hRn.out]; rfl, B3.out⟩
        | some s1 =>
          have s1l := jl s1 rfl
          have II2 : Hid (∃ m, n - (k + sz) ≤ m ∧ shw ns (kl ns n m (k + sz)) (acc ++ s1 ++ [10]) = R) := ⟨m', by omega, hshw'⟩
          have LL2 : Hid ((acc ++ s1 ++ [10]).length ≤ (k + sz) * 33554433) := by
            have h1 := LL.out
            have h2 : k * 33554433 + 33554433 ≤ (k + sz) * 33554433 := by rw [Nat.add_mul]; have : 33554433 ≤ sz * 33554433 := Nat.le_mul_of_pos_left _ (by omega); omega
            show _ ≤ _
            simp only [List.length_append, List.length_singleton]
            omega
          have QV : qv (some s1) = .string ⟨s1.toArray⟩ := rfl
          have QE : qe (some s1) = 0 := rfl
          rw [QV, QE] at jq
          have SC := hide (sconcat acc s1 [10])
          have al : acc.length ≤ 35184373137408 := by
            have h1 := LL.out
            have h2 : k * 33554433 ≤ 1048576 * 33554433 := Nat.mul_le_mul_right _ (by omega)
            omega
          have sl : s1.length ≤ 33554432 := by omega
          have g1 : ¬ 9223372036854775807 < acc.length + s1.length + 1 := by omega
          have g2 : ¬ 9223372036854775807 < acc.length + s1.length := by omega
          have g1' : acc.length + s1.length + 1 ≤ 9223372036854775807 := by omega
          have g2' : acc.length + s1.length ≤ 9223372036854775807 := by omega
          clear al sl
          clear hshw' jl s1l QV QE hl
          go_wp2_with (first
            | (go_at_call 23; refine tq.out.mono ?_; rintro e w2 ⟨u, rfl, J2, b2⟩; replace J2 := hide J2; have B2 := hide (BB.out.then_below b2); replace b2 := hide b2)
            | (go_at_call 22; refine (jq.out w2 u (hrH.out.below B2.out) J2.out).mono ?_; rintro e w3 ⟨rfl, b3⟩; have B3 := hide (B2.out.then_below b3); have c3' := ((b2.out.then_below b3).cell (p := ⟨b, off + k * 5 + 3, none⟩) hbw).trans c3; clear b3))
          refine ⟨⟨k + sz, acc ++ s1 ++ [10], by go_num, by omega, ?_, II2, fp, LL2, B3⟩, by simp [intOf]; omega⟩
          rw [SC.out]
      · obtain rfl : k = n := by omega
        have hRs : Hid (R = some acc) := by
          obtain ⟨m, hm, hshw⟩ := II.out
          rw [kl_end ns k m k (Nat.le_refl _), shw] at hshw
          exact hshw.symm
        have i1 : ¬ (k : Int) < (k : Int) := by omega
        go_wp2_with fail
        go_ret2
        exact ⟨by rw [E.out.1, E.out.2, hRs.out]; rfl, BB.out⟩
end Go.Proofs.YtackibimlpkcmaaGreatDoor
/- ==== NodeCopied ==== -/
namespace Go.Proofs.YtackibimlpkcmaaGreatDoor
open Go.RowKit
set_option linter.unusedVariables false
theorem infoNodeC : (Tryz.prog.info? 42).map (fun i => (i.zero, i.size, i.bytes)) = some (some (.agg #[.int .i64 0, .int .i64 0, .int .i64 0, .int .i64 0, .string ⟨#[]⟩]), 5, 48) := by kernel_rfl
theorem sliceNodeC : Tryz.prog.underlying 22 = some (.slice 42) := by kernel_rfl
def flatN (ns : List Nd) : List Value := ns.flatMap Nd.cells
theorem flatN_len (ns : List Nd) : (flatN ns).length = ns.length * 5 := by
  induction ns with
  | nil => rfl
  | cons x r ih => simp only [flatN, List.flatMap_cons, List.length_append, List.length_cons] at ih ⊢; rw [ih]; simp [Nd.cells]; omega
theorem flatN_snoc (ns : List Nd) (x : Nd) : flatN (ns ++ [x]) = flatN ns ++ x.cells := by simp [flatN]
theorem flatN_at (ns : List Nd) (j f : Nat) (hj : j < ns.length) (hf : f < 5) : (flatN ns)[j * 5 + f]? = (ns.getD j Nd.z).cells[f]? := by
  induction ns generalizing j with
  | nil => simp at hj
  | cons x r ih =>
    have hx : x.cells.length = 5 := rfl
    simp only [flatN, List.flatMap_cons]
    cases j with
    | zero => rw [List.getElem?_append_left (by omega)]; simp
    | succ j =>
      rw [List.getElem?_append_right (by omega), hx, List.getD_cons_succ, ← ih j (by simp at hj; omega)]
      have e : (j + 1) * 5 + f - 5 = j * 5 + f := by omega
      rw [e]
      rfl
theorem own_nds {w : World} {B : Nat} {v : Value} {ns : List Nd} (h : w.ownsRow B 42 5 v ns.length (flatN ns)) (hn : ns.length ≤ 2932031007402) : Nds w.heap.size w v ns := by
  obtain ⟨h1, h2⟩ := h
  rcases h2 with ⟨rfl, h0⟩ | ⟨g, cap, cur, rfl, hB, hg, hle, hm, hs, ht⟩
  · have : ns = [] := List.length_eq_zero_iff.1 h0
    subst this
    exact ⟨none, 0, rfl, by simp, by simp, by simp, fun h => absurd rfl h⟩
  · refine ⟨some ⟨g, 0, none⟩, cap, rfl, hle, ⟨by unfold maxLen at hm; omega, hn⟩, by simp, fun _ => ⟨g, 0, rfl, (Array.getElem?_eq_some_iff.1 hg).1, fun j hj => ?_⟩⟩
    have key : ∀ f, f < 5 → w.cell? ⟨g, 0 + j * 5 + f, none⟩ = (ns.getD j Nd.z).cells[f]? := by
      intro f hf
      rw [Nat.zero_add, cell_of_row w g _ cur _ (0, 0) hg, ← flatN_at ns j f hj hf, ← ht, List.getElem?_take, if_pos (by omega)]
      simp
    exact ⟨key 0 (by omega), key 1 (by omega), key 2 (by omega), key 3 (by omega), key 4 (by omega)⟩
theorem news5 (w : World) (x : Nd) (e : TypeId) : ∀ j u, x.cells[j]? = some u → (w.alloc (.cells #[.int .i64 x.kind, .int .i64 x.pos, .int .i64 x.fin, .int .i64 x.size, .string x.text] e)).cell? ((⟨w.heap.size, 0, none⟩ : Addr).add j) = some u := by
  intro j u hu
  have h : (w.alloc (.cells #[.int .i64 x.kind, .int .i64 x.pos, .int .i64 x.fin, .int .i64 x.size, .string x.text] e)).heap[w.heap.size]? = some (.cells #[.int .i64 x.kind, .int .i64 x.pos, .int .i64 x.fin, .int .i64 x.size, .string x.text] e (0, 0)) := by
    show (w.heap.push _)[w.heap.size]? = _
    rw [Array.getElem?_push_size]
  have ha : (⟨w.heap.size, 0, none⟩ : Addr).add j = ⟨w.heap.size, j, none⟩ := by simp [Addr.add]; omega
  rw [ha, cell_of_row _ _ j _ e (0, 0) h, ← hu]
  simp [Nd.cells]
theorem one5 (x : Nd) : ∀ u ∈ x.cells, u.oneCell' = true := by
  intro u hu
  simp only [Nd.cells, List.mem_cons, List.not_mem_nil, or_false] at hu
  rcases hu with rfl | rfl | rfl | rfl | rfl <;> rfl
set_option maxRecDepth 100000 in
set_option maxHeartbeats 1600000 in
theorem copied_calls (w : World) (B : Nat) (v : Value) (ns : List Nd) (h : Nds B w v ns) (hB : B ≤ w.heap.size) :
    Calls Tryz.prog 5 #[v] w fun e w' => (∃ r, e = .returned r ∧ Nds w'.heap.size w' r ns) ∧ Below w.heap.size w w' := by
  obtain ⟨i0, hi, hz0, hz1, hz2⟩ := info_parts infoNodeC
  have hN := hide h
  obtain ⟨a, cap, rfl, h1, ⟨h2, h2'⟩, h3, h4⟩ := h
  clear h3 h4
  go_enter Tryz.func5, Tryz.ntmps5
  go_wp2_with (at_make; refine wpList_make_own _ rfl _ _ 22 rfl w.heap.size 42 i0 _ 5 sliceNodeC hi hz0 hz1 .i64 .i64 _ ns.length rfl rfl rfl (by rw [hz2]; omega) (by unfold maxLen; omega) (Nat.le_refl _) ?_; intro w0 hown0 hgrow0)
  have B0 : Hid (Below w.heap.size w w0) := (Below.refl _ w).grown hgrow0 (Nat.le_refl _) (by simp)
  replace hown0 := hide hown0
  replace hgrow0 := hide hgrow0
  go_loopw [3, 4] (fun u j wr => ∃ q : Nat, q ≤ ns.length ∧ j = .int .i64 q ∧ Hid (wr.ownsRow w.heap.size 42 5 u q (flatN (ns.take q))) ∧ Hid (Below w.heap.size w wr)) (fun _ j _ => ns.length - (intOf j).toNat)
  case atStart => exact ⟨0, Nat.zero_le _, rfl, hown0, B0⟩
  case round =>
    obtain ⟨q, hq, rfl, hO, hBw⟩ := hrel
    clear B0 hown0 hgrow0
    by_cases hlt : q < ns.length
    · have hNw := hN.out.below (hBw.out.mono hB)
      obtain ⟨b, off, rfl, hb, c0, c1, c2, c3, c4⟩ := hNw.at_ hlt
      clear hNw
      have hT : Hid (ns.take (q + 1) = ns.take q ++ [ns.getD q Nd.z]) := by
        unfold Hid
        rw [List.take_add_one, List.getElem?_eq_getElem hlt, List.getD_eq_getElem?_getD, List.getElem?_eq_getElem hlt]; rfl
      obtain ⟨x, hx⟩ : ∃ x, ns.getD q Nd.z = x := ⟨_, rfl⟩
      rw [hx] at c0 c1 c2 c3 c4 hT
      clear hx
      have hBx := hBw.out.size
      go_wp2_with (at_builtin; (refine wpList_append_own _ rfl _ _ 22 rfl w.heap.size 42 i0 _ 5 48 sliceNodeC hi hz0 hz1 hz2 rfl (by decide) _ _ _ rfl (hO.out.alloc _) ⟨wr.heap.size, 0, none⟩ 1 1 x.cells rfl rfl (news5 wr x _) (one5 x) (by unfold maxLen; omega) (by omega) (by simp; omega) ?_; intro v' w1 hown' hgrow _; replace hown' := hide hown'; replace hgrow := hide hgrow; have B1 : Hid (Below w.heap.size w w1) := (hBw.out.alloc hBx _).grown hgrow.out (by simp; omega) (fun g hg => ((hO.out.lt g hg).1))))
      go_roundw
      case rel => exact ⟨q + 1, by omega, by simp, by rw [hT.out, flatN_snoc]; exact hown', B1⟩
      case measure => simp [intOf]; omega
    · obtain rfl : q = ns.length := by omega
      rw [List.take_length] at hO
      have hR := hide (own_nds hO.out h2')
      go_wp2
      go_ret
      exact ⟨⟨_, rfl, hR.out⟩, hBw.out⟩
end Go.Proofs.YtackibimlpkcmaaGreatDoor
