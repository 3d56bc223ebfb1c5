/- Laid together of: RefQuote, RefQuote2, RefSpell. -/
import Derived.Test.YtackibimlpkcmaaGreatDoorKz31
import Derived.Test.YtackibimlpkcmaaGreatDoorKz21
import Derived.Test.YtackibimlpkcmaaGreatDoorKz23
import Derived.Test.YtackibimlpkcmaaGreatDoorKz28
/- ==== RefQuote ==== -/
namespace Go.Proofs.YtackibimlpkcmaaGreatDoor
open Go.RowKit
set_option linter.unusedVariables false
theorem front_all (l : List UInt8) : ((S.front S.sym l).length = l.length) = (l.all S.sym = true) := by
  induction l with
  | nil => simp [S.front]
  | cons b t ih =>
    cases h : S.sym b with
    | true => rw [front_cons_pos h]; simp [h]; simpa using ih
    | false => rw [front_cons_neg h]; simp [h]
set_option maxRecDepth 100000 in
set_option maxHeartbeats 600000 in
theorem rsimple_calls (w : World) (s : ByteArray) (l : List UInt8) (hs : s.data.toList = l) (hl : l.length ≤ 1073741824) :
    Calls Tryz.prog 45 #[.string s] w fun e w' => e = .returned (.bool (S.smp l)) ∧ w' = w := by
  have hn := size_of s l hs
  have hz : s.size ≤ 1073741824 := by omega
  by_cases h0 : s.size = 0
  · have hl0 : l = [] := List.length_eq_zero_iff.1 (by rw [← hn]; exact h0)
    have hse : s = ⟨#[]⟩ := bytes_eq (by rw [hs, hl0])
    have hR2 : S.smp l = false := by rw [hl0]; rfl
    rw [hR2]
    subst hse
    clear hs hl hn hl0 hR2
    go_enter Tryz.func45, Tryz.ntmps45
    go_wp2
    go_ret
    exact ⟨rfl, rfl⟩
  · have h0' : 0 < s.size := by omega
    have hb : s[0]'h0' = l.getD 0 0 := byteAt s l hs 0 h0'
    obtain ⟨b, hbb⟩ : ∃ b, l.getD 0 0 = b := ⟨_, rfl⟩
    rw [hbb] at hb
    have hR : S.smp l = (!S.dig b && l.all S.sym) := by
      cases l with
      | nil => exact absurd hn h0
      | cons x t =>
        have : x = b := hbb
        subst this
        rfl
    rw [hR]
    have hne : s ≠ ⟨#[]⟩ := by
      intro e
      rw [e] at h0
      exact h0 rfl
    have n6 : ¬ s.toList = [] := by rw [str_toList2]; intro e; exact h0 (by rw [hn, ← hs, e]; rfl)
    have n7 : (s.toList == []) = false := by simpa using n6
    have n8 : s.toList.isEmpty = false := by simpa using n6
    obtain ⟨n1, n2, n3, n4, n5⟩ := str_ne4' hne
    have i2 : (0 : Int) < s.size := by omega
    have q0 := hide (fun W => rDigit_calls W b)
    have q1 := hide (fun W => symEnd_calls W s l hs hl 0 (Nat.zero_le _))
    rw [Nat.zero_add, List.drop_zero] at q1
    have hfa := front_all l
    obtain ⟨F, hF⟩ : ∃ F, (S.front S.sym l).length = F := ⟨_, rfl⟩
    rw [hF] at q1 hfa
    rw [← hn] at hfa
    obtain ⟨A, hA⟩ : ∃ A, l.all S.sym = A := ⟨_, rfl⟩
    rw [hA] at hfa ⊢
    have hfaH := hide hfa
    clear hs hl hn hbb hR hF hfa hA hne
    cases hd : S.dig b with
    | true =>
      rw [hd] at q0
      go_enter Tryz.func45, Tryz.ntmps45
      go_wp2_with (go_at_call 52; refine (q0.out _).mono ?_; rintro e w1 ⟨rfl, rfl⟩)
      go_ret
      exact ⟨rfl, rfl⟩
    | false =>
      rw [hd] at q0
      go_enter Tryz.func45, Tryz.ntmps45
      go_wp2_with (first
        | (go_at_call 52; refine (q0.out _).mono ?_; rintro e w1 ⟨rfl, rfl⟩)
        | (go_at_call 54; refine (q1.out _).mono ?_; rintro e w2 ⟨rfl, rfl⟩))
      go_ret
      refine ⟨ret_bool ?_, rfl⟩
      have := hfaH.out
      cases A with
      | true =>
        have h1 : F = s.size := by rw [this]
        rw [h1]
        simp
      | false =>
        have h1 : ¬ F = s.size := by rw [this]; simp
        simp
        omega
set_option maxRecDepth 100000 in
set_option maxHeartbeats 1000000 in
theorem rquote_calls (w : World) (hr : Rsv w) (s : ByteArray) (l : List UInt8) (hs : s.data.toList = l) (hl : l.length ≤ 1073741822) :
    Calls Tryz.prog 43 #[.string s] w fun e w' => e = .returned (.tuple #[qv (S.quo resv l), .int .i64 (qe (S.quo resv l))]) ∧ Below w.heap.size w w' := by
  have hn := size_of s l hs
  have q0 := hide (rsimple_calls w s l hs (by omega))
  have q1 := hide (rReserved_calls w hr s l hs)
  have eT : (⟨#[124]⟩ ++ s ++ ⟨#[124]⟩ : ByteArray).data.toList = 124 :: (l ++ [124]) := by simp [hs]
  have q2 := hide (bars_calls w (⟨#[124]⟩ ++ s ++ ⟨#[124]⟩) (124 :: (l ++ [124])) eT (by simp; omega) 0 (by simp))
  rw [Nat.zero_add, List.drop_succ_cons, List.drop_zero] at q2
  obtain ⟨A, hA⟩ : ∃ A, S.smp l = A := ⟨_, rfl⟩
  obtain ⟨B, hB⟩ : ∃ A, resv l = A := ⟨_, rfl⟩
  obtain ⟨D, hD⟩ : ∃ D, S.dBars 0 [] (l ++ [124]) 1 = D := ⟨_, rfl⟩
  have hDD : (S.wr l = true ∧ S.nobar l = true ∧ D = .inl (⟨3, 0, l.length + 2, l⟩, [])) ∨ ((S.wr l && S.nobar l) = false ∧ ((∃ e p, D = .inr (e, p) ∧ e ≠ 0) ∨ ∃ tk r, D = .inl (tk, r) ∧ tk.fin ≠ l.length + 2)) := by
    by_cases h : S.wr l = true ∧ S.nobar l = true
    · left
      have := S.bars_yes 0 [] l 1 h.1 h.2
      rw [hD] at this
      refine ⟨h.1, h.2, ?_⟩
      rw [this, List.nil_append, show 1 + l.length + 1 = l.length + 2 from by omega]
    · right
      refine ⟨?_, ?_⟩
      · cases h1 : S.wr l <;> cases h2 : S.nobar l <;> simp_all
      · rcases S.bars_no 0 [] l 1 h with ⟨e, p, h1, h2⟩ | ⟨tk, r, h1, h2⟩
        · rw [hD] at h1
          exact .inl ⟨e, p, h1, h2⟩
        · rw [hD] at h1
          exact .inr ⟨tk, r, h1, by omega⟩
  have hq : S.quo resv l = if A && !B then some l else if S.wr l && S.nobar l then some (124 :: (l ++ [124])) else none := by unfold S.quo; rw [hA, hB]
  rw [hq]
  rw [hA] at q0
  rw [hB] at q1
  rw [hD] at q2
  have hs' := hide hs
  have hnl : l.length = s.size := hn.symm
  rw [hnl] at hDD
  have m0 : s.size ≤ 1073741824 := by omega
  clear hA hB hD hq hr hs hn hl hnl
  by_cases hAB : A = true ∧ B = false
  · obtain ⟨rfl, rfl⟩ := hAB
    go_enter Tryz.func43, Tryz.ntmps43
    go_wp2_with (first
      | (go_at_call 45; refine q0.out.mono ?_; rintro e w1 ⟨rfl, rfl⟩)
      | (go_at_call 56; refine q1.out.mono ?_; rintro e w2 ⟨rfl, rfl⟩))
    go_ret2
    exact ⟨ret_qv (by rw [hs'.out]; rfl) rfl, Below.refl _ _⟩
  · have hqq : (A && !B) = false := by
      cases A <;> cases B <;> simp_all
    rw [hqq]
    have hAB' : A = true → B = true := by
      intro h
      cases B
      · exact absurd ⟨h, rfl⟩ hAB
      · rfl
    clear hqq hAB
    cases A with
    | true =>
      have hBt := hAB' rfl
      subst hBt
      clear hAB'
      rcases hDD with ⟨h1, h2, rfl⟩ | ⟨h12, ⟨e, p, rfl, he⟩ | ⟨tk, r, rfl, hf⟩⟩
      · have hw12 : (S.wr l && S.nobar l) = true := by rw [h1, h2]; rfl
        rw [hw12]
        clear h1 h2 hw12
        unfold oneV oneT oneE oneP tkAgg at q2
        simp only at q2
        go_enter Tryz.func43, Tryz.ntmps43
        go_wp2_with (first
          | (go_at_call 45; refine q0.out.mono ?_; rintro e w1 ⟨rfl, rfl⟩)
          | (go_at_call 56; refine q1.out.mono ?_; rintro e w2 ⟨rfl, rfl⟩)
          | (go_at_call 50; refine q2.out.mono ?_; rintro e w3 ⟨rfl, b3⟩; replace b3 := hide b3))
        go_ret2
        exact ⟨ret_qv (by simp [hs'.out]) rfl, (b3.out).alloc b3.out.size _⟩
      · rw [h12]
        clear h12
        unfold oneV oneT oneE oneP tkAgg at q2
        simp only at q2
        have he1 : ¬ (e : Int) = 0 := by omega
        go_enter Tryz.func43, Tryz.ntmps43
        go_wp2_with (first
          | (go_at_call 45; refine q0.out.mono ?_; rintro e w1 ⟨rfl, rfl⟩)
          | (go_at_call 56; refine q1.out.mono ?_; rintro e w2 ⟨rfl, rfl⟩)
          | (go_at_call 50; refine q2.out.mono ?_; rintro e w3 ⟨rfl, b3⟩; replace b3 := hide b3))
        go_ret2
        exact ⟨ret_qv rfl rfl, (b3.out).alloc b3.out.size _⟩
      · rw [h12]
        clear h12
        obtain ⟨tkd, tb, tf, tx⟩ := tk
        simp only at hf
        unfold oneV oneT oneE oneP tkAgg at q2
        simp only at q2
        have hf1 : ¬ (tf : Int) = (s.size : Int) + 2 := by omega
        go_enter Tryz.func43, Tryz.ntmps43
        go_wp2_with (first
          | (go_at_call 45; refine q0.out.mono ?_; rintro e w1 ⟨rfl, rfl⟩)
          | (go_at_call 56; refine q1.out.mono ?_; rintro e w2 ⟨rfl, rfl⟩)
          | (go_at_call 50; refine q2.out.mono ?_; rintro e w3 ⟨rfl, b3⟩; replace b3 := hide b3))
        go_ret2
        exact ⟨ret_qv rfl rfl, (b3.out).alloc b3.out.size _⟩
    | false =>
      clear hAB' q1
      rcases hDD with ⟨h1, h2, rfl⟩ | ⟨h12, ⟨e, p, rfl, he⟩ | ⟨tk, r, rfl, hf⟩⟩
      · have hw12 : (S.wr l && S.nobar l) = true := by rw [h1, h2]; rfl
        rw [hw12]
        clear h1 h2 hw12
        unfold oneV oneT oneE oneP tkAgg at q2
        simp only at q2
        go_enter Tryz.func43, Tryz.ntmps43
        go_wp2_with (first
          | (go_at_call 45; refine q0.out.mono ?_; rintro e w1 ⟨rfl, rfl⟩)
          | (go_at_call 56; refine q1.out.mono ?_; rintro e w2 ⟨rfl, rfl⟩)
          | (go_at_call 50; refine q2.out.mono ?_; rintro e w3 ⟨rfl, b3⟩; replace b3 := hide b3))
        go_ret2
        exact ⟨ret_qv (by simp [hs'.out]) rfl, (b3.out).alloc b3.out.size _⟩
      · rw [h12]
        clear h12
        unfold oneV oneT oneE oneP tkAgg at q2
        simp only at q2
        have he1 : ¬ (e : Int) = 0 := by omega
        go_enter Tryz.func43, Tryz.ntmps43
        go_wp2_with (first
          | (go_at_call 45; refine q0.out.mono ?_; rintro e w1 ⟨rfl, rfl⟩)
          | (go_at_call 56; refine q1.out.mono ?_; rintro e w2 ⟨rfl, rfl⟩)
          | (go_at_call 50; refine q2.out.mono ?_; rintro e w3 ⟨rfl, b3⟩; replace b3 := hide b3))
        go_ret2
        exact ⟨ret_qv rfl rfl, (b3.out).alloc b3.out.size _⟩
      · rw [h12]
        clear h12
        obtain ⟨tkd, tb, tf, tx⟩ := tk
        simp only at hf
        unfold oneV oneT oneE oneP tkAgg at q2
        simp only at q2
        have hf1 : ¬ (tf : Int) = (s.size : Int) + 2 := by omega
        go_enter Tryz.func43, Tryz.ntmps43
        go_wp2_with (first
          | (go_at_call 45; refine q0.out.mono ?_; rintro e w1 ⟨rfl, rfl⟩)
          | (go_at_call 56; refine q1.out.mono ?_; rintro e w2 ⟨rfl, rfl⟩)
          | (go_at_call 50; refine q2.out.mono ?_; rintro e w3 ⟨rfl, b3⟩; replace b3 := hide b3))
        go_ret2
        exact ⟨ret_qv rfl rfl, (b3.out).alloc b3.out.size _⟩
theorem dbl_more (l : List UInt8) (k n : Nat) : S.dbl (l.take (k + n)) = S.dbl (l.take k) ++ S.dbl ((l.drop k).take n) := by
  rw [List.take_add, S.dbl_append]
end Go.Proofs.YtackibimlpkcmaaGreatDoor
/- ==== RefQuote2 ==== -/
namespace Go.Proofs.YtackibimlpkcmaaGreatDoor
open Go.RowKit
set_option linter.unusedVariables false
set_option maxRecDepth 100000 in
set_option maxHeartbeats 4000000 in
theorem rliteral_calls (w : World) (s : ByteArray) (l : List UInt8) (hs : s.data.toList = l) (hl : l.length ≤ 1073741824) :
    Calls Tryz.prog 44 #[.string s] w fun e w' => e = .returned (.tuple #[qv (S.lit l), .int .i64 (qe (S.lit l))]) ∧ Below w.heap.size w w' := by
  obtain ⟨i0, hi1, hz0, hz1, hz2⟩ := info_parts infoByte
  have hn := size_of s l hs
  have hz : s.size ≤ 1073741824 := by omega
  have hat := hide (fun (k : Nat) (h : k < s.size) => byteAt s l hs k h)
  have qc := hide (fun W k (hk : k < l.length) => char_calls W s l hs hl k hk)
  obtain ⟨C, hC⟩ : ∃ C, S.wr l = C := ⟨_, rfl⟩
  have hq : S.lit l = if C then some (34 :: (S.dbl l ++ [34])) else none := by unfold S.lit; rw [hC]
  rw [hq]
  have hC0 := hide hC
  replace hn := hide hn
  clear hs hl hC hq
  have O0 := World.ownsRow_nil w w.heap.size 5 1
  go_enter Tryz.func44, Tryz.ntmps44
  go_wp2_with (at_builtin; (refine wpList_append_own _ rfl _ _ 44 rfl w.heap.size 5 i0 (.int .u8 0) 1 1 sliceByte hi1 hz0 hz1 hz2 rfl (by decide) _ _ _ rfl (O0.alloc _) ⟨w.heap.size, 0, none⟩ 1 1 [.int .u8 34] rfl rfl (cell_one_new _ _ _) (by simp [Value.oneCell']) (by unfold maxLen; omega) (by omega) (by simp) ?_; intro v' w1 o1 g1 _; replace o1 := hide o1; replace g1 := hide g1))
  have o1' : Hid (OwnV w.heap.size w1 v' (34 :: S.dbl (l.take 0))) := o1.out
  have B1 : Hid (Below w.heap.size w w1) := own_below (acc := []) (Below.refl _ w) (Nat.le_refl _) g1.out O0
  clear o1 g1
  go_loopw [4, 5] (fun v j wr => ∃ k : Nat, k ≤ s.size ∧ j = .int .i64 k ∧ Hid (S.wr (l.drop k) = C) ∧ Hid (OwnV w.heap.size wr v (34 :: S.dbl (l.take k))) ∧ Hid (Below w.heap.size w wr)) (fun _ j _ => s.size - (intOf j).toNat)
  case atStart => exact ⟨0, Nat.zero_le _, rfl, hC0, o1', B1⟩
  case round =>
    clear hC0 o1' B1
    obtain ⟨k, hk2, rfl, hC, hO, hBw⟩ := hrel
    have hwz : w.heap.size ≤ wr.heap.size := hBw.out.size
    obtain ⟨acc, hacc⟩ : ∃ acc, 34 :: S.dbl (l.take k) = acc := ⟨_, rfl⟩
    have hal : acc.length ≤ 2 * k + 1 := by
      rw [← hacc, List.length_cons]
      have := S.dbl_len (l.take k)
      rw [List.length_take] at this
      omega
    rw [hacc] at hO
    obtain ⟨va, vc, hv⟩ := own_shape (ownsRow_zero hO.out)
    subst hv
    have cv := hO.out.conv
    obtain ⟨L, hL⟩ : ∃ L, acc.length = L := ⟨_, rfl⟩
    rw [hL] at hal cv hO ⊢
    have hO2 := hO.out
    unfold OwnV at hO2
    rw [hL] at hO2
    replace hO2 := hide hO2
    have hLh := hide hL
    have hacch := hide hacc
    clear hL hacc
    by_cases hlt : k < s.size
    · have hll : k < l.length := by rw [← hn.out]; exact hlt
      have hb : s[k]'hlt = l.getD k 0 := hat.out k hlt
      have ed := drop_cons l k hll
      obtain ⟨b, hb2⟩ : ∃ b, l.getD k 0 = b := ⟨_, rfl⟩
      rw [hb2] at hb ed
      have hC2 := hC.out
      rw [ed] at hC2
      have qt := hide (fun W => rControl_calls W b)
      have qd := fun W => qc.out W k hll
      rw [ed] at qd
      obtain ⟨n, hnn⟩ : ∃ n, S.chr (b :: l.drop (k + 1)) = n := ⟨_, rfl⟩
      rw [hnn] at qd
      replace qd := hide qd
      by_cases h0 : n = 0
      · subst h0
        rw [S.wr_none hnn] at hC2
        subst hC2
        clear hC ed hb2 hnn cv
        go_wp2_with (go_at_call 48; refine (qd.out _).mono ?_; rintro e w2 ⟨rfl, rfl⟩)
        go_ret2
        exact ⟨ret_qv rfl rfl, hBw.out⟩
      · have h01 : ((n : Int) == 0) = false := by simp; omega
        have h02 : ¬ (n : Int) = 0 := by omega
        cases hct : S.ctl b with
        | true =>
          rw [hct] at qt
          rw [S.wr_ctl hct] at hC2
          subst hC2
          clear hC ed hb2 hnn cv hct
          go_wp2_with (first
            | (go_at_call 48; refine (qd.out _).mono ?_; rintro e w2 ⟨rfl, rfl⟩)
            | (go_at_call 47; refine (qt.out _).mono ?_; rintro e w2 ⟨rfl, rfl⟩))
          go_ret2
          exact ⟨ret_qv rfl rfl, hBw.out⟩
        | false =>
          rw [hct] at qt
          have h0' : S.chr (b :: l.drop (k + 1)) ≠ 0 := by rw [hnn]; exact h0
          rw [S.wr_on hct h0', hnn, ← ed, List.drop_drop] at hC2
          have hle := S.chr_le (b :: l.drop (k + 1))
          rw [hnn, ← ed, List.length_drop] at hle
          have hmn : k + n ≤ s.size := by have := hn.out; omega
          have hC4 := hide hC2
          have hdc := S.dbl_char b (l.drop (k + 1)) h0'
          rw [hnn, ← ed] at hdc
          have hn1 : 1 ≤ n := by omega
          by_cases h34 : b = 34
          · subst h34
            rw [if_pos rfl] at hdc
            have hdbl : Hid (34 :: S.dbl (l.take (k + n)) = (acc ++ [34]) ++ (l.drop k).take n) := by
              show _ = _
              rw [dbl_more, hdc, ← hacch.out]
              simp
            clear hC hC2 ed hb2 hnn cv hct h0' hle hdc h0
            go_wp2_with (first
              | (go_at_call 48; refine (qd.out _).mono ?_; rintro e w2 ⟨rfl, rfl⟩)
              | (go_at_call 47; refine (qt.out _).mono ?_; rintro e w2 ⟨rfl, rfl⟩)
              | (at_builtin; (refine wpList_append_own _ rfl _ _ 44 rfl w.heap.size 5 i0 (.int .u8 0) 1 1 sliceByte hi1 hz0 hz1 hz2 rfl (by decide) _ _ _ rfl (hO2.out.alloc _) ⟨w2.heap.size, 0, none⟩ 1 1 [.int .u8 34] rfl rfl (cell_one_new _ _ _) (by simp [Value.oneCell']) (by unfold maxLen; omega) (by omega) (by simp; omega) ?_; intro v' w5 o5 g5 _; have O5 := hide (own_snoc (x := 34) hLh.out o5); have B5 := hide (own_below hBw.out hwz g5 hO.out); clear o5 g5)))
            go_loopw [4, 7] (fun v j wx => ∃ jj : Nat, jj ≤ n ∧ j = .int .i64 jj ∧ Hid (OwnV w.heap.size wx v ((acc ++ [34]) ++ (l.drop k).take jj)) ∧ Hid (Below w.heap.size w wx)) (fun _ j _ => n - (intOf j).toNat)
            case atStart => exact ⟨0, Nat.zero_le _, rfl, by simp only [List.take_zero, List.append_nil]; exact O5.out, B5⟩
            case round =>
              obtain ⟨jj, hj1, rfl, hOj, hBj⟩ := hrel
              by_cases hjl : jj < n
              · have hjl1 : (jj : Int) < n := by omega
                have hx : k + jj < s.size := by omega
                have hbj : s[k + jj]'hx = l.getD (k + jj) 0 := hat.out (k + jj) hx
                have hsn := take_snoc' l k jj (by rw [← hn.out]; exact hx)
                obtain ⟨x, hx2⟩ : ∃ x, l.getD (k + jj) 0 = x := ⟨_, rfl⟩
                rw [hx2] at hbj hsn
                obtain ⟨va2, vc2, hv2⟩ := own_shape (ownsRow_zero hOj.out)
                subst hv2
                obtain ⟨L2, hL2⟩ : ∃ L2, ((acc ++ [34]) ++ (l.drop k).take jj).length = L2 := ⟨_, rfl⟩
                have hL2b : L2 ≤ L + 1 + n := by rw [← hL2]; simp only [List.length_append, List.length_singleton, hLh.out, List.length_take]; omega
                have hO5 := hOj.out
                unfold OwnV at hO5
                rw [hL2] at hO5 hOj ⊢
                replace hO5 := hide hO5
                have hwz2 : w.heap.size ≤ wr.heap.size := hBj.out.size
                have ei2 : (k : Int) + jj < s.size := by omega
                have ew2 : IntKind.i64.wrap ((k : Int) + jj) = (k : Int) + jj := by rw [IntKind.wrap_i64]; omega
                have hsn' := hide hsn
                have hL2h := hide hL2
                clear hsn hx2 hL2
                go_wp2_with (at_builtin; (refine wpList_append_own _ rfl _ _ 44 rfl w.heap.size 5 i0 (.int .u8 0) 1 1 sliceByte hi1 hz0 hz1 hz2 rfl (by decide) _ _ _ rfl (hO5.out.alloc _) ⟨wr.heap.size, 0, none⟩ 1 1 [.int .u8 x.toNat] rfl rfl (cell_one_new _ _ _) (by simp [Value.oneCell']) (by unfold maxLen; omega) (by omega) (by simp; omega) ?_; intro v' w1 o1 g1 _; replace o1 := hide o1; replace g1 := hide g1))
                go_roundw
                case rel => exact ⟨jj + 1, by omega, by go_num, by rw [hsn'.out, ← List.append_assoc]; exact own_snoc (x := x) hL2h.out o1.out, own_below hBj.out hwz2 g1.out hOj.out⟩
                case measure => simp [intOf]; omega
              · have hjn : jj = n := by omega
                subst hjn
                go_wp2
                go_roundw
                case rel => exact ⟨k + jj, by omega, by go_num, hC4, by rw [hdbl.out]; exact hOj, hBj⟩
                case measure => simp [intOf]; omega
          · rw [if_neg h34, List.nil_append] at hdc
            have m34 : ¬ (b.toNat : Int) = 34 := ne_byte (by decide) h34
            have m34' : ((b.toNat : Int) == 34) = false := by simpa using m34
            have hdbl : Hid (34 :: S.dbl (l.take (k + n)) = acc ++ (l.drop k).take n) := by
              rw [dbl_more, hdc, ← hacch.out]
              rfl
            clear hC hC2 ed hb2 hnn cv hct h0' hle hdc h0 h34
            go_wp2_with (first
              | (go_at_call 48; refine (qd.out _).mono ?_; rintro e w2 ⟨rfl, rfl⟩)
              | (go_at_call 47; refine (qt.out _).mono ?_; rintro e w2 ⟨rfl, rfl⟩))
            go_loopw [4, 7] (fun v j wx => ∃ jj : Nat, jj ≤ n ∧ j = .int .i64 jj ∧ Hid (OwnV w.heap.size wx v (acc ++ (l.drop k).take jj)) ∧ Hid (Below w.heap.size w wx)) (fun _ j _ => n - (intOf j).toNat)
            case atStart => exact ⟨0, Nat.zero_le _, rfl, by simp only [List.take_zero, List.append_nil]; exact hO.out, hBw⟩
            case round =>
              obtain ⟨jj, hj1, rfl, hOj, hBj⟩ := hrel
              by_cases hjl : jj < n
              · have hjl1 : (jj : Int) < n := by omega
                have hx : k + jj < s.size := by omega
                have hbj : s[k + jj]'hx = l.getD (k + jj) 0 := hat.out (k + jj) hx
                have hsn := take_snoc' l k jj (by rw [← hn.out]; exact hx)
                obtain ⟨x, hx2⟩ : ∃ x, l.getD (k + jj) 0 = x := ⟨_, rfl⟩
                rw [hx2] at hbj hsn
                obtain ⟨va2, vc2, hv2⟩ := own_shape (ownsRow_zero hOj.out)
                subst hv2
                obtain ⟨L2, hL2⟩ : ∃ L2, (acc ++ (l.drop k).take jj).length = L2 := ⟨_, rfl⟩
                have hL2b : L2 ≤ L + 1 + n := by rw [← hL2]; simp only [List.length_append, hLh.out, List.length_take]; omega
                have hO5 := hOj.out
                unfold OwnV at hO5
                rw [hL2] at hO5 hOj ⊢
                replace hO5 := hide hO5
                have hwz2 : w.heap.size ≤ wr.heap.size := hBj.out.size
                have ei2 : (k : Int) + jj < s.size := by omega
                have ew2 : IntKind.i64.wrap ((k : Int) + jj) = (k : Int) + jj := by rw [IntKind.wrap_i64]; omega
                have hsn' := hide hsn
                have hL2h := hide hL2
                clear hsn hx2 hL2
                go_wp2_with (at_builtin; (refine wpList_append_own _ rfl _ _ 44 rfl w.heap.size 5 i0 (.int .u8 0) 1 1 sliceByte hi1 hz0 hz1 hz2 rfl (by decide) _ _ _ rfl (hO5.out.alloc _) ⟨wr.heap.size, 0, none⟩ 1 1 [.int .u8 x.toNat] rfl rfl (cell_one_new _ _ _) (by simp [Value.oneCell']) (by unfold maxLen; omega) (by omega) (by simp; omega) ?_; intro v' w1 o1 g1 _; replace o1 := hide o1; replace g1 := hide g1))
                go_roundw
                case rel => exact ⟨jj + 1, by omega, by go_num, by rw [hsn'.out, ← List.append_assoc]; exact own_snoc (x := x) hL2h.out o1.out, own_below hBj.out hwz2 g1.out hOj.out⟩
                case measure => simp [intOf]; omega
              · have hjn : jj = n := by omega
                subst hjn
                go_wp2
                go_roundw
                case rel => exact ⟨k + jj, by omega, by go_num, hC4, by rw [hdbl.out]; exact hOj, hBj⟩
                case measure => simp [intOf]; omega
    · have hkl : k = l.length := by have := hn.out; omega
      have hC2 := hC.out
      rw [hkl, List.drop_length, S.wr_nil] at hC2
      subst hC2
      have haccl : Hid (acc = 34 :: S.dbl l) := by show _ = _; rw [← hacch.out, hkl, List.take_length]
      clear hC cv
      go_wp2_with (at_builtin; (refine wpList_append_own _ rfl _ _ 44 rfl w.heap.size 5 i0 (.int .u8 0) 1 1 sliceByte hi1 hz0 hz1 hz2 rfl (by decide) _ _ _ rfl (hO2.out.alloc _) ⟨wr.heap.size, 0, none⟩ 1 1 [.int .u8 34] rfl rfl (cell_one_new _ _ _) (by simp [Value.oneCell']) (by unfold maxLen; omega) (by omega) (by simp; omega) ?_; intro v' w5 o5 g5 _; have O5 := hide (own_snoc (x := 34) hLh.out o5); have B5 := hide (own_below hBw.out hwz g5 hO.out); have cv := O5.out.conv; clear o5 g5))
      go_ret2
      exact ⟨ret_qv (by simp [haccl.out]) rfl, B5.out⟩
end Go.Proofs.YtackibimlpkcmaaGreatDoor
/- ==== RefSpell ==== -/
namespace Go.Proofs.YtackibimlpkcmaaGreatDoor
open Go.RowKit
set_option linter.unusedVariables false
theorem one_place {k : Int} {x : List UInt8} (h3 : k ≠ 3) (h9 : k ≠ 9) (h10 : k ≠ 10) (h : S.oneOf resv k x = true) : ∃ t : S.Tok, S.run resv .idle x 0 = ([t], 0, 0) ∧ (t.kind : Int) = k ∧ t.text = x ∧ t.beg = 0 ∧ t.fin = x.length := by
  obtain ⟨t, e1, e2, e3⟩ := S.oneOf_parts resv h
  have hk := S.run_okL resv x .idle 0 trivial t (by rw [e1]; exact List.mem_cons_self)
  have hlen := hk.1 (by omega) (by omega) (by omega)
  rw [e3] at hlen
  have hst := S.run_stands resv x 0
  rw [e1] at hst
  obtain ⟨n, m, m1, m2, m3, m4, -⟩ := hst
  exact ⟨t, e1, e2, e3, by omega, by omega⟩
theorem oneOf_kinds {k : Int} {x : List UInt8} (h : S.oneOf resv k x = true) : 1 ≤ k ∧ k ≤ 10 := by
  obtain ⟨t, e1, e2, e3⟩ := S.oneOf_parts resv h
  have hk := S.run_okL resv x .idle 0 trivial t (by rw [e1]; exact List.mem_cons_self)
  have h1 := hk.2.1
  have h2 := hk.2.2.1
  omega
/-- What the walks need of the token that is handed in. -/
def SpW (w W0 : World) (k a b : Int) (s : ByteArray) : Prop :=
  w.alloc (.cells #[.int .i64 k, .int .i64 a, .int .i64 b, .string s] 61) = W0
theorem SpW.all {w W0 : World} {k a b : Int} {s : ByteArray} (h : SpW w W0 k a b s) : Below w.heap.size w W0 ∧ W0.cell? ⟨w.heap.size, 0, none⟩ = some (.int .i64 k) ∧ W0.cell? ⟨w.heap.size, 3, none⟩ = some (.string s) ∧ w.heap.size < W0.heap.size := by
  have A0 : W0.heap[w.heap.size]? = some (.cells #[.int .i64 k, .int .i64 a, .int .i64 b, .string s] 61 (0, 0)) := by rw [← h]; exact heap_alloc_new w _
  exact ⟨by rw [← h]; exact (Below.refl _ w).alloc (Nat.le_refl _) _, cell_of_row _ _ 0 _ _ (0, 0) A0, cell_of_row _ _ 3 _ _ (0, 0) A0, (Array.getElem?_eq_some_iff.1 A0).1⟩
set_option maxRecDepth 100000 in
set_option maxHeartbeats 4000000 in
theorem rspell_1 (w : World) (hr : Rsv w) (a b : Int) (s : ByteArray) (l : List UInt8) (hs : s.data.toList = l) (hl : l.length ≤ 1073741822) :
    Calls Tryz.prog 34 #[.agg #[.int .i64 1, .int .i64 a, .int .i64 b, .string s]] w fun e w' => e = .returned (.tuple #[qv (S.spl resv 1 l), .int .i64 (qe (S.spl resv 1 l))]) ∧ Below w.heap.size w w' := by
  have hn := size_of s l hs
  obtain ⟨W0, hW0⟩ : ∃ W, w.alloc (.cells #[.int .i64 1, .int .i64 a, .int .i64 b, .string s] 61) = W := ⟨_, rfl⟩
  obtain ⟨B0, z0, z3, hz0⟩ := SpW.all (w := w) hW0
  have qt := rtokens_calls W0 (hr.below B0) s l hs (by omega)
  replace B0 := hide B0
  have m1 : s.size ≤ 1073741824 := by omega
  have eo : S.spl resv 1 l = if S.oneOf resv 1 l then some l else none := rfl
  rw [eo]
  by_cases hone : S.oneOf resv 1 l = true
  · obtain ⟨t, e1, e2, e3, e4, e5⟩ := one_place (by decide) (by decide) (by decide) hone
    rw [hone]
    rw [e1] at qt
    simp only at qt
    replace qt := hide qt
    obtain ⟨tk, tb, tf, tx⟩ := t
    simp only at e2 e3 e4 e5
    have e2' : tk = 1 := by omega
    subst e2' e4
    have hsx : (⟨tx.toArray⟩ : ByteArray) = s := bytes_eq (by rw [hs]; exact e3)
    have e5' : (tf : Int) = s.size := by omega
    have hs' := hide hs
    clear e1 e2 e3 e5 eo hone hs hn hr hl
    go_enter Tryz.func34, Tryz.ntmps34
    go_wp2_with (go_at_call 24; refine qt.out.mono ?_; rintro x w1 ⟨v1, rfl, u1, b1⟩; have T1 := ownsRow.trow u1; obtain ⟨a1, cp1, rfl, n1, n1'⟩ := T1.shape; obtain ⟨g1, f1, rfl, x0, x1, x2, x3⟩ := T1.at_ (j := 0) (by simp); simp at x0 x1 x2 x3 n1; rw [hsx] at x3; have y0 := (b1.cell (p := ⟨w.heap.size, 0, none⟩) hz0).trans z0; have y3 := (b1.cell (p := ⟨w.heap.size, 3, none⟩) hz0).trans z3; replace b1 := hide b1; clear T1 u1)
    go_quiet (fail)
    go_wp2
    go_ret2
    exact ⟨ret_qv (by rw [hs'.out]; rfl) rfl, B0.out.then_below (below_drewN b1.out _)⟩
  · have hone' : S.oneOf resv 1 l = false := by simpa using hone
    rw [hone']
    obtain ⟨O, hO⟩ : ∃ O, S.run resv .idle l 0 = O := ⟨_, rfl⟩
    rw [hO] at qt
    obtain ⟨ts, e, p⟩ := O
    simp only at qt
    replace qt := hide qt
    have hs' := hide hs
    by_cases he : e = 0
    · subst he
      by_cases hts : ts.length = 1
      · obtain ⟨t, rfl⟩ : ∃ t, ts = [t] := List.length_eq_one_iff.1 hts
        by_cases hk : (t.kind : Int) = 1
        · have hx : t.text ≠ l := by
            intro hx
            exact hone (oneOf_yes hO rfl rfl hk hx)
          obtain ⟨SX, hSX⟩ : ∃ Y : ByteArray, (⟨t.text.toArray⟩ : ByteArray) = Y := ⟨_, rfl⟩
          have hne : SX ≠ s := by
            intro e
            rw [← hSX] at e
            apply hx
            have := congrArg (fun z : ByteArray => z.data.toList) e
            simp only at this
            rw [hs'.out] at this
            exact this
          obtain ⟨e1, e2, e3, e4, e5⟩ := str_ne4' hne
          clear hone hone' hx hts hne hO eo hs hn hr hl
          go_enter Tryz.func34, Tryz.ntmps34
          go_wp2_with (go_at_call 24; refine qt.out.mono ?_; rintro x w1 ⟨v1, rfl, u1, b1⟩; have T1 := ownsRow.trow u1; obtain ⟨a1, cp1, rfl, n1, n1'⟩ := T1.shape; obtain ⟨g1, f1, rfl, x0, x1, x2, x3⟩ := T1.at_ (j := 0) (by simp); simp at x0 x1 x2 x3 n1; rw [hSX] at x3; have y0 := (b1.cell (p := ⟨w.heap.size, 0, none⟩) hz0).trans z0; have y3 := (b1.cell (p := ⟨w.heap.size, 3, none⟩) hz0).trans z3; replace b1 := hide b1; clear T1 u1)
          go_quiet (fail)
          go_wp2
          go_ret2
          exact ⟨ret_qv rfl rfl, B0.out.then_below (below_drewN b1.out _)⟩
        · have hk1 : ((t.kind : Int) == 1) = false := by simpa using hk
          clear hone hone' hk hts hO eo hs hn hr hl
          go_enter Tryz.func34, Tryz.ntmps34
          go_wp2_with (go_at_call 24; refine qt.out.mono ?_; rintro x w1 ⟨v1, rfl, u1, b1⟩; have T1 := ownsRow.trow u1; obtain ⟨a1, cp1, rfl, n1, n1'⟩ := T1.shape; obtain ⟨g1, f1, rfl, x0, x1, x2, x3⟩ := T1.at_ (j := 0) (by simp); simp at x0 x1 x2 x3 n1; have y0 := (b1.cell (p := ⟨w.heap.size, 0, none⟩) hz0).trans z0; have y3 := (b1.cell (p := ⟨w.heap.size, 3, none⟩) hz0).trans z3; replace b1 := hide b1; clear T1 u1)
          go_quiet (fail)
          go_wp2
          go_ret2
          exact ⟨ret_qv rfl rfl, B0.out.then_below (below_drewN b1.out _)⟩
      · have hts1 : ((ts.length : Int) == 1) = false := by simpa using (show ¬ (ts.length : Int) = 1 by omega)
        clear hone hone' hts hO eo hs hn hr hl
        go_enter Tryz.func34, Tryz.ntmps34
        go_wp2_with (go_at_call 24; refine qt.out.mono ?_; rintro x w1 ⟨v1, rfl, u1, b1⟩; have T1 := ownsRow.trow u1; obtain ⟨a1, cp1, rfl, n1, n1'⟩ := T1.shape; have y0 := (b1.cell (p := ⟨w.heap.size, 0, none⟩) hz0).trans z0; have y3 := (b1.cell (p := ⟨w.heap.size, 3, none⟩) hz0).trans z3; replace b1 := hide b1; clear T1 u1)
        go_quiet (fail)
        go_wp2
        go_ret2
        exact ⟨ret_qv rfl rfl, B0.out.then_below (below_drewN b1.out _)⟩
    · have he1 : ((e : Int) == 0) = false := by simpa using (show ¬ (e : Int) = 0 by omega)
      clear hone hone' he hO eo hs hn hr hl
      go_enter Tryz.func34, Tryz.ntmps34
      go_wp2_with (go_at_call 24; refine qt.out.mono ?_; rintro x w1 ⟨v1, rfl, u1, b1⟩; have T1 := ownsRow.trow u1; obtain ⟨a1, cp1, rfl, n1, n1'⟩ := T1.shape; have y0 := (b1.cell (p := ⟨w.heap.size, 0, none⟩) hz0).trans z0; have y3 := (b1.cell (p := ⟨w.heap.size, 3, none⟩) hz0).trans z3; replace b1 := hide b1; clear T1 u1)
      go_quiet (fail)
      go_wp2
      go_ret2
      exact ⟨ret_qv rfl rfl, B0.out.then_below (below_drewN b1.out _)⟩
end Go.Proofs.YtackibimlpkcmaaGreatDoor
