/-
  The document's Quote and Literal, walked to plain words.
-/
import Derived.Test.YtigcakppnbfpkaaGreatDoorRefScan12
import Derived.Test.YtigcakppnbfpkaaGreatDoorQuote4
namespace Go.Proofs.YtigcakppnbfpkaaGreatDoor
open Go.RowKit
set_option linter.unusedVariables false
theorem front_all (l : List UInt8) : ((S.front S.sym l).length = l.length) = (l.all S.sym = true) := by
  induction l with
  | nil => simp [S.front]
  | cons b t ih =>
    cases h : S.sym b with
    | true => rw [front_cons_pos h]; simp [h]; simpa using ih
    | false => rw [front_cons_neg h]; simp [h]
set_option maxRecDepth 100000 in
set_option maxHeartbeats 600000 in
theorem rsimple_calls (w : World) (s : ByteArray) (l : List UInt8) (hs : s.data.toList = l) (hl : l.length ≤ 1073741824) :
    Calls Tryz.prog 40 #[.string s] w fun e w' => e = .returned (.bool (S.smp l)) ∧ w' = w := by
  have hn := size_of s l hs
  have hz : s.size ≤ 1073741824 := by omega
  by_cases h0 : s.size = 0
  · have hl0 : l = [] := List.length_eq_zero_iff.1 (by rw [← hn]; exact h0)
    have hse : s = ⟨#[]⟩ := bytes_eq (by rw [hs, hl0])
    have hR2 : S.smp l = false := by rw [hl0]; rfl
    rw [hR2]
    subst hse
    clear hs hl hn hl0 hR2
    go_enter Tryz.func40, Tryz.ntmps40
    go_wp2
    go_ret
    exact ⟨rfl, rfl⟩
  · have h0' : 0 < s.size := by omega
    have hb : s[0]'h0' = l.getD 0 0 := byteAt s l hs 0 h0'
    obtain ⟨b, hbb⟩ : ∃ b, l.getD 0 0 = b := ⟨_, rfl⟩
    rw [hbb] at hb
    have hR : S.smp l = (!S.dig b && l.all S.sym) := by
      cases l with
      | nil => exact absurd hn h0
      | cons x t =>
        have : x = b := hbb
        subst this
        rfl
    rw [hR]
    have hne : s ≠ ⟨#[]⟩ := by
      intro e
      rw [e] at h0
      exact h0 rfl
    have n6 : ¬ s.toList = [] := by rw [str_toList2]; intro e; exact h0 (by rw [hn, ← hs, e]; rfl)
    have n7 : (s.toList == []) = false := by simpa using n6
    have n8 : s.toList.isEmpty = false := by simpa using n6
    obtain ⟨n1, n2, n3, n4, n5⟩ := str_ne4' hne
    have i2 : (0 : Int) < s.size := by omega
    have q0 := hide (fun W => rDigit_calls W b)
    have q1 := hide (fun W => symEnd_calls W s l hs hl 0 (Nat.zero_le _))
    rw [Nat.zero_add, List.drop_zero] at q1
    have hfa := front_all l
    obtain ⟨F, hF⟩ : ∃ F, (S.front S.sym l).length = F := ⟨_, rfl⟩
    rw [hF] at q1 hfa
    rw [← hn] at hfa
    obtain ⟨A, hA⟩ : ∃ A, l.all S.sym = A := ⟨_, rfl⟩
    rw [hA] at hfa ⊢
    have hfaH := hide hfa
    clear hs hl hn hbb hR hF hfa hA hne
    cases hd : S.dig b with
    | true =>
      rw [hd] at q0
      go_enter Tryz.func40, Tryz.ntmps40
      go_wp2_with (go_at_call 57; refine (q0.out _).mono ?_; rintro e w1 ⟨rfl, rfl⟩)
      go_ret
      exact ⟨rfl, rfl⟩
    | false =>
      rw [hd] at q0
      go_enter Tryz.func40, Tryz.ntmps40
      go_wp2_with (first
        | (go_at_call 57; refine (q0.out _).mono ?_; rintro e w1 ⟨rfl, rfl⟩)
        | (go_at_call 58; refine (q1.out _).mono ?_; rintro e w2 ⟨rfl, rfl⟩))
      go_ret
      refine ⟨ret_bool ?_, rfl⟩
      have := hfaH.out
      cases A with
      | true =>
        have h1 : F = s.size := by rw [this]
        rw [h1]
        simp
      | false =>
        have h1 : ¬ F = s.size := by rw [this]; simp
        simp
        omega
set_option maxRecDepth 100000 in
set_option maxHeartbeats 1000000 in
theorem rquote_calls (w : World) (hr : Rsv w) (s : ByteArray) (l : List UInt8) (hs : s.data.toList = l) (hl : l.length ≤ 1073741822) :
    Calls Tryz.prog 38 #[.string s] w fun e w' => e = .returned (.tuple #[qv (S.quo resv l), .int .i64 (qe (S.quo resv l))]) ∧ Below w.heap.size w w' := by
  have hn := size_of s l hs
  have q0 := hide (rsimple_calls w s l hs (by omega))
  have q1 := hide (rReserved_calls w hr s l hs)
  have eT : (⟨#[124]⟩ ++ s ++ ⟨#[124]⟩ : ByteArray).data.toList = 124 :: (l ++ [124]) := by simp [hs]
  have q2 := hide (bars_calls w (⟨#[124]⟩ ++ s ++ ⟨#[124]⟩) (124 :: (l ++ [124])) eT (by simp; omega) 0 (by simp))
  rw [Nat.zero_add, List.drop_succ_cons, List.drop_zero] at q2
  obtain ⟨A, hA⟩ : ∃ A, S.smp l = A := ⟨_, rfl⟩
  obtain ⟨B, hB⟩ : ∃ A, resv l = A := ⟨_, rfl⟩
  obtain ⟨D, hD⟩ : ∃ D, S.dBars 0 [] (l ++ [124]) 1 = D := ⟨_, rfl⟩
  have hDD : (S.wr l = true ∧ S.nobar l = true ∧ D = .inl (⟨3, 0, l.length + 2, l⟩, [])) ∨ ((S.wr l && S.nobar l) = false ∧ ((∃ e p, D = .inr (e, p) ∧ e ≠ 0) ∨ ∃ tk r, D = .inl (tk, r) ∧ tk.fin ≠ l.length + 2)) := by
    by_cases h : S.wr l = true ∧ S.nobar l = true
    · left
      have := S.bars_yes 0 [] l 1 h.1 h.2
      rw [hD] at this
      refine ⟨h.1, h.2, ?_⟩
      rw [this, List.nil_append, show 1 + l.length + 1 = l.length + 2 from by omega]
    · right
      refine ⟨?_, ?_⟩
      · cases h1 : S.wr l <;> cases h2 : S.nobar l <;> simp_all
      · rcases S.bars_no 0 [] l 1 h with ⟨e, p, h1, h2⟩ | ⟨tk, r, h1, h2⟩
        · rw [hD] at h1
          exact .inl ⟨e, p, h1, h2⟩
        · rw [hD] at h1
          exact .inr ⟨tk, r, h1, by omega⟩
  have hq : S.quo resv l = if A && !B then some l else if S.wr l && S.nobar l then some (124 :: (l ++ [124])) else none := by unfold S.quo; rw [hA, hB]
  rw [hq]
  rw [hA] at q0
  rw [hB] at q1
  rw [hD] at q2
  have hs' := hide hs
  have hnl : l.length = s.size := hn.symm
  rw [hnl] at hDD
  have m0 : s.size ≤ 1073741824 := by omega
  clear hA hB hD hq hr hs hn hl hnl
  by_cases hAB : A = true ∧ B = false
  · obtain ⟨rfl, rfl⟩ := hAB
    go_enter Tryz.func38, Tryz.ntmps38
    go_wp2_with (first
      | (go_at_call 40; refine q0.out.mono ?_; rintro e w1 ⟨rfl, rfl⟩)
      | (go_at_call 53; refine q1.out.mono ?_; rintro e w2 ⟨rfl, rfl⟩))
    go_ret2
    exact ⟨ret_qv (by rw [hs'.out]; rfl) rfl, Below.refl _ _⟩
  · have hqq : (A && !B) = false := by
      cases A <;> cases B <;> simp_all
    rw [hqq]
    have hAB' : A = true → B = true := by
      intro h
      cases B
      · exact absurd ⟨h, rfl⟩ hAB
      · rfl
    clear hqq hAB
    cases A with
    | true =>
      have hBt := hAB' rfl
      subst hBt
      clear hAB'
      rcases hDD with ⟨h1, h2, rfl⟩ | ⟨h12, ⟨e, p, rfl, he⟩ | ⟨tk, r, rfl, hf⟩⟩
      · have hw12 : (S.wr l && S.nobar l) = true := by rw [h1, h2]; rfl
        rw [hw12]
        clear h1 h2 hw12
        unfold oneV oneT oneE oneP tkAgg at q2
        simp only at q2
        go_enter Tryz.func38, Tryz.ntmps38
        go_wp2_with (first
          | (go_at_call 40; refine q0.out.mono ?_; rintro e w1 ⟨rfl, rfl⟩)
          | (go_at_call 53; refine q1.out.mono ?_; rintro e w2 ⟨rfl, rfl⟩)
          | (go_at_call 54; refine q2.out.mono ?_; rintro e w3 ⟨rfl, b3⟩; replace b3 := hide b3))
        go_ret2
        exact ⟨ret_qv (by simp [hs'.out]) rfl, (b3.out).alloc b3.out.size _⟩
      · rw [h12]
        clear h12
        unfold oneV oneT oneE oneP tkAgg at q2
        simp only at q2
        have he1 : ¬ (e : Int) = 0 := by omega
        go_enter Tryz.func38, Tryz.ntmps38
        go_wp2_with (first
          | (go_at_call 40; refine q0.out.mono ?_; rintro e w1 ⟨rfl, rfl⟩)
          | (go_at_call 53; refine q1.out.mono ?_; rintro e w2 ⟨rfl, rfl⟩)
          | (go_at_call 54; refine q2.out.mono ?_; rintro e w3 ⟨rfl, b3⟩; replace b3 := hide b3))
        go_ret2
        exact ⟨ret_qv rfl rfl, (b3.out).alloc b3.out.size _⟩
      · rw [h12]
        clear h12
        obtain ⟨tkd, tb, tf, tx⟩ := tk
        simp only at hf
        unfold oneV oneT oneE oneP tkAgg at q2
        simp only at q2
        have hf1 : ¬ (tf : Int) = (s.size : Int) + 2 := by omega
        go_enter Tryz.func38, Tryz.ntmps38
        go_wp2_with (first
          | (go_at_call 40; refine q0.out.mono ?_; rintro e w1 ⟨rfl, rfl⟩)
          | (go_at_call 53; refine q1.out.mono ?_; rintro e w2 ⟨rfl, rfl⟩)
          | (go_at_call 54; refine q2.out.mono ?_; rintro e w3 ⟨rfl, b3⟩; replace b3 := hide b3))
        go_ret2
        exact ⟨ret_qv rfl rfl, (b3.out).alloc b3.out.size _⟩
    | false =>
      clear hAB' q1
      rcases hDD with ⟨h1, h2, rfl⟩ | ⟨h12, ⟨e, p, rfl, he⟩ | ⟨tk, r, rfl, hf⟩⟩
      · have hw12 : (S.wr l && S.nobar l) = true := by rw [h1, h2]; rfl
        rw [hw12]
        clear h1 h2 hw12
        unfold oneV oneT oneE oneP tkAgg at q2
        simp only at q2
        go_enter Tryz.func38, Tryz.ntmps38
        go_wp2_with (first
          | (go_at_call 40; refine q0.out.mono ?_; rintro e w1 ⟨rfl, rfl⟩)
          | (go_at_call 53; refine q1.out.mono ?_; rintro e w2 ⟨rfl, rfl⟩)
          | (go_at_call 54; refine q2.out.mono ?_; rintro e w3 ⟨rfl, b3⟩; replace b3 := hide b3))
        go_ret2
        exact ⟨ret_qv (by simp [hs'.out]) rfl, (b3.out).alloc b3.out.size _⟩
      · rw [h12]
        clear h12
        unfold oneV oneT oneE oneP tkAgg at q2
        simp only at q2
        have he1 : ¬ (e : Int) = 0 := by omega
        go_enter Tryz.func38, Tryz.ntmps38
        go_wp2_with (first
          | (go_at_call 40; refine q0.out.mono ?_; rintro e w1 ⟨rfl, rfl⟩)
          | (go_at_call 53; refine q1.out.mono ?_; rintro e w2 ⟨rfl, rfl⟩)
          | (go_at_call 54; refine q2.out.mono ?_; rintro e w3 ⟨rfl, b3⟩; replace b3 := hide b3))
        go_ret2
        exact ⟨ret_qv rfl rfl, (b3.out).alloc b3.out.size _⟩
      · rw [h12]
        clear h12
        obtain ⟨tkd, tb, tf, tx⟩ := tk
        simp only at hf
        unfold oneV oneT oneE oneP tkAgg at q2
        simp only at q2
        have hf1 : ¬ (tf : Int) = (s.size : Int) + 2 := by omega
        go_enter Tryz.func38, Tryz.ntmps38
        go_wp2_with (first
          | (go_at_call 40; refine q0.out.mono ?_; rintro e w1 ⟨rfl, rfl⟩)
          | (go_at_call 53; refine q1.out.mono ?_; rintro e w2 ⟨rfl, rfl⟩)
          | (go_at_call 54; refine q2.out.mono ?_; rintro e w3 ⟨rfl, b3⟩; replace b3 := hide b3))
        go_ret2
        exact ⟨ret_qv rfl rfl, (b3.out).alloc b3.out.size _⟩
theorem dbl_more (l : List UInt8) (k n : Nat) : S.dbl (l.take (k + n)) = S.dbl (l.take k) ++ S.dbl ((l.drop k).take n) := by
  rw [List.take_add, S.dbl_append]
end Go.Proofs.YtigcakppnbfpkaaGreatDoor
