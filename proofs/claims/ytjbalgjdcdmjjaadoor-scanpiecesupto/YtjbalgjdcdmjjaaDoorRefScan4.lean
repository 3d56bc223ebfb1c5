/-
  The document's side of scan: white and comments.
-/
import Derived.Test.YtjbalgjdcdmjjaaDoorRefScan3
import Derived.Deep.LoopGhost
namespace Go.Proofs.YtjbalgjdcdmjjaaDoor
open Go.RowKit
set_option linter.unusedVariables false
/-- What skip answers. -/
def skipR (l : List UInt8) (r : S.SR) : Nat × Nat := match r with | .inl (_, k) => (0, k) | .inr (e, p) => (e, p)
theorem dCom_step {b : UInt8} {t : List UInt8} {i : Nat} (h1 : b ≠ 10) (h2 : b ≠ 13) (h3 : S.ctl b = false) (h4 : S.chr (b :: t) ≠ 0) : S.dCom (b :: t) i = S.dCom ((b :: t).drop (S.chr (b :: t))) (i + S.chr (b :: t)) := by
  rw [S.dCom]
  simp [h1, h2, h3, h4]
theorem dCom_end {b : UInt8} {t : List UInt8} {i : Nat} (h : b = 10 ∨ b = 13) : S.dCom (b :: t) i = .inl (b :: t, i) := by
  rw [S.dCom, if_pos h]
theorem dCom_ctl {b : UInt8} {t : List UInt8} {i : Nat} (h1 : b ≠ 10) (h2 : b ≠ 13) (h3 : S.ctl b = true) : S.dCom (b :: t) i = .inr (10, i) := by
  rw [S.dCom]
  simp [h1, h2, h3]
theorem dCom_bad {b : UInt8} {t : List UInt8} {i : Nat} (h1 : b ≠ 10) (h2 : b ≠ 13) (h3 : S.ctl b = false) (h4 : S.chr (b :: t) = 0) : S.dCom (b :: t) i = .inr (11, i) := by
  rw [S.dCom]
  simp [h1, h2, h3, h4]
theorem dSkip_white {b : UInt8} {t : List UInt8} {i : Nat} (h : S.white b = true) : S.dSkip (b :: t) i = S.dSkip t (i + 1) := by
  rw [S.dSkip.eq_def]
  simp [h]
theorem dSkip_here {b : UInt8} {t : List UInt8} {i : Nat} (h : S.white b = false) (h2 : b ≠ 59) : S.dSkip (b :: t) i = .inl (b :: t, i) := by
  rw [S.dSkip.eq_def]
  simp [h, h2]
theorem dSkip_com {t : List UInt8} {i : Nat} : S.dSkip (59 :: t) i = match S.dCom t (i + 1) with | .inl (r, k) => S.dSkip r k | .inr (e, p) => .inr (e, p) := by
  rw [S.dSkip.eq_def]
  have hw : S.white 59 = false := by decide
  simp only [hw, Bool.false_eq_true, if_false, if_true]
  rcases S.dCom t (i + 1) with ⟨r, k⟩ | ⟨e, p⟩ <;> rfl
/-- A semicolon is no sign of an end and no control byte: the comment's own first byte is passed by as any other. -/
theorem dCom_semi {t : List UInt8} {i : Nat} : S.dCom (59 :: t) i = S.dCom t (i + 1) := by
  have h := dCom_step (b := 59) (t := t) (i := i) (by decide) (by decide) (by decide) (by rw [chr_low (by decide)]; decide)
  rw [chr_low (by decide)] at h
  exact h
def comR (r : S.SR) : S.SR := match r with | .inl (r, k) => S.dSkip r k | .inr (e, p) => .inr (e, p)
def skR (r : S.SR) : Nat × Nat := match r with | .inl (_, k) => (0, k) | .inr (e, p) => (e, p)
theorem chr_pos_le {b : UInt8} {t : List UInt8} (h : S.chr (b :: t) ≠ 0) : 1 ≤ S.chr (b :: t) ∧ S.chr (b :: t) ≤ t.length + 1 := by
  have := S.chr_le (b :: t)
  simp at this
  omega
set_option maxRecDepth 100000 in
set_option maxHeartbeats 1600000 in
theorem skip_calls (w : World) (s : ByteArray) (l : List UInt8) (hs : s.data.toList = l) (hl : l.length ≤ 1073741824) (i : Nat) (hi : i ≤ l.length) :
    Calls Tryd.prog 23 #[.string s, .int .i64 i] w fun e w' => e = .returned (.tuple #[.int .i64 (skR (S.dSkip (l.drop i) i)).1, .int .i64 (skR (S.dSkip (l.drop i) i)).2]) ∧ w' = w := by
  have hn := size_of s l hs
  have hz : s.size ≤ 1073741824 := by omega
  have hat := hide (fun (k : Nat) (h : k < s.size) => byteAt s l hs k h)
  have qc := hide (fun W k (hk : k < l.length) => char_calls W s l hs hl k hk)
  have hi0 : i ≤ s.size := by omega
  obtain ⟨R, hR⟩ : ∃ R, S.dSkip (l.drop i) i = R := ⟨_, rfl⟩
  rw [hR]
  replace hR := hide hR
  replace hn := hide hn
  clear hs hl hi
  go_enter Tryd.func23, Tryd.ntmps23
  go_wp2
  go_loop [1] (fun j => ∃ k : Nat, k ≤ s.size ∧ j = .int .i64 k ∧ Hid (S.dSkip (l.drop k) k = R)) (fun j => s.size - (intOf j).toNat)
  case atStart => exact ⟨i, hi0, rfl, hR⟩
  case round =>
    clear hR hi0
    obtain ⟨k, hk, rfl, hR⟩ := hrel
    by_cases hlt : k < s.size
    · have hll : k < l.length := by rw [← hn.out]; exact hlt
      have hb : s[k]'hlt = l.getD k 0 := hat.out k hlt
      have ed := drop_cons l k hll
      obtain ⟨b, hb2⟩ : ∃ b, l.getD k 0 = b := ⟨_, rfl⟩
      rw [hb2] at hb ed
      have qw := hide (fun W => rWhite_calls W b)
      have hR1 := hR.out
      rw [ed] at hR1
      cases hw : S.white b with
      | true =>
        rw [hw] at qw
        rw [dSkip_white hw] at hR1
        have hR2 := hide hR1
        clear hR ed hb2 hw hR1
        go_wp2_with (go_at_call 39; refine (qw.out _).mono ?_; rintro e w1 ⟨rfl, rfl⟩)
        go_round
        case rel => exact ⟨k + 1, by omega, by go_num, hR2⟩
        case measure => simp [intOf]; omega
      | false =>
        rw [hw] at qw
        by_cases c59 : b = 59
        · subst c59
          rw [dSkip_com] at hR1
          have hR2 : Hid (comR (S.dCom (l.drop k) k) = R) := by
            rw [ed, dCom_semi]
            exact hR1
          clear hR ed hw hR1
          go_wp2_with (go_at_call 39; refine (qw.out _).mono ?_; rintro e w1 ⟨rfl, rfl⟩)
          go_loop [1] (fun j => ∃ m : Nat, k ≤ m ∧ m ≤ s.size ∧ j = .int .i64 m ∧ Hid (comR (S.dCom (l.drop m) m) = R)) (fun j => s.size - (intOf j).toNat)
          case atStart => exact ⟨k, by omega, by omega, rfl, hR2⟩
          case round =>
            clear hR2
            obtain ⟨m, hm1, hm2, rfl, hR⟩ := hrel
            by_cases hlt2 : m < s.size
            · have hll2 : m < l.length := by rw [← hn.out]; exact hlt2
              have hd : s[m]'hlt2 = l.getD m 0 := hat.out m hlt2
              have ed2 := drop_cons l m hll2
              obtain ⟨d, hd2⟩ : ∃ d, l.getD m 0 = d := ⟨_, rfl⟩
              rw [hd2] at hd ed2
              have hR3 := hR.out
              rw [ed2] at hR3
              by_cases c10 : d = 10
              · subst c10
                rw [dCom_end (by decide)] at hR3
                have hR4 : Hid (S.dSkip (l.drop m) m = R) := by rw [ed2]; exact hR3
                have hne : k ≠ m := by rintro rfl; rw [hb2] at hd2; cases hd2
                clear hR3 ed2 hd2 hR
                go_wp2
                go_round
                case rel => exact ⟨m, by omega, by go_num, hR4⟩
                case measure => simp [intOf]; omega
              by_cases c13 : d = 13
              · subst c13
                rw [dCom_end (by decide)] at hR3
                have hR4 : Hid (S.dSkip (l.drop m) m = R) := by rw [ed2]; exact hR3
                have hne : k ≠ m := by rintro rfl; rw [hb2] at hd2; cases hd2
                clear hR3 ed2 hd2 hR
                go_wp2
                go_round
                case rel => exact ⟨m, by omega, by go_num, hR4⟩
                case measure => simp [intOf]; omega
              have n10 : ¬ (d.toNat : Int) = 10 := ne_byte (by decide) c10
              have n13 : ¬ (d.toNat : Int) = 13 := ne_byte (by decide) c13
              have m10 : ((d.toNat : Int) != 10) = true := by simpa using n10
              have m13 : ((d.toNat : Int) != 13) = true := by simpa using n13
              have qt := hide (fun W => rControl_calls W d)
              cases hct : S.ctl d with
              | true =>
                rw [hct] at qt
                rw [dCom_ctl c10 c13 hct] at hR3
                have e1 : Hid (skR R = (10, m)) := by rw [← hR3]; rfl
                clear hR3 ed2 hd2 hR hct c10 c13
                go_wp2_with (go_at_call 40; refine (qt.out _).mono ?_; rintro e w2 ⟨rfl, rfl⟩)
                go_ret2
                exact ⟨by rw [e1.out]; rfl, rfl⟩
              | false =>
                rw [hct] at qt
                have qd := qc.out w1 m hll2
                rw [ed2] at qd
                obtain ⟨n, hnn⟩ : ∃ n, S.chr (d :: l.drop (m + 1)) = n := ⟨_, rfl⟩
                rw [hnn] at qd
                by_cases h0 : n = 0
                · subst h0
                  rw [dCom_bad c10 c13 hct hnn] at hR3
                  have e1 : Hid (skR R = (11, m)) := by rw [← hR3]; rfl
                  replace qd := hide qd
                  clear hR3 ed2 hd2 hR hct c10 c13 hnn
                  go_wp2_with (first
                    | (go_at_call 40; refine (qt.out _).mono ?_; rintro e w2 ⟨rfl, rfl⟩)
                    | (go_at_call 41; refine qd.out.mono ?_; rintro e w2 ⟨rfl, rfl⟩))
                  go_ret2
                  exact ⟨by rw [e1.out]; rfl, rfl⟩
                · rw [dCom_step c10 c13 hct (by rw [hnn]; exact h0)] at hR3
                  have hle := chr_pos_le (b := d) (t := l.drop (m + 1)) (by rw [hnn]; exact h0)
                  rw [hnn] at hR3 hle
                  rw [← ed2, List.drop_drop] at hR3
                  rw [List.length_drop] at hle
                  have hR4 := hide hR3
                  have h01 : ¬ (n : Int) = 0 := by omega
                  have hmn : m + n ≤ s.size := by have := hn.out; omega
                  have hn1 : 1 ≤ n := hle.1
                  replace qd := hide qd
                  clear hR3 ed2 hd2 hR hct c10 c13 hnn hle
                  go_wp2_with (first
                    | (go_at_call 40; refine (qt.out _).mono ?_; rintro e w2 ⟨rfl, rfl⟩)
                    | (go_at_call 41; refine qd.out.mono ?_; rintro e w2 ⟨rfl, rfl⟩))
                  go_round
                  case rel => exact ⟨m + n, by omega, by omega, by go_num, hR4⟩
                  case measure => simp [intOf]; omega
            · have hm3 : m = l.length := by have := hn.out; omega
              have hR4 : Hid (S.dSkip (l.drop m) m = R) := by
                have h := hR.out
                rw [hm3, List.drop_length, S.dCom] at h
                rw [hm3, List.drop_length]
                exact h
              clear hR
              go_wp2
              go_round
              case rel => exact ⟨m, by omega, by go_num, hR4⟩
              case measure => simp [intOf]; omega
        · have n59 : ¬ (b.toNat : Int) = 59 := ne_byte (by decide) c59
          rw [dSkip_here hw c59] at hR1
          have e1 : Hid (skR R = (0, k)) := by rw [← hR1]; rfl
          clear hR ed hb2 hw hR1 c59
          go_wp2_with (go_at_call 39; refine (qw.out _).mono ?_; rintro e w1 ⟨rfl, rfl⟩)
          go_ret2
          exact ⟨by rw [e1.out]; rfl, rfl⟩
    · have hk2 : k = l.length := by have := hn.out; omega
      have e1 : Hid (skR R = (0, k)) := by
        rw [← hR.out, hk2, List.drop_length, S.dSkip]
        rfl
      clear hR hk2
      go_wp2
      go_ret2
      exact ⟨by rw [e1.out]; rfl, rfl⟩
end Go.Proofs.YtjbalgjdcdmjjaaDoor
