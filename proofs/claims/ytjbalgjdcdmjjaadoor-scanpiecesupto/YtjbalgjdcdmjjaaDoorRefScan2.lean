/-
  The document's side of scan: runs of bytes, characters.
-/
import Derived.Test.YtjbalgjdcdmjjaaDoorRefScan1
namespace Go.Proofs.YtjbalgjdcdmjjaaDoor
open Go.RowKit
set_option linter.unusedVariables false
theorem front_cons_pos {p : UInt8 → Bool} {b : UInt8} {t : List UInt8} (h : p b = true) : S.front p (b :: t) = b :: S.front p t := by simp [S.front, h]
theorem front_cons_neg {p : UInt8 → Bool} {b : UInt8} {t : List UInt8} (h : p b = false) : S.front p (b :: t) = [] := by simp [S.front, h]
set_option maxRecDepth 100000 in
theorem symEnd_calls (w : World) (s : ByteArray) (l : List UInt8) (hs : s.data.toList = l) (hl : l.length ≤ 1073741824) (i : Nat) (hi : i ≤ l.length) :
    Calls Tryd.prog 47 #[.string s, .int .i64 i] w fun e w' => e = .returned (.int .i64 ((i + (S.front S.sym (l.drop i)).length : Nat) : Int)) ∧ w' = w := by
  have hn := size_of s l hs
  have hz : s.size ≤ 1073741824 := by omega
  have hat := hide (fun (k : Nat) (h : k < s.size) => byteAt s l hs k h)
  have hi0 : i ≤ s.size := by omega
  obtain ⟨R, hR⟩ : ∃ R, i + (S.front S.sym (l.drop i)).length = R := ⟨_, rfl⟩
  rw [hR]
  replace hR := hide hR
  replace hn := hide hn
  clear hs hl hi
  go_enter Tryd.func47, Tryd.ntmps47
  go_wp2
  go_loop [1] (fun j => ∃ k : Nat, k ≤ s.size ∧ j = .int .i64 k ∧ Hid (k + (S.front S.sym (l.drop k)).length = R)) (fun j => s.size - (intOf j).toNat)
  case atStart => exact ⟨i, hi0, rfl, hR⟩
  case round =>
    clear hR hi0
    obtain ⟨k, hk, rfl, hR⟩ := hrel
    by_cases hlt : k < s.size
    · have hll : k < l.length := by rw [← hn.out]; exact hlt
      have hb : s[k]'hlt = l.getD k 0 := hat.out k hlt
      have ed := drop_cons l k hll
      obtain ⟨b, hb2⟩ : ∃ b, l.getD k 0 = b := ⟨_, rfl⟩
      rw [hb2] at hb ed
      have q := hide (fun W => rSym_calls W b)
      cases hp : S.sym b with
      | true =>
        rw [hp] at q
        have hR2 : Hid (k + 1 + (S.front S.sym (l.drop (k + 1))).length = R) := by
          have := hR.out
          rw [ed, front_cons_pos hp] at this
          simp only [List.length_cons] at this
          simp only [Hid]
          omega
        clear hR ed hb2 hp
        go_wp2_with (go_at_call 48; refine (q.out _).mono ?_; rintro e w1 ⟨rfl, rfl⟩)
        go_round
        case rel => exact ⟨k + 1, by omega, by go_num, hR2⟩
        case measure => simp [intOf]; omega
      | false =>
        rw [hp] at q
        have hR2 : Hid (k = R) := by
          have := hR.out
          rw [ed, front_cons_neg hp] at this
          exact this
        clear hR ed hb2 hp
        go_wp2_with (go_at_call 48; refine (q.out _).mono ?_; rintro e w1 ⟨rfl, rfl⟩)
        go_ret
        exact ⟨ret_int (a := (k : Int)) (by rw [hR2.out]), rfl⟩
    · have hR2 : Hid (k = R) := by
        have := hR.out
        have hk2 : k = l.length := by have := hn.out; omega
        rw [hk2, List.drop_length] at this
        rw [hk2]
        exact this
      clear hR
      go_wp2
      go_ret
      exact ⟨ret_int (a := (k : Int)) (by rw [hR2.out]), rfl⟩
set_option maxRecDepth 100000 in
theorem digEnd_calls (w : World) (s : ByteArray) (l : List UInt8) (hs : s.data.toList = l) (hl : l.length ≤ 1073741824) (i : Nat) (hi : i ≤ l.length) :
    Calls Tryd.prog 59 #[.string s, .int .i64 i] w fun e w' => e = .returned (.int .i64 ((i + (S.front S.dig (l.drop i)).length : Nat) : Int)) ∧ w' = w := by
  have hn := size_of s l hs
  have hz : s.size ≤ 1073741824 := by omega
  have hat := hide (fun (k : Nat) (h : k < s.size) => byteAt s l hs k h)
  have hi0 : i ≤ s.size := by omega
  obtain ⟨R, hR⟩ : ∃ R, i + (S.front S.dig (l.drop i)).length = R := ⟨_, rfl⟩
  rw [hR]
  replace hR := hide hR
  replace hn := hide hn
  clear hs hl hi
  go_enter Tryd.func59, Tryd.ntmps59
  go_wp2
  go_loop [1] (fun j => ∃ k : Nat, k ≤ s.size ∧ j = .int .i64 k ∧ Hid (k + (S.front S.dig (l.drop k)).length = R)) (fun j => s.size - (intOf j).toNat)
  case atStart => exact ⟨i, hi0, rfl, hR⟩
  case round =>
    clear hR hi0
    obtain ⟨k, hk, rfl, hR⟩ := hrel
    by_cases hlt : k < s.size
    · have hll : k < l.length := by rw [← hn.out]; exact hlt
      have hb : s[k]'hlt = l.getD k 0 := hat.out k hlt
      have ed := drop_cons l k hll
      obtain ⟨b, hb2⟩ : ∃ b, l.getD k 0 = b := ⟨_, rfl⟩
      rw [hb2] at hb ed
      have q := hide (fun W => rDigit_calls W b)
      cases hp : S.dig b with
      | true =>
        rw [hp] at q
        have hR2 : Hid (k + 1 + (S.front S.dig (l.drop (k + 1))).length = R) := by
          have := hR.out
          rw [ed, front_cons_pos hp] at this
          simp only [List.length_cons] at this
          simp only [Hid]
          omega
        clear hR ed hb2 hp
        go_wp2_with (go_at_call 45; refine (q.out _).mono ?_; rintro e w1 ⟨rfl, rfl⟩)
        go_round
        case rel => exact ⟨k + 1, by omega, by go_num, hR2⟩
        case measure => simp [intOf]; omega
      | false =>
        rw [hp] at q
        have hR2 : Hid (k = R) := by
          have := hR.out
          rw [ed, front_cons_neg hp] at this
          exact this
        clear hR ed hb2 hp
        go_wp2_with (go_at_call 45; refine (q.out _).mono ?_; rintro e w1 ⟨rfl, rfl⟩)
        go_ret
        exact ⟨ret_int (a := (k : Int)) (by rw [hR2.out]), rfl⟩
    · have hR2 : Hid (k = R) := by
        have := hR.out
        have hk2 : k = l.length := by have := hn.out; omega
        rw [hk2, List.drop_length] at this
        rw [hk2]
        exact this
      clear hR
      go_wp2
      go_ret
      exact ⟨ret_int (a := (k : Int)) (by rw [hR2.out]), rfl⟩
theorem follow_cases (b : UInt8) (h : 128 ≤ b.toNat) : ((S.follow b = (0, 0, 0)) ∧ (b.toNat < 194 ∨ 244 < b.toNat)) ∨ (S.follow b = (1, 128, 191) ∧ 194 ≤ b.toNat ∧ b.toNat ≤ 223) ∨ (S.follow b = (2, 160, 191) ∧ b.toNat = 224) ∨ (S.follow b = (2, 128, 159) ∧ b.toNat = 237) ∨
    (S.follow b = (2, 128, 191) ∧ 225 ≤ b.toNat ∧ b.toNat ≤ 239 ∧ b.toNat ≠ 237) ∨ (S.follow b = (3, 144, 191) ∧ b.toNat = 240) ∨ (S.follow b = (3, 128, 143) ∧ b.toNat = 244) ∨ (S.follow b = (3, 128, 191) ∧ 241 ≤ b.toNat ∧ b.toNat ≤ 243) := by
  unfold S.follow
  generalize b.toNat = n at *
  by_cases c1 : n < 194 ∨ 244 < n
  · rw [if_pos c1]; exact .inl ⟨rfl, c1⟩
  rw [if_neg c1]
  by_cases c2 : n < 224
  · rw [if_pos c2]; exact .inr (.inl ⟨rfl, by omega, by omega⟩)
  rw [if_neg c2]
  by_cases c3 : n = 224
  · rw [if_pos c3]; exact .inr (.inr (.inl ⟨rfl, c3⟩))
  rw [if_neg c3]
  by_cases c4 : n = 237
  · rw [if_pos c4]; exact .inr (.inr (.inr (.inl ⟨rfl, c4⟩)))
  rw [if_neg c4]
  by_cases c5 : n < 240
  · rw [if_pos c5]; exact .inr (.inr (.inr (.inr (.inl ⟨rfl, by omega, by omega, c4⟩))))
  rw [if_neg c5]
  by_cases c6 : n = 240
  · rw [if_pos c6]; exact .inr (.inr (.inr (.inr (.inr (.inl ⟨rfl, c6⟩)))))
  rw [if_neg c6]
  by_cases c7 : n = 244
  · rw [if_pos c7]; exact .inr (.inr (.inr (.inr (.inr (.inr (.inl ⟨rfl, c7⟩))))))
  rw [if_neg c7]
  exact .inr (.inr (.inr (.inr (.inr (.inr (.inr ⟨rfl, by omega, by omega⟩))))))
end Go.Proofs.YtjbalgjdcdmjjaaDoor
