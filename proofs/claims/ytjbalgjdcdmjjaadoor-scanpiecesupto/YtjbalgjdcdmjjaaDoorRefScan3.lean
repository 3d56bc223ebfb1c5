/-
  The document's side of scan: characters.
-/
import Derived.Test.YtjbalgjdcdmjjaaDoorRefScan2
namespace Go.Proofs.YtjbalgjdcdmjjaaDoor
open Go.RowKit
set_option linter.unusedVariables false
theorem okTail_step (n lo hi : Nat) (c : UInt8) (r : List UInt8) : S.okTail (n + 1) lo hi (c :: r) = (decide (lo ≤ c.toNat ∧ c.toNat ≤ hi) && S.okTail n 0x80 0xBF r) := by
  rw [S.okTail]
theorem okTail_short {n lo hi : Nat} {t : List UInt8} (h : t.length < n) : S.okTail n lo hi t = false := by
  rw [Bool.eq_false_iff]
  intro e
  have := S.okTail_len n lo hi t e
  omega
theorem chr_high' {b : UInt8} {t : List UInt8} (h : 128 ≤ b.toNat) {n lo hi : Nat} (hf : S.follow b = (n, lo, hi)) (hn : n ≠ 0) : S.chr (b :: t) = if S.okTail n lo hi t then n + 1 else 0 := by
  simp only [S.chr]
  rw [if_neg (by omega), hf]
  simp only
  rw [if_neg hn]
theorem chr_none {b : UInt8} {t : List UInt8} (h : 128 ≤ b.toNat) {lo hi : Nat} (hf : S.follow b = (0, lo, hi)) : S.chr (b :: t) = 0 := by
  simp only [S.chr]
  rw [if_neg (by omega), hf]
  simp
theorem chr_low {b : UInt8} {t : List UInt8} (h : b.toNat < 128) : S.chr (b :: t) = 1 := by
  simp only [S.chr]
  rw [if_pos h]
set_option maxRecDepth 100000 in
set_option maxHeartbeats 1600000 in
theorem char_a (w : World) (s : ByteArray) (l : List UInt8) (hs : s.data.toList = l) (hl : l.length ≤ 1073741824) (i : Nat) (hi : i < l.length) (b : UInt8) (hb0 : l.getD i 0 = b) (hx : 194 ≤ b.toNat ∧ b.toNat ≤ 223) (hf : S.follow b = (1, 128, 191)) :
    Calls Tryd.prog 41 #[.string s, .int .i64 i] w fun e w' => e = .returned (.int .i64 (S.chr (l.drop i))) ∧ w' = w := by
  have hn := size_of s l hs
  have hz : s.size ≤ 1073741824 := by omega
  have hat := hide (fun (k : Nat) (h : k < s.size) => byteAt s l hs k h)
  have hi0 : i < s.size := by omega
  have hb : s[i]'hi0 = b := by rw [← hb0]; exact hat.out i hi0
  have hge : 128 ≤ b.toNat := by omega
  have ec : S.chr (l.drop i) = if S.okTail 1 128 191 (l.drop (i + 1)) then 2 else 0 := by rw [drop_cons l i hi, hb0]; exact chr_high' hge hf (by decide)
  rw [ec]
  clear ec
  have i0 : ¬ (b.toNat : Int) < 128 := by omega
  have j0 : (194 : Int) ≤ b.toNat := by omega
  have j1 : (b.toNat : Int) ≤ 223 := by omega
  clear hge
  have ew : IntKind.i64.wrap ((i : Int) + 2) = ((i + 2 : Nat) : Int) := by rw [IntKind.wrap_i64]; omega
  replace hn := hide hn
  by_cases hsh : s.size < i + 2
  · rw [okTail_short (by rw [List.length_drop, ← hn.out]; omega)]
    have hsh1 : (s.size : Int) < (i : Int) + 2 := by omega
    go_enter Tryd.func41, Tryd.ntmps41
    go_wp2
    go_ret
    exact ⟨rfl, rfl⟩
  have hsh1 : ¬ (s.size : Int) < (i : Int) + 2 := by omega
  have h1 : i + 1 < s.size := by omega
  have hb1 : s[i + 1]'h1 = l.getD (i + 1) 0 := hat.out (i + 1) h1
  obtain ⟨c, hc⟩ : ∃ c, l.getD (i + 1) 0 = c := ⟨_, rfl⟩
  have ed : l.drop (i + 1) = c :: l.drop (i + 2) := by rw [← hc]; exact drop_cons l (i + 1) (by rw [← hn.out]; exact h1)
  rw [hc] at hb1
  rw [ed, okTail_step]
  have ei : (i : Int) + 1 < s.size := by omega
  clear hc ed hf hb0
  by_cases k1 : c.toNat < 128
  · rw [decide_eq_false (by omega), Bool.false_and]
    have k1' : (c.toNat : Int) < 128 := by omega
    go_enter Tryd.func41, Tryd.ntmps41
    go_wp2
    go_ret
    exact ⟨rfl, rfl⟩
  have k1' : ¬ (c.toNat : Int) < 128 := by omega
  by_cases k2 : 191 < c.toNat
  · rw [decide_eq_false (by omega), Bool.false_and]
    have k2' : (191 : Int) < c.toNat := by omega
    go_enter Tryd.func41, Tryd.ntmps41
    go_wp2
    go_ret
    exact ⟨rfl, rfl⟩
  have k2' : ¬ (191 : Int) < c.toNat := by omega
  rw [decide_eq_true ⟨by omega, by omega⟩, Bool.true_and]
  obtain ⟨R, hR⟩ : ∃ R, S.okTail 0 0x80 0xBF (l.drop (i + 2)) = R := ⟨_, rfl⟩
  rw [hR]
  replace hR := hide hR
  obtain ⟨V, hV⟩ : ∃ V : Nat, (if R = true then 2 else 0) = V := ⟨_, rfl⟩
  rw [hV]
  replace hV := hide hV
  go_enter Tryd.func41, Tryd.ntmps41
  go_wp2
  go_loop [9] (fun j => ∃ k : Nat, 2 ≤ k ∧ k ≤ 2 ∧ j = .int .i64 k ∧ Hid (S.okTail (2 - k) 0x80 0xBF (l.drop (i + k)) = R)) (fun j => 2 - (intOf j).toNat)
  case atStart => exact ⟨2, by omega, by omega, rfl, hR⟩
  case round =>
    clear hR
    obtain ⟨k, hk1, hk2, rfl, hR⟩ := hrel
    by_cases hlt : k < 2
    · exact absurd hlt (by omega)
    · have hlt' : ¬ (k : Int) < 2 := by omega
      have hV2 : Hid (V = 2) := by
        have h := hR.out
        rw [show 2 - k = 0 from by omega] at h
        rw [← hV.out, ← h]
        rfl
      clear hR
      go_wp2
      go_ret
      exact ⟨ret_int (a := 2) (by rw [hV2.out]; rfl), rfl⟩
set_option maxRecDepth 100000 in
set_option maxHeartbeats 1600000 in
theorem char_b (w : World) (s : ByteArray) (l : List UInt8) (hs : s.data.toList = l) (hl : l.length ≤ 1073741824) (i : Nat) (hi : i < l.length) (b : UInt8) (hb0 : l.getD i 0 = b) (hx : b.toNat = 224) (hf : S.follow b = (2, 160, 191)) :
    Calls Tryd.prog 41 #[.string s, .int .i64 i] w fun e w' => e = .returned (.int .i64 (S.chr (l.drop i))) ∧ w' = w := by
  have hn := size_of s l hs
  have hz : s.size ≤ 1073741824 := by omega
  have hat := hide (fun (k : Nat) (h : k < s.size) => byteAt s l hs k h)
  have hi0 : i < s.size := by omega
  have hb : s[i]'hi0 = b := by rw [← hb0]; exact hat.out i hi0
  have hge : 128 ≤ b.toNat := by omega
  have ec : S.chr (l.drop i) = if S.okTail 2 160 191 (l.drop (i + 1)) then 3 else 0 := by rw [drop_cons l i hi, hb0]; exact chr_high' hge hf (by decide)
  rw [ec]
  clear ec
  have i0 : ¬ (b.toNat : Int) < 128 := by omega
  have j0 : (b.toNat : Int) = 224 := by omega
  clear hge
  have ew : IntKind.i64.wrap ((i : Int) + 3) = ((i + 3 : Nat) : Int) := by rw [IntKind.wrap_i64]; omega
  replace hn := hide hn
  by_cases hsh : s.size < i + 3
  · rw [okTail_short (by rw [List.length_drop, ← hn.out]; omega)]
    have hsh1 : (s.size : Int) < (i : Int) + 3 := by omega
    go_enter Tryd.func41, Tryd.ntmps41
    go_wp2
    go_ret
    exact ⟨rfl, rfl⟩
  have hsh1 : ¬ (s.size : Int) < (i : Int) + 3 := by omega
  have h1 : i + 1 < s.size := by omega
  have hb1 : s[i + 1]'h1 = l.getD (i + 1) 0 := hat.out (i + 1) h1
  obtain ⟨c, hc⟩ : ∃ c, l.getD (i + 1) 0 = c := ⟨_, rfl⟩
  have ed : l.drop (i + 1) = c :: l.drop (i + 2) := by rw [← hc]; exact drop_cons l (i + 1) (by rw [← hn.out]; exact h1)
  rw [hc] at hb1
  rw [ed, okTail_step]
  have ei : (i : Int) + 1 < s.size := by omega
  clear hc ed hf hb0
  by_cases k1 : c.toNat < 160
  · rw [decide_eq_false (by omega), Bool.false_and]
    have k1' : (c.toNat : Int) < 160 := by omega
    go_enter Tryd.func41, Tryd.ntmps41
    go_wp2
    go_ret
    exact ⟨rfl, rfl⟩
  have k1' : ¬ (c.toNat : Int) < 160 := by omega
  by_cases k2 : 191 < c.toNat
  · rw [decide_eq_false (by omega), Bool.false_and]
    have k2' : (191 : Int) < c.toNat := by omega
    go_enter Tryd.func41, Tryd.ntmps41
    go_wp2
    go_ret
    exact ⟨rfl, rfl⟩
  have k2' : ¬ (191 : Int) < c.toNat := by omega
  rw [decide_eq_true ⟨by omega, by omega⟩, Bool.true_and]
  obtain ⟨R, hR⟩ : ∃ R, S.okTail 1 0x80 0xBF (l.drop (i + 2)) = R := ⟨_, rfl⟩
  rw [hR]
  replace hR := hide hR
  obtain ⟨V, hV⟩ : ∃ V : Nat, (if R = true then 3 else 0) = V := ⟨_, rfl⟩
  rw [hV]
  replace hV := hide hV
  go_enter Tryd.func41, Tryd.ntmps41
  go_wp2
  go_loop [9] (fun j => ∃ k : Nat, 2 ≤ k ∧ k ≤ 3 ∧ j = .int .i64 k ∧ Hid (S.okTail (3 - k) 0x80 0xBF (l.drop (i + k)) = R)) (fun j => 3 - (intOf j).toNat)
  case atStart => exact ⟨2, by omega, by omega, rfl, hR⟩
  case round =>
    clear hR
    obtain ⟨k, hk1, hk2, rfl, hR⟩ := hrel
    by_cases hlt : k < 3
    · have hlt' : (k : Int) < 3 := by omega
      have h2 : i + k < s.size := by omega
      have hb2 : s[i + k]'h2 = l.getD (i + k) 0 := hat.out (i + k) h2
      obtain ⟨d, hd⟩ : ∃ d, l.getD (i + k) 0 = d := ⟨_, rfl⟩
      have ed := drop_cons l (i + k) (by rw [← hn.out]; exact h2)
      rw [hd] at hb2 ed
      have hR2 := hR.out
      rw [ed, show 3 - k = (3 - (k + 1)) + 1 from by omega, okTail_step] at hR2
      clear hR ed hd
      have ei2 : (i : Int) + k < s.size := by omega
      have ew2 : IntKind.i64.wrap ((i : Int) + k) = (i : Int) + k := by rw [IntKind.wrap_i64]; omega
      by_cases m1 : d.toNat < 128
      · rw [decide_eq_false (by omega), Bool.false_and] at hR2
        have m1' : (d.toNat : Int) < 128 := by omega
        have hV2 : Hid (V = 0) := by rw [← hV.out, ← hR2]; rfl
        clear hR2
        go_wp2
        go_ret
        exact ⟨ret_int (a := 0) (by rw [hV2.out]; rfl), rfl⟩
      have m1' : ¬ (d.toNat : Int) < 128 := by omega
      by_cases m2 : 191 < d.toNat
      · rw [decide_eq_false (by omega), Bool.false_and] at hR2
        have m2' : (191 : Int) < d.toNat := by omega
        have hV2 : Hid (V = 0) := by rw [← hV.out, ← hR2]; rfl
        clear hR2
        go_wp2
        go_ret
        exact ⟨ret_int (a := 0) (by rw [hV2.out]; rfl), rfl⟩
      have m2' : ¬ (191 : Int) < d.toNat := by omega
      rw [decide_eq_true ⟨by omega, by omega⟩, Bool.true_and] at hR2
      have hR3 : Hid (S.okTail (3 - (k + 1)) 0x80 0xBF (l.drop (i + (k + 1))) = R) := hR2
      clear hR2
      go_wp2
      go_round
      case rel => exact ⟨k + 1, by omega, by omega, by go_num, hR3⟩
      case measure => simp [intOf]; omega
    · have hlt' : ¬ (k : Int) < 3 := by omega
      have hV2 : Hid (V = 3) := by
        have h := hR.out
        rw [show 3 - k = 0 from by omega] at h
        rw [← hV.out, ← h]
        rfl
      clear hR
      go_wp2
      go_ret
      exact ⟨ret_int (a := 3) (by rw [hV2.out]; rfl), rfl⟩
set_option maxRecDepth 100000 in
set_option maxHeartbeats 1600000 in
theorem char_c (w : World) (s : ByteArray) (l : List UInt8) (hs : s.data.toList = l) (hl : l.length ≤ 1073741824) (i : Nat) (hi : i < l.length) (b : UInt8) (hb0 : l.getD i 0 = b) (hx : b.toNat = 237) (hf : S.follow b = (2, 128, 159)) :
    Calls Tryd.prog 41 #[.string s, .int .i64 i] w fun e w' => e = .returned (.int .i64 (S.chr (l.drop i))) ∧ w' = w := by
  have hn := size_of s l hs
  have hz : s.size ≤ 1073741824 := by omega
  have hat := hide (fun (k : Nat) (h : k < s.size) => byteAt s l hs k h)
  have hi0 : i < s.size := by omega
  have hb : s[i]'hi0 = b := by rw [← hb0]; exact hat.out i hi0
  have hge : 128 ≤ b.toNat := by omega
  have ec : S.chr (l.drop i) = if S.okTail 2 128 159 (l.drop (i + 1)) then 3 else 0 := by rw [drop_cons l i hi, hb0]; exact chr_high' hge hf (by decide)
  rw [ec]
  clear ec
  have i0 : ¬ (b.toNat : Int) < 128 := by omega
  have j0 : (b.toNat : Int) = 237 := by omega
  clear hge
  have ew : IntKind.i64.wrap ((i : Int) + 3) = ((i + 3 : Nat) : Int) := by rw [IntKind.wrap_i64]; omega
  replace hn := hide hn
  by_cases hsh : s.size < i + 3
  · rw [okTail_short (by rw [List.length_drop, ← hn.out]; omega)]
    have hsh1 : (s.size : Int) < (i : Int) + 3 := by omega
    go_enter Tryd.func41, Tryd.ntmps41
    go_wp2
    go_ret
    exact ⟨rfl, rfl⟩
  have hsh1 : ¬ (s.size : Int) < (i : Int) + 3 := by omega
  have h1 : i + 1 < s.size := by omega
  have hb1 : s[i + 1]'h1 = l.getD (i + 1) 0 := hat.out (i + 1) h1
  obtain ⟨c, hc⟩ : ∃ c, l.getD (i + 1) 0 = c := ⟨_, rfl⟩
  have ed : l.drop (i + 1) = c :: l.drop (i + 2) := by rw [← hc]; exact drop_cons l (i + 1) (by rw [← hn.out]; exact h1)
  rw [hc] at hb1
  rw [ed, okTail_step]
  have ei : (i : Int) + 1 < s.size := by omega
  clear hc ed hf hb0
  by_cases k1 : c.toNat < 128
  · rw [decide_eq_false (by omega), Bool.false_and]
    have k1' : (c.toNat : Int) < 128 := by omega
    go_enter Tryd.func41, Tryd.ntmps41
    go_wp2
    go_ret
    exact ⟨rfl, rfl⟩
  have k1' : ¬ (c.toNat : Int) < 128 := by omega
  by_cases k2 : 159 < c.toNat
  · rw [decide_eq_false (by omega), Bool.false_and]
    have k2' : (159 : Int) < c.toNat := by omega
    go_enter Tryd.func41, Tryd.ntmps41
    go_wp2
    go_ret
    exact ⟨rfl, rfl⟩
  have k2' : ¬ (159 : Int) < c.toNat := by omega
  rw [decide_eq_true ⟨by omega, by omega⟩, Bool.true_and]
  obtain ⟨R, hR⟩ : ∃ R, S.okTail 1 0x80 0xBF (l.drop (i + 2)) = R := ⟨_, rfl⟩
  rw [hR]
  replace hR := hide hR
  obtain ⟨V, hV⟩ : ∃ V : Nat, (if R = true then 3 else 0) = V := ⟨_, rfl⟩
  rw [hV]
  replace hV := hide hV
  go_enter Tryd.func41, Tryd.ntmps41
  go_wp2
  go_loop [9] (fun j => ∃ k : Nat, 2 ≤ k ∧ k ≤ 3 ∧ j = .int .i64 k ∧ Hid (S.okTail (3 - k) 0x80 0xBF (l.drop (i + k)) = R)) (fun j => 3 - (intOf j).toNat)
  case atStart => exact ⟨2, by omega, by omega, rfl, hR⟩
  case round =>
    clear hR
    obtain ⟨k, hk1, hk2, rfl, hR⟩ := hrel
    by_cases hlt : k < 3
    · have hlt' : (k : Int) < 3 := by omega
      have h2 : i + k < s.size := by omega
      have hb2 : s[i + k]'h2 = l.getD (i + k) 0 := hat.out (i + k) h2
      obtain ⟨d, hd⟩ : ∃ d, l.getD (i + k) 0 = d := ⟨_, rfl⟩
      have ed := drop_cons l (i + k) (by rw [← hn.out]; exact h2)
      rw [hd] at hb2 ed
      have hR2 := hR.out
      rw [ed, show 3 - k = (3 - (k + 1)) + 1 from by omega, okTail_step] at hR2
      clear hR ed hd
      have ei2 : (i : Int) + k < s.size := by omega
      have ew2 : IntKind.i64.wrap ((i : Int) + k) = (i : Int) + k := by rw [IntKind.wrap_i64]; omega
      by_cases m1 : d.toNat < 128
      · rw [decide_eq_false (by omega), Bool.false_and] at hR2
        have m1' : (d.toNat : Int) < 128 := by omega
        have hV2 : Hid (V = 0) := by rw [← hV.out, ← hR2]; rfl
        clear hR2
        go_wp2
        go_ret
        exact ⟨ret_int (a := 0) (by rw [hV2.out]; rfl), rfl⟩
      have m1' : ¬ (d.toNat : Int) < 128 := by omega
      by_cases m2 : 191 < d.toNat
      · rw [decide_eq_false (by omega), Bool.false_and] at hR2
        have m2' : (191 : Int) < d.toNat := by omega
        have hV2 : Hid (V = 0) := by rw [← hV.out, ← hR2]; rfl
        clear hR2
        go_wp2
        go_ret
        exact ⟨ret_int (a := 0) (by rw [hV2.out]; rfl), rfl⟩
      have m2' : ¬ (191 : Int) < d.toNat := by omega
      rw [decide_eq_true ⟨by omega, by omega⟩, Bool.true_and] at hR2
      have hR3 : Hid (S.okTail (3 - (k + 1)) 0x80 0xBF (l.drop (i + (k + 1))) = R) := hR2
      clear hR2
      go_wp2
      go_round
      case rel => exact ⟨k + 1, by omega, by omega, by go_num, hR3⟩
      case measure => simp [intOf]; omega
    · have hlt' : ¬ (k : Int) < 3 := by omega
      have hV2 : Hid (V = 3) := by
        have h := hR.out
        rw [show 3 - k = 0 from by omega] at h
        rw [← hV.out, ← h]
        rfl
      clear hR
      go_wp2
      go_ret
      exact ⟨ret_int (a := 3) (by rw [hV2.out]; rfl), rfl⟩
set_option maxRecDepth 100000 in
set_option maxHeartbeats 1600000 in
theorem char_d (w : World) (s : ByteArray) (l : List UInt8) (hs : s.data.toList = l) (hl : l.length ≤ 1073741824) (i : Nat) (hi : i < l.length) (b : UInt8) (hb0 : l.getD i 0 = b) (hx : 225 ≤ b.toNat ∧ b.toNat ≤ 239 ∧ b.toNat ≠ 237) (hf : S.follow b = (2, 128, 191)) :
    Calls Tryd.prog 41 #[.string s, .int .i64 i] w fun e w' => e = .returned (.int .i64 (S.chr (l.drop i))) ∧ w' = w := by
  have hn := size_of s l hs
  have hz : s.size ≤ 1073741824 := by omega
  have hat := hide (fun (k : Nat) (h : k < s.size) => byteAt s l hs k h)
  have hi0 : i < s.size := by omega
  have hb : s[i]'hi0 = b := by rw [← hb0]; exact hat.out i hi0
  have hge : 128 ≤ b.toNat := by omega
  have ec : S.chr (l.drop i) = if S.okTail 2 128 191 (l.drop (i + 1)) then 3 else 0 := by rw [drop_cons l i hi, hb0]; exact chr_high' hge hf (by decide)
  rw [ec]
  clear ec
  have i0 : ¬ (b.toNat : Int) < 128 := by omega
  have j0 : (194 : Int) ≤ b.toNat := by omega
  have j1 : ¬ (b.toNat : Int) ≤ 223 := by omega
  have j2 : ¬ (b.toNat : Int) = 224 := by omega
  have j3 : ¬ (b.toNat : Int) = 237 := by omega
  have j4 : (225 : Int) ≤ b.toNat := by omega
  have j5 : (b.toNat : Int) ≤ 239 := by omega
  clear hge
  have ew : IntKind.i64.wrap ((i : Int) + 3) = ((i + 3 : Nat) : Int) := by rw [IntKind.wrap_i64]; omega
  replace hn := hide hn
  by_cases hsh : s.size < i + 3
  · rw [okTail_short (by rw [List.length_drop, ← hn.out]; omega)]
    have hsh1 : (s.size : Int) < (i : Int) + 3 := by omega
    go_enter Tryd.func41, Tryd.ntmps41
    go_wp2
    go_ret
    exact ⟨rfl, rfl⟩
  have hsh1 : ¬ (s.size : Int) < (i : Int) + 3 := by omega
  have h1 : i + 1 < s.size := by omega
  have hb1 : s[i + 1]'h1 = l.getD (i + 1) 0 := hat.out (i + 1) h1
  obtain ⟨c, hc⟩ : ∃ c, l.getD (i + 1) 0 = c := ⟨_, rfl⟩
  have ed : l.drop (i + 1) = c :: l.drop (i + 2) := by rw [← hc]; exact drop_cons l (i + 1) (by rw [← hn.out]; exact h1)
  rw [hc] at hb1
  rw [ed, okTail_step]
  have ei : (i : Int) + 1 < s.size := by omega
  clear hc ed hf hb0
  by_cases k1 : c.toNat < 128
  · rw [decide_eq_false (by omega), Bool.false_and]
    have k1' : (c.toNat : Int) < 128 := by omega
    go_enter Tryd.func41, Tryd.ntmps41
    go_wp2
    go_ret
    exact ⟨rfl, rfl⟩
  have k1' : ¬ (c.toNat : Int) < 128 := by omega
  by_cases k2 : 191 < c.toNat
  · rw [decide_eq_false (by omega), Bool.false_and]
    have k2' : (191 : Int) < c.toNat := by omega
    go_enter Tryd.func41, Tryd.ntmps41
    go_wp2
    go_ret
    exact ⟨rfl, rfl⟩
  have k2' : ¬ (191 : Int) < c.toNat := by omega
  rw [decide_eq_true ⟨by omega, by omega⟩, Bool.true_and]
  obtain ⟨R, hR⟩ : ∃ R, S.okTail 1 0x80 0xBF (l.drop (i + 2)) = R := ⟨_, rfl⟩
  rw [hR]
  replace hR := hide hR
  obtain ⟨V, hV⟩ : ∃ V : Nat, (if R = true then 3 else 0) = V := ⟨_, rfl⟩
  rw [hV]
  replace hV := hide hV
  go_enter Tryd.func41, Tryd.ntmps41
  go_wp2
  go_loop [9] (fun j => ∃ k : Nat, 2 ≤ k ∧ k ≤ 3 ∧ j = .int .i64 k ∧ Hid (S.okTail (3 - k) 0x80 0xBF (l.drop (i + k)) = R)) (fun j => 3 - (intOf j).toNat)
  case atStart => exact ⟨2, by omega, by omega, rfl, hR⟩
  case round =>
    clear hR
    obtain ⟨k, hk1, hk2, rfl, hR⟩ := hrel
    by_cases hlt : k < 3
    · have hlt' : (k : Int) < 3 := by omega
      have h2 : i + k < s.size := by omega
      have hb2 : s[i + k]'h2 = l.getD (i + k) 0 := hat.out (i + k) h2
      obtain ⟨d, hd⟩ : ∃ d, l.getD (i + k) 0 = d := ⟨_, rfl⟩
      have ed := drop_cons l (i + k) (by rw [← hn.out]; exact h2)
      rw [hd] at hb2 ed
      have hR2 := hR.out
      rw [ed, show 3 - k = (3 - (k + 1)) + 1 from by omega, okTail_step] at hR2
      clear hR ed hd
      have ei2 : (i : Int) + k < s.size := by omega
      have ew2 : IntKind.i64.wrap ((i : Int) + k) = (i : Int) + k := by rw [IntKind.wrap_i64]; omega
      by_cases m1 : d.toNat < 128
      · rw [decide_eq_false (by omega), Bool.false_and] at hR2
        have m1' : (d.toNat : Int) < 128 := by omega
        have hV2 : Hid (V = 0) := by rw [← hV.out, ← hR2]; rfl
        clear hR2
        go_wp2
        go_ret
        exact ⟨ret_int (a := 0) (by rw [hV2.out]; rfl), rfl⟩
      have m1' : ¬ (d.toNat : Int) < 128 := by omega
      by_cases m2 : 191 < d.toNat
      · rw [decide_eq_false (by omega), Bool.false_and] at hR2
        have m2' : (191 : Int) < d.toNat := by omega
        have hV2 : Hid (V = 0) := by rw [← hV.out, ← hR2]; rfl
        clear hR2
        go_wp2
        go_ret
        exact ⟨ret_int (a := 0) (by rw [hV2.out]; rfl), rfl⟩
      have m2' : ¬ (191 : Int) < d.toNat := by omega
      rw [decide_eq_true ⟨by omega, by omega⟩, Bool.true_and] at hR2
      have hR3 : Hid (S.okTail (3 - (k + 1)) 0x80 0xBF (l.drop (i + (k + 1))) = R) := hR2
      clear hR2
      go_wp2
      go_round
      case rel => exact ⟨k + 1, by omega, by omega, by go_num, hR3⟩
      case measure => simp [intOf]; omega
    · have hlt' : ¬ (k : Int) < 3 := by omega
      have hV2 : Hid (V = 3) := by
        have h := hR.out
        rw [show 3 - k = 0 from by omega] at h
        rw [← hV.out, ← h]
        rfl
      clear hR
      go_wp2
      go_ret
      exact ⟨ret_int (a := 3) (by rw [hV2.out]; rfl), rfl⟩
set_option maxRecDepth 100000 in
set_option maxHeartbeats 1600000 in
theorem char_e (w : World) (s : ByteArray) (l : List UInt8) (hs : s.data.toList = l) (hl : l.length ≤ 1073741824) (i : Nat) (hi : i < l.length) (b : UInt8) (hb0 : l.getD i 0 = b) (hx : b.toNat = 240) (hf : S.follow b = (3, 144, 191)) :
    Calls Tryd.prog 41 #[.string s, .int .i64 i] w fun e w' => e = .returned (.int .i64 (S.chr (l.drop i))) ∧ w' = w := by
  have hn := size_of s l hs
  have hz : s.size ≤ 1073741824 := by omega
  have hat := hide (fun (k : Nat) (h : k < s.size) => byteAt s l hs k h)
  have hi0 : i < s.size := by omega
  have hb : s[i]'hi0 = b := by rw [← hb0]; exact hat.out i hi0
  have hge : 128 ≤ b.toNat := by omega
  have ec : S.chr (l.drop i) = if S.okTail 3 144 191 (l.drop (i + 1)) then 4 else 0 := by rw [drop_cons l i hi, hb0]; exact chr_high' hge hf (by decide)
  rw [ec]
  clear ec
  have i0 : ¬ (b.toNat : Int) < 128 := by omega
  have j0 : (b.toNat : Int) = 240 := by omega
  clear hge
  have ew : IntKind.i64.wrap ((i : Int) + 4) = ((i + 4 : Nat) : Int) := by rw [IntKind.wrap_i64]; omega
  replace hn := hide hn
  by_cases hsh : s.size < i + 4
  · rw [okTail_short (by rw [List.length_drop, ← hn.out]; omega)]
    have hsh1 : (s.size : Int) < (i : Int) + 4 := by omega
    go_enter Tryd.func41, Tryd.ntmps41
    go_wp2
    go_ret
    exact ⟨rfl, rfl⟩
  have hsh1 : ¬ (s.size : Int) < (i : Int) + 4 := by omega
  have h1 : i + 1 < s.size := by omega
  have hb1 : s[i + 1]'h1 = l.getD (i + 1) 0 := hat.out (i + 1) h1
  obtain ⟨c, hc⟩ : ∃ c, l.getD (i + 1) 0 = c := ⟨_, rfl⟩
  have ed : l.drop (i + 1) = c :: l.drop (i + 2) := by rw [← hc]; exact drop_cons l (i + 1) (by rw [← hn.out]; exact h1)
  rw [hc] at hb1
  rw [ed, okTail_step]
  have ei : (i : Int) + 1 < s.size := by omega
  clear hc ed hf hb0
  by_cases k1 : c.toNat < 144
  · rw [decide_eq_false (by omega), Bool.false_and]
    have k1' : (c.toNat : Int) < 144 := by omega
    go_enter Tryd.func41, Tryd.ntmps41
    go_wp2
    go_ret
    exact ⟨rfl, rfl⟩
  have k1' : ¬ (c.toNat : Int) < 144 := by omega
  by_cases k2 : 191 < c.toNat
  · rw [decide_eq_false (by omega), Bool.false_and]
    have k2' : (191 : Int) < c.toNat := by omega
    go_enter Tryd.func41, Tryd.ntmps41
    go_wp2
    go_ret
    exact ⟨rfl, rfl⟩
  have k2' : ¬ (191 : Int) < c.toNat := by omega
  rw [decide_eq_true ⟨by omega, by omega⟩, Bool.true_and]
  obtain ⟨R, hR⟩ : ∃ R, S.okTail 2 0x80 0xBF (l.drop (i + 2)) = R := ⟨_, rfl⟩
  rw [hR]
  replace hR := hide hR
  obtain ⟨V, hV⟩ : ∃ V : Nat, (if R = true then 4 else 0) = V := ⟨_, rfl⟩
  rw [hV]
  replace hV := hide hV
  go_enter Tryd.func41, Tryd.ntmps41
  go_wp2
  go_loop [9] (fun j => ∃ k : Nat, 2 ≤ k ∧ k ≤ 4 ∧ j = .int .i64 k ∧ Hid (S.okTail (4 - k) 0x80 0xBF (l.drop (i + k)) = R)) (fun j => 4 - (intOf j).toNat)
  case atStart => exact ⟨2, by omega, by omega, rfl, hR⟩
  case round =>
    clear hR
    obtain ⟨k, hk1, hk2, rfl, hR⟩ := hrel
    by_cases hlt : k < 4
    · have hlt' : (k : Int) < 4 := by omega
      have h2 : i + k < s.size := by omega
      have hb2 : s[i + k]'h2 = l.getD (i + k) 0 := hat.out (i + k) h2
      obtain ⟨d, hd⟩ : ∃ d, l.getD (i + k) 0 = d := ⟨_, rfl⟩
      have ed := drop_cons l (i + k) (by rw [← hn.out]; exact h2)
      rw [hd] at hb2 ed
      have hR2 := hR.out
      rw [ed, show 4 - k = (4 - (k + 1)) + 1 from by omega, okTail_step] at hR2
      clear hR ed hd
      have ei2 : (i : Int) + k < s.size := by omega
      have ew2 : IntKind.i64.wrap ((i : Int) + k) = (i : Int) + k := by rw [IntKind.wrap_i64]; omega
      by_cases m1 : d.toNat < 128
      · rw [decide_eq_false (by omega), Bool.false_and] at hR2
        have m1' : (d.toNat : Int) < 128 := by omega
        have hV2 : Hid (V = 0) := by rw [← hV.out, ← hR2]; rfl
        clear hR2
        go_wp2
        go_ret
        exact ⟨ret_int (a := 0) (by rw [hV2.out]; rfl), rfl⟩
      have m1' : ¬ (d.toNat : Int) < 128 := by omega
      by_cases m2 : 191 < d.toNat
      · rw [decide_eq_false (by omega), Bool.false_and] at hR2
        have m2' : (191 : Int) < d.toNat := by omega
        have hV2 : Hid (V = 0) := by rw [← hV.out, ← hR2]; rfl
        clear hR2
        go_wp2
        go_ret
        exact ⟨ret_int (a := 0) (by rw [hV2.out]; rfl), rfl⟩
      have m2' : ¬ (191 : Int) < d.toNat := by omega
      rw [decide_eq_true ⟨by omega, by omega⟩, Bool.true_and] at hR2
      have hR3 : Hid (S.okTail (4 - (k + 1)) 0x80 0xBF (l.drop (i + (k + 1))) = R) := hR2
      clear hR2
      go_wp2
      go_round
      case rel => exact ⟨k + 1, by omega, by omega, by go_num, hR3⟩
      case measure => simp [intOf]; omega
    · have hlt' : ¬ (k : Int) < 4 := by omega
      have hV2 : Hid (V = 4) := by
        have h := hR.out
        rw [show 4 - k = 0 from by omega] at h
        rw [← hV.out, ← h]
        rfl
      clear hR
      go_wp2
      go_ret
      exact ⟨ret_int (a := 4) (by rw [hV2.out]; rfl), rfl⟩
set_option maxRecDepth 100000 in
set_option maxHeartbeats 1600000 in
theorem char_f (w : World) (s : ByteArray) (l : List UInt8) (hs : s.data.toList = l) (hl : l.length ≤ 1073741824) (i : Nat) (hi : i < l.length) (b : UInt8) (hb0 : l.getD i 0 = b) (hx : b.toNat = 244) (hf : S.follow b = (3, 128, 143)) :
    Calls Tryd.prog 41 #[.string s, .int .i64 i] w fun e w' => e = .returned (.int .i64 (S.chr (l.drop i))) ∧ w' = w := by
  have hn := size_of s l hs
  have hz : s.size ≤ 1073741824 := by omega
  have hat := hide (fun (k : Nat) (h : k < s.size) => byteAt s l hs k h)
  have hi0 : i < s.size := by omega
  have hb : s[i]'hi0 = b := by rw [← hb0]; exact hat.out i hi0
  have hge : 128 ≤ b.toNat := by omega
  have ec : S.chr (l.drop i) = if S.okTail 3 128 143 (l.drop (i + 1)) then 4 else 0 := by rw [drop_cons l i hi, hb0]; exact chr_high' hge hf (by decide)
  rw [ec]
  clear ec
  have i0 : ¬ (b.toNat : Int) < 128 := by omega
  have j0 : (b.toNat : Int) = 244 := by omega
  clear hge
  have ew : IntKind.i64.wrap ((i : Int) + 4) = ((i + 4 : Nat) : Int) := by rw [IntKind.wrap_i64]; omega
  replace hn := hide hn
  by_cases hsh : s.size < i + 4
  · rw [okTail_short (by rw [List.length_drop, ← hn.out]; omega)]
    have hsh1 : (s.size : Int) < (i : Int) + 4 := by omega
    go_enter Tryd.func41, Tryd.ntmps41
    go_wp2
    go_ret
    exact ⟨rfl, rfl⟩
  have hsh1 : ¬ (s.size : Int) < (i : Int) + 4 := by omega
  have h1 : i + 1 < s.size := by omega
  have hb1 : s[i + 1]'h1 = l.getD (i + 1) 0 := hat.out (i + 1) h1
  obtain ⟨c, hc⟩ : ∃ c, l.getD (i + 1) 0 = c := ⟨_, rfl⟩
  have ed : l.drop (i + 1) = c :: l.drop (i + 2) := by rw [← hc]; exact drop_cons l (i + 1) (by rw [← hn.out]; exact h1)
  rw [hc] at hb1
  rw [ed, okTail_step]
  have ei : (i : Int) + 1 < s.size := by omega
  clear hc ed hf hb0
  by_cases k1 : c.toNat < 128
  · rw [decide_eq_false (by omega), Bool.false_and]
    have k1' : (c.toNat : Int) < 128 := by omega
    go_enter Tryd.func41, Tryd.ntmps41
    go_wp2
    go_ret
    exact ⟨rfl, rfl⟩
  have k1' : ¬ (c.toNat : Int) < 128 := by omega
  by_cases k2 : 143 < c.toNat
  · rw [decide_eq_false (by omega), Bool.false_and]
    have k2' : (143 : Int) < c.toNat := by omega
    go_enter Tryd.func41, Tryd.ntmps41
    go_wp2
    go_ret
    exact ⟨rfl, rfl⟩
  have k2' : ¬ (143 : Int) < c.toNat := by omega
  rw [decide_eq_true ⟨by omega, by omega⟩, Bool.true_and]
  obtain ⟨R, hR⟩ : ∃ R, S.okTail 2 0x80 0xBF (l.drop (i + 2)) = R := ⟨_, rfl⟩
  rw [hR]
  replace hR := hide hR
  obtain ⟨V, hV⟩ : ∃ V : Nat, (if R = true then 4 else 0) = V := ⟨_, rfl⟩
  rw [hV]
  replace hV := hide hV
  go_enter Tryd.func41, Tryd.ntmps41
  go_wp2
  go_loop [9] (fun j => ∃ k : Nat, 2 ≤ k ∧ k ≤ 4 ∧ j = .int .i64 k ∧ Hid (S.okTail (4 - k) 0x80 0xBF (l.drop (i + k)) = R)) (fun j => 4 - (intOf j).toNat)
  case atStart => exact ⟨2, by omega, by omega, rfl, hR⟩
  case round =>
    clear hR
    obtain ⟨k, hk1, hk2, rfl, hR⟩ := hrel
    by_cases hlt : k < 4
    · have hlt' : (k : Int) < 4 := by omega
      have h2 : i + k < s.size := by omega
      have hb2 : s[i + k]'h2 = l.getD (i + k) 0 := hat.out (i + k) h2
      obtain ⟨d, hd⟩ : ∃ d, l.getD (i + k) 0 = d := ⟨_, rfl⟩
      have ed := drop_cons l (i + k) (by rw [← hn.out]; exact h2)
      rw [hd] at hb2 ed
      have hR2 := hR.out
      rw [ed, show 4 - k = (4 - (k + 1)) + 1 from by omega, okTail_step] at hR2
      clear hR ed hd
      have ei2 : (i : Int) + k < s.size := by omega
      have ew2 : IntKind.i64.wrap ((i : Int) + k) = (i : Int) + k := by rw [IntKind.wrap_i64]; omega
      by_cases m1 : d.toNat < 128
      · rw [decide_eq_false (by omega), Bool.false_and] at hR2
        have m1' : (d.toNat : Int) < 128 := by omega
        have hV2 : Hid (V = 0) := by rw [← hV.out, ← hR2]; rfl
        clear hR2
        go_wp2
        go_ret
        exact ⟨ret_int (a := 0) (by rw [hV2.out]; rfl), rfl⟩
      have m1' : ¬ (d.toNat : Int) < 128 := by omega
      by_cases m2 : 191 < d.toNat
      · rw [decide_eq_false (by omega), Bool.false_and] at hR2
        have m2' : (191 : Int) < d.toNat := by omega
        have hV2 : Hid (V = 0) := by rw [← hV.out, ← hR2]; rfl
        clear hR2
        go_wp2
        go_ret
        exact ⟨ret_int (a := 0) (by rw [hV2.out]; rfl), rfl⟩
      have m2' : ¬ (191 : Int) < d.toNat := by omega
      rw [decide_eq_true ⟨by omega, by omega⟩, Bool.true_and] at hR2
      have hR3 : Hid (S.okTail (4 - (k + 1)) 0x80 0xBF (l.drop (i + (k + 1))) = R) := hR2
      clear hR2
      go_wp2
      go_round
      case rel => exact ⟨k + 1, by omega, by omega, by go_num, hR3⟩
      case measure => simp [intOf]; omega
    · have hlt' : ¬ (k : Int) < 4 := by omega
      have hV2 : Hid (V = 4) := by
        have h := hR.out
        rw [show 4 - k = 0 from by omega] at h
        rw [← hV.out, ← h]
        rfl
      clear hR
      go_wp2
      go_ret
      exact ⟨ret_int (a := 4) (by rw [hV2.out]; rfl), rfl⟩
set_option maxRecDepth 100000 in
set_option maxHeartbeats 1600000 in
theorem char_g (w : World) (s : ByteArray) (l : List UInt8) (hs : s.data.toList = l) (hl : l.length ≤ 1073741824) (i : Nat) (hi : i < l.length) (b : UInt8) (hb0 : l.getD i 0 = b) (hx : 241 ≤ b.toNat ∧ b.toNat ≤ 243) (hf : S.follow b = (3, 128, 191)) :
    Calls Tryd.prog 41 #[.string s, .int .i64 i] w fun e w' => e = .returned (.int .i64 (S.chr (l.drop i))) ∧ w' = w := by
  have hn := size_of s l hs
  have hz : s.size ≤ 1073741824 := by omega
  have hat := hide (fun (k : Nat) (h : k < s.size) => byteAt s l hs k h)
  have hi0 : i < s.size := by omega
  have hb : s[i]'hi0 = b := by rw [← hb0]; exact hat.out i hi0
  have hge : 128 ≤ b.toNat := by omega
  have ec : S.chr (l.drop i) = if S.okTail 3 128 191 (l.drop (i + 1)) then 4 else 0 := by rw [drop_cons l i hi, hb0]; exact chr_high' hge hf (by decide)
  rw [ec]
  clear ec
  have i0 : ¬ (b.toNat : Int) < 128 := by omega
  have j0 : (194 : Int) ≤ b.toNat := by omega
  have j1 : ¬ (b.toNat : Int) ≤ 223 := by omega
  have j2 : ¬ (b.toNat : Int) = 224 := by omega
  have j3 : ¬ (b.toNat : Int) = 237 := by omega
  have j4 : (225 : Int) ≤ b.toNat := by omega
  have j5 : ¬ (b.toNat : Int) ≤ 239 := by omega
  have j6 : ¬ (b.toNat : Int) = 240 := by omega
  have j7 : ¬ (b.toNat : Int) = 244 := by omega
  have j8 : (241 : Int) ≤ b.toNat := by omega
  have j9 : (b.toNat : Int) ≤ 243 := by omega
  clear hge
  have ew : IntKind.i64.wrap ((i : Int) + 4) = ((i + 4 : Nat) : Int) := by rw [IntKind.wrap_i64]; omega
  replace hn := hide hn
  by_cases hsh : s.size < i + 4
  · rw [okTail_short (by rw [List.length_drop, ← hn.out]; omega)]
    have hsh1 : (s.size : Int) < (i : Int) + 4 := by omega
    go_enter Tryd.func41, Tryd.ntmps41
    go_wp2
    go_ret
    exact ⟨rfl, rfl⟩
  have hsh1 : ¬ (s.size : Int) < (i : Int) + 4 := by omega
  have h1 : i + 1 < s.size := by omega
  have hb1 : s[i + 1]'h1 = l.getD (i + 1) 0 := hat.out (i + 1) h1
  obtain ⟨c, hc⟩ : ∃ c, l.getD (i + 1) 0 = c := ⟨_, rfl⟩
  have ed : l.drop (i + 1) = c :: l.drop (i + 2) := by rw [← hc]; exact drop_cons l (i + 1) (by rw [← hn.out]; exact h1)
  rw [hc] at hb1
  rw [ed, okTail_step]
  have ei : (i : Int) + 1 < s.size := by omega
  clear hc ed hf hb0
  by_cases k1 : c.toNat < 128
  · rw [decide_eq_false (by omega), Bool.false_and]
    have k1' : (c.toNat : Int) < 128 := by omega
    go_enter Tryd.func41, Tryd.ntmps41
    go_wp2
    go_ret
    exact ⟨rfl, rfl⟩
  have k1' : ¬ (c.toNat : Int) < 128 := by omega
  by_cases k2 : 191 < c.toNat
  · rw [decide_eq_false (by omega), Bool.false_and]
    have k2' : (191 : Int) < c.toNat := by omega
    go_enter Tryd.func41, Tryd.ntmps41
    go_wp2
    go_ret
    exact ⟨rfl, rfl⟩
  have k2' : ¬ (191 : Int) < c.toNat := by omega
  rw [decide_eq_true ⟨by omega, by omega⟩, Bool.true_and]
  obtain ⟨R, hR⟩ : ∃ R, S.okTail 2 0x80 0xBF (l.drop (i + 2)) = R := ⟨_, rfl⟩
  rw [hR]
  replace hR := hide hR
  obtain ⟨V, hV⟩ : ∃ V : Nat, (if R = true then 4 else 0) = V := ⟨_, rfl⟩
  rw [hV]
  replace hV := hide hV
  go_enter Tryd.func41, Tryd.ntmps41
  go_wp2
  go_loop [9] (fun j => ∃ k : Nat, 2 ≤ k ∧ k ≤ 4 ∧ j = .int .i64 k ∧ Hid (S.okTail (4 - k) 0x80 0xBF (l.drop (i + k)) = R)) (fun j => 4 - (intOf j).toNat)
  case atStart => exact ⟨2, by omega, by omega, rfl, hR⟩
  case round =>
    clear hR
    obtain ⟨k, hk1, hk2, rfl, hR⟩ := hrel
    by_cases hlt : k < 4
    · have hlt' : (k : Int) < 4 := by omega
      have h2 : i + k < s.size := by omega
      have hb2 : s[i + k]'h2 = l.getD (i + k) 0 := hat.out (i + k) h2
      obtain ⟨d, hd⟩ : ∃ d, l.getD (i + k) 0 = d := ⟨_, rfl⟩
      have ed := drop_cons l (i + k) (by rw [← hn.out]; exact h2)
      rw [hd] at hb2 ed
      have hR2 := hR.out
      rw [ed, show 4 - k = (4 - (k + 1)) + 1 from by omega, okTail_step] at hR2
      clear hR ed hd
      have ei2 : (i : Int) + k < s.size := by omega
      have ew2 : IntKind.i64.wrap ((i : Int) + k) = (i : Int) + k := by rw [IntKind.wrap_i64]; omega
      by_cases m1 : d.toNat < 128
      · rw [decide_eq_false (by omega), Bool.false_and] at hR2
        have m1' : (d.toNat : Int) < 128 := by omega
        have hV2 : Hid (V = 0) := by rw [← hV.out, ← hR2]; rfl
        clear hR2
        go_wp2
        go_ret
        exact ⟨ret_int (a := 0) (by rw [hV2.out]; rfl), rfl⟩
      have m1' : ¬ (d.toNat : Int) < 128 := by omega
      by_cases m2 : 191 < d.toNat
      · rw [decide_eq_false (by omega), Bool.false_and] at hR2
        have m2' : (191 : Int) < d.toNat := by omega
        have hV2 : Hid (V = 0) := by rw [← hV.out, ← hR2]; rfl
        clear hR2
        go_wp2
        go_ret
        exact ⟨ret_int (a := 0) (by rw [hV2.out]; rfl), rfl⟩
      have m2' : ¬ (191 : Int) < d.toNat := by omega
      rw [decide_eq_true ⟨by omega, by omega⟩, Bool.true_and] at hR2
      have hR3 : Hid (S.okTail (4 - (k + 1)) 0x80 0xBF (l.drop (i + (k + 1))) = R) := hR2
      clear hR2
      go_wp2
      go_round
      case rel => exact ⟨k + 1, by omega, by omega, by go_num, hR3⟩
      case measure => simp [intOf]; omega
    · have hlt' : ¬ (k : Int) < 4 := by omega
      have hV2 : Hid (V = 4) := by
        have h := hR.out
        rw [show 4 - k = 0 from by omega] at h
        rw [← hV.out, ← h]
        rfl
      clear hR
      go_wp2
      go_ret
      exact ⟨ret_int (a := 4) (by rw [hV2.out]; rfl), rfl⟩
set_option maxRecDepth 100000 in
set_option maxHeartbeats 1600000 in
theorem char_calls (w : World) (s : ByteArray) (l : List UInt8) (hs : s.data.toList = l) (hl : l.length ≤ 1073741824) (i : Nat) (hi : i < l.length) :
    Calls Tryd.prog 41 #[.string s, .int .i64 i] w fun e w' => e = .returned (.int .i64 (S.chr (l.drop i))) ∧ w' = w := by
  obtain ⟨b, hb0⟩ : ∃ b, l.getD i 0 = b := ⟨_, rfl⟩
  have hn := size_of s l hs
  have hi0 : i < s.size := by omega
  have hb : s[i]'hi0 = b := by rw [← hb0]; exact byteAt s l hs i hi0
  have hz : s.size ≤ 1073741824 := by omega
  by_cases h : b.toNat < 128
  · rw [drop_cons l i hi, hb0, chr_low h]
    have h1 : (b.toNat : Int) < 128 := by omega
    clear hn hs hl hi hb0
    go_enter Tryd.func41, Tryd.ntmps41
    go_wp2
    go_ret
    exact ⟨rfl, rfl⟩
  have h1 : ¬ (b.toNat : Int) < 128 := by omega
  rcases follow_cases b (by omega) with ⟨e, x | x⟩ | ⟨e, x⟩ | ⟨e, x⟩ | ⟨e, x⟩ | ⟨e, x⟩ | ⟨e, x⟩ | ⟨e, x⟩ | ⟨e, x⟩
  · rw [drop_cons l i hi, hb0, chr_none (by omega) e]
    have j1 : ¬ (194 : Int) ≤ b.toNat := by omega
    have j2 : ¬ (b.toNat : Int) = 224 := by omega
    have j3 : ¬ (b.toNat : Int) = 237 := by omega
    have j4 : ¬ (225 : Int) ≤ b.toNat := by omega
    have j5 : ¬ (b.toNat : Int) = 240 := by omega
    have j6 : ¬ (b.toNat : Int) = 244 := by omega
    have j7 : ¬ (241 : Int) ≤ b.toNat := by omega
    clear hn hs hl hi hb0 e x h
    go_enter Tryd.func41, Tryd.ntmps41
    go_wp2
    go_ret
    exact ⟨rfl, rfl⟩
  · rw [drop_cons l i hi, hb0, chr_none (by omega) e]
    have j1 : (194 : Int) ≤ b.toNat := by omega
    have j1' : ¬ (b.toNat : Int) ≤ 223 := by omega
    have j2 : ¬ (b.toNat : Int) = 224 := by omega
    have j3 : ¬ (b.toNat : Int) = 237 := by omega
    have j4 : (225 : Int) ≤ b.toNat := by omega
    have j4' : ¬ (b.toNat : Int) ≤ 239 := by omega
    have j5 : ¬ (b.toNat : Int) = 240 := by omega
    have j6 : ¬ (b.toNat : Int) = 244 := by omega
    have j7 : (241 : Int) ≤ b.toNat := by omega
    have j7' : ¬ (b.toNat : Int) ≤ 243 := by omega
    clear hn hs hl hi hb0 e x h
    go_enter Tryd.func41, Tryd.ntmps41
    go_wp2
    go_ret
    exact ⟨rfl, rfl⟩
  · exact char_a w s l hs hl i hi b hb0 x e
  · exact char_b w s l hs hl i hi b hb0 x e
  · exact char_c w s l hs hl i hi b hb0 x e
  · exact char_d w s l hs hl i hi b hb0 x e
  · exact char_e w s l hs hl i hi b hb0 x e
  · exact char_f w s l hs hl i hi b hb0 x e
  · exact char_g w s l hs hl i hi b hb0 x e
end Go.Proofs.YtjbalgjdcdmjjaaDoor
