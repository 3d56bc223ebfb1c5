/- Laid together of: RefScan11, RefScan12. -/
import Derived.Test.YtackibimlpkcmaaGreatDoorKz30
/- ==== RefScan11 ==== -/
namespace Go.Proofs.YtackibimlpkcmaaGreatDoor
open Go.RowKit
set_option linter.unusedVariables false
/-- The test bytes: which of them a byte is. -/
theorem one_cases (b : UInt8) : b = 40 ∨ b = 41 ∨ b = 34 ∨ b = 124 ∨ b = 35 ∨ (b ≠ 40 ∧ b ≠ 41 ∧ b ≠ 34 ∧ b ≠ 124 ∧ b ≠ 35) := by
  by_cases h1 : b = 40
  · exact .inl h1
  by_cases h2 : b = 41
  · exact .inr (.inl h2)
  by_cases h3 : b = 34
  · exact .inr (.inr (.inl h3))
  by_cases h4 : b = 124
  · exact .inr (.inr (.inr (.inl h4)))
  by_cases h5 : b = 35
  · exact .inr (.inr (.inr (.inr (.inl h5))))
  exact .inr (.inr (.inr (.inr (.inr ⟨h1, h2, h3, h4, h5⟩))))
theorem symEnd_at (w : World) (s : ByteArray) (l : List UInt8) (hs : s.data.toList = l) (hl : l.length ≤ 1073741824) (i : Nat) (hi : i ≤ l.length) (n : Int) (hn : n = i) (k : Nat) (hk : i + (S.front S.sym (l.drop i)).length = k) :
    Calls Tryz.prog 54 #[.string s, .int .i64 n] w fun e w' => e = .returned (.int .i64 (k : Int)) ∧ w' = w := by
  subst hn
  subst hk
  exact symEnd_calls w s l hs hl i hi
set_option maxRecDepth 100000 in
set_option maxHeartbeats 600000 in
theorem one_open (w : World) (s : ByteArray) (l : List UInt8) (hs : s.data.toList = l) (hl : l.length ≤ 1073741824) (i : Nat) (b : UInt8) (t : List UInt8) (hd : l.drop i = b :: t) (hc : b = 40) :
    Calls Tryz.prog 36 #[.string s, .int .i64 i] w fun e w' => e = .returned (oneV (.inl (⟨1, i, i + 1, [40]⟩, t))) ∧ Below w.heap.size w w' := by
  obtain ⟨hi, hb0, ht, hlen⟩ := len_of_drop hd
  have hn := size_of s l hs
  have hz : s.size ≤ 1073741824 := by omega
  have hi0 : i < s.size := by omega
  have hi1 : (i : Int) < s.size := by omega
  have hb : s[i]'hi0 = b := by rw [← hb0]; exact byteAt s l hs i hi0
  have B0 : Hid (Below w.heap.size w (w.alloc (.cells #[.int .i64 0, .int .i64 0, .int .i64 0, .string ⟨#[]⟩] 61))) := (Below.refl _ w).alloc (Nat.le_refl _) _
  subst hc
  clear hs hl hd hb0 ht hlen hn hi
  go_enter Tryz.func36, Tryz.ntmps36
  go_wp2
  refine bodyPost_ret (v := .tuple #[.agg #[.int .i64 1, .int .i64 i, .int .i64 ((i : Int) + 1), .string ⟨#[40]⟩], .int .i64 0, .int .i64 0]) (by simp [results, Tryz.results36, go_sem]) rfl ?_
  exact ⟨by simp [oneV, tkAgg, oneT, oneE, oneP], (Below.refl _ w).alloc (Nat.le_refl _) _⟩
set_option maxRecDepth 100000 in
set_option maxHeartbeats 600000 in
theorem one_close (w : World) (s : ByteArray) (l : List UInt8) (hs : s.data.toList = l) (hl : l.length ≤ 1073741824) (i : Nat) (b : UInt8) (t : List UInt8) (hd : l.drop i = b :: t) (hc : b = 41) :
    Calls Tryz.prog 36 #[.string s, .int .i64 i] w fun e w' => e = .returned (oneV (.inl (⟨2, i, i + 1, [41]⟩, t))) ∧ Below w.heap.size w w' := by
  obtain ⟨hi, hb0, ht, hlen⟩ := len_of_drop hd
  have hn := size_of s l hs
  have hz : s.size ≤ 1073741824 := by omega
  have hi0 : i < s.size := by omega
  have hi1 : (i : Int) < s.size := by omega
  have hb : s[i]'hi0 = b := by rw [← hb0]; exact byteAt s l hs i hi0
  have B0 : Hid (Below w.heap.size w (w.alloc (.cells #[.int .i64 0, .int .i64 0, .int .i64 0, .string ⟨#[]⟩] 61))) := (Below.refl _ w).alloc (Nat.le_refl _) _
  subst hc
  clear hs hl hd hb0 ht hlen hn hi
  go_enter Tryz.func36, Tryz.ntmps36
  go_wp2
  refine bodyPost_ret (v := .tuple #[.agg #[.int .i64 2, .int .i64 i, .int .i64 ((i : Int) + 1), .string ⟨#[41]⟩], .int .i64 0, .int .i64 0]) (by simp [results, Tryz.results36, go_sem]) rfl ?_
  exact ⟨by simp [oneV, tkAgg, oneT, oneE, oneP], (Below.refl _ w).alloc (Nat.le_refl _) _⟩
set_option maxRecDepth 100000 in
set_option maxHeartbeats 600000 in
theorem one_text (w : World) (s : ByteArray) (l : List UInt8) (hs : s.data.toList = l) (hl : l.length ≤ 1073741824) (i : Nat) (b : UInt8) (t : List UInt8) (hd : l.drop i = b :: t) (hc : b = 34) :
    Calls Tryz.prog 36 #[.string s, .int .i64 i] w fun e w' => e = .returned (oneV (S.dStr i [] t (i + 1))) ∧ Below w.heap.size w w' := by
  obtain ⟨hi, hb0, ht, hlen⟩ := len_of_drop hd
  have hn := size_of s l hs
  have hz : s.size ≤ 1073741824 := by omega
  have hi0 : i < s.size := by omega
  have hi1 : (i : Int) < s.size := by omega
  have hb : s[i]'hi0 = b := by rw [← hb0]; exact byteAt s l hs i hi0
  have B0 : Hid (Below w.heap.size w (w.alloc (.cells #[.int .i64 0, .int .i64 0, .int .i64 0, .string ⟨#[]⟩] 61))) := (Below.refl _ w).alloc (Nat.le_refl _) _
  subst hc
  have q := hide (fun W => text_calls W s l hs hl i hi)
  rw [ht] at q
  obtain ⟨R, hR⟩ : ∃ R, S.dStr i [] t (i + 1) = R := ⟨_, rfl⟩
  rw [hR] at q ⊢
  clear hs hl hd hb0 ht hlen hn hi hR
  go_enter Tryz.func36, Tryz.ntmps36
  go_wp2_with (first
    | (go_at_call 49; refine (q.out _).mono ?_; rintro e w1 ⟨rfl, b1⟩; have rc := res_cells' b1; obtain ⟨r0, r1, r2, r3, rz⟩ := rc; unfold oneV tkAgg; replace b1 := hide b1))
  refine bodyPost_ret (v := oneV R) (by simp [results, Tryz.results36, go_sem, oneV, tkAgg, r0, r1, r2, r3]) rfl ?_
  exact ⟨rfl, res_below B0.out b1.out _ _ _ _ (by simp)⟩
set_option maxRecDepth 100000 in
set_option maxHeartbeats 600000 in
theorem one_bars (w : World) (s : ByteArray) (l : List UInt8) (hs : s.data.toList = l) (hl : l.length ≤ 1073741824) (i : Nat) (b : UInt8) (t : List UInt8) (hd : l.drop i = b :: t) (hc : b = 124) :
    Calls Tryz.prog 36 #[.string s, .int .i64 i] w fun e w' => e = .returned (oneV (S.dBars i [] t (i + 1))) ∧ Below w.heap.size w w' := by
  obtain ⟨hi, hb0, ht, hlen⟩ := len_of_drop hd
  have hn := size_of s l hs
  have hz : s.size ≤ 1073741824 := by omega
  have hi0 : i < s.size := by omega
  have hi1 : (i : Int) < s.size := by omega
  have hb : s[i]'hi0 = b := by rw [← hb0]; exact byteAt s l hs i hi0
  have B0 : Hid (Below w.heap.size w (w.alloc (.cells #[.int .i64 0, .int .i64 0, .int .i64 0, .string ⟨#[]⟩] 61))) := (Below.refl _ w).alloc (Nat.le_refl _) _
  subst hc
  have q := hide (fun W => bars_calls W s l hs hl i hi)
  rw [ht] at q
  obtain ⟨R, hR⟩ : ∃ R, S.dBars i [] t (i + 1) = R := ⟨_, rfl⟩
  rw [hR] at q ⊢
  clear hs hl hd hb0 ht hlen hn hi hR
  go_enter Tryz.func36, Tryz.ntmps36
  go_wp2_with (first
    | (go_at_call 50; refine (q.out _).mono ?_; rintro e w1 ⟨rfl, b1⟩; have rc := res_cells' b1; obtain ⟨r0, r1, r2, r3, rz⟩ := rc; unfold oneV tkAgg; replace b1 := hide b1))
  refine bodyPost_ret (v := oneV R) (by simp [results, Tryz.results36, go_sem, oneV, tkAgg, r0, r1, r2, r3]) rfl ?_
  exact ⟨rfl, res_below B0.out b1.out _ _ _ _ (by simp)⟩
set_option maxRecDepth 100000 in
set_option maxHeartbeats 600000 in
theorem one_hash (w : World) (s : ByteArray) (l : List UInt8) (hs : s.data.toList = l) (hl : l.length ≤ 1073741824) (i : Nat) (b : UInt8) (t : List UInt8) (hd : l.drop i = b :: t) (hc : b = 35) :
    Calls Tryz.prog 36 #[.string s, .int .i64 i] w fun e w' => e = .returned (oneV (S.dHash t i)) ∧ Below w.heap.size w w' := by
  obtain ⟨hi, hb0, ht, hlen⟩ := len_of_drop hd
  have hn := size_of s l hs
  have hz : s.size ≤ 1073741824 := by omega
  have hi0 : i < s.size := by omega
  have hi1 : (i : Int) < s.size := by omega
  have hb : s[i]'hi0 = b := by rw [← hb0]; exact byteAt s l hs i hi0
  have B0 : Hid (Below w.heap.size w (w.alloc (.cells #[.int .i64 0, .int .i64 0, .int .i64 0, .string ⟨#[]⟩] 61))) := (Below.refl _ w).alloc (Nat.le_refl _) _
  subst hc
  have q := hide (fun W => hash_calls W s l hs hl i hi)
  rw [ht] at q
  obtain ⟨R, hR⟩ : ∃ R, S.dHash t i = R := ⟨_, rfl⟩
  rw [hR] at q ⊢
  clear hs hl hd hb0 ht hlen hn hi hR
  go_enter Tryz.func36, Tryz.ntmps36
  go_wp2_with (first
    | (go_at_call 51; refine (q.out _).mono ?_; rintro e w1 ⟨rfl, b1⟩; have rc := res_cells' b1; obtain ⟨r0, r1, r2, r3, rz⟩ := rc; unfold oneV tkAgg; replace b1 := hide b1))
  refine bodyPost_ret (v := oneV R) (by simp [results, Tryz.results36, go_sem, oneV, tkAgg, r0, r1, r2, r3]) rfl ?_
  exact ⟨rfl, res_below B0.out b1.out _ _ _ _ (by simp)⟩
set_option maxRecDepth 100000 in
set_option maxHeartbeats 600000 in
theorem one_num (w : World) (s : ByteArray) (l : List UInt8) (hs : s.data.toList = l) (hl : l.length ≤ 1073741824) (i : Nat) (b : UInt8) (t : List UInt8) (hd : l.drop i = b :: t) (n40 : b ≠ 40) (n41 : b ≠ 41) (n34 : b ≠ 34) (n124 : b ≠ 124) (n35 : b ≠ 35) (hg : S.dig b = true) :
    Calls Tryz.prog 36 #[.string s, .int .i64 i] w fun e w' => e = .returned (oneV (S.dNum b t i)) ∧ Below w.heap.size w w' := by
  obtain ⟨hi, hb0, ht, hlen⟩ := len_of_drop hd
  have hn := size_of s l hs
  have hz : s.size ≤ 1073741824 := by omega
  have hi0 : i < s.size := by omega
  have hi1 : (i : Int) < s.size := by omega
  have hb : s[i]'hi0 = b := by rw [← hb0]; exact byteAt s l hs i hi0
  have B0 : Hid (Below w.heap.size w (w.alloc (.cells #[.int .i64 0, .int .i64 0, .int .i64 0, .string ⟨#[]⟩] 61))) := (Below.refl _ w).alloc (Nat.le_refl _) _
  replace n40 := ne_byte (n := 40) (by decide) n40
  replace n41 := ne_byte (n := 41) (by decide) n41
  replace n34 := ne_byte (n := 34) (by decide) n34
  replace n124 := ne_byte (n := 124) (by decide) n124
  replace n35 := ne_byte (n := 35) (by decide) n35
  have qd := hide (fun W => rDigit_calls W b)
  rw [hg] at qd
  have q := hide (fun W => number_calls' W s l hs hl i b t hd hg)
  obtain ⟨R, hR⟩ : ∃ R, S.dNum b t i = R := ⟨_, rfl⟩
  rw [hR] at q ⊢
  clear hs hl hd hb0 ht hlen hn hi hR hg
  go_enter Tryz.func36, Tryz.ntmps36
  go_wp2_with (first
    | (go_at_call 53; refine (q.out _).mono ?_; rintro e w1 ⟨rfl, b1⟩; have rc := res_cells' b1; obtain ⟨r0, r1, r2, r3, rz⟩ := rc; unfold oneV tkAgg; replace b1 := hide b1)
    | (go_at_call 52; refine (qd.out _).mono ?_; rintro e w1 ⟨rfl, rfl⟩))
  refine bodyPost_ret (v := oneV R) (by simp [results, Tryz.results36, go_sem, oneV, tkAgg, r0, r1, r2, r3]) rfl ?_
  exact ⟨rfl, res_below B0.out b1.out _ _ _ _ (by simp)⟩
set_option maxRecDepth 100000 in
set_option maxHeartbeats 600000 in
theorem one_high (w : World) (s : ByteArray) (l : List UInt8) (hs : s.data.toList = l) (hl : l.length ≤ 1073741824) (i : Nat) (b : UInt8) (t : List UInt8) (hd : l.drop i = b :: t) (n40 : b ≠ 40) (n41 : b ≠ 41) (n34 : b ≠ 34) (n124 : b ≠ 124) (n35 : b ≠ 35) (hg : S.dig b = false) (n58 : b ≠ 58) (hy : S.sym b = false) (h8 : 128 ≤ b.toNat) :
    Calls Tryz.prog 36 #[.string s, .int .i64 i] w fun e w' => e = .returned (oneV (.inr (11, i))) ∧ Below w.heap.size w w' := by
  obtain ⟨hi, hb0, ht, hlen⟩ := len_of_drop hd
  have hn := size_of s l hs
  have hz : s.size ≤ 1073741824 := by omega
  have hi0 : i < s.size := by omega
  have hi1 : (i : Int) < s.size := by omega
  have hb : s[i]'hi0 = b := by rw [← hb0]; exact byteAt s l hs i hi0
  have B0 : Hid (Below w.heap.size w (w.alloc (.cells #[.int .i64 0, .int .i64 0, .int .i64 0, .string ⟨#[]⟩] 61))) := (Below.refl _ w).alloc (Nat.le_refl _) _
  replace n40 := ne_byte (n := 40) (by decide) n40
  replace n41 := ne_byte (n := 41) (by decide) n41
  replace n34 := ne_byte (n := 34) (by decide) n34
  replace n124 := ne_byte (n := 124) (by decide) n124
  replace n35 := ne_byte (n := 35) (by decide) n35
  have qd := hide (fun W => rDigit_calls W b)
  rw [hg] at qd
  replace n58 := ne_byte (n := 58) (by decide) n58
  have qy := hide (fun W => rSym_calls W b)
  rw [hy] at qy
  have h8i : (128 : Int) ≤ b.toNat := by omega
  clear hy
  clear hs hl hd hb0 ht hlen hn hi hg
  go_enter Tryz.func36, Tryz.ntmps36
  go_wp2_with (first
    | (go_at_call 52; refine (qd.out _).mono ?_; rintro e w1 ⟨rfl, rfl⟩)
    | (go_at_call 55; refine (qy.out _).mono ?_; rintro e w1 ⟨rfl, rfl⟩))
  refine bodyPost_ret (v := .tuple #[.agg #[.int .i64 0, .int .i64 0, .int .i64 0, .string ⟨#[]⟩], .int .i64 11, .int .i64 (i : Int)]) (by simp [results, Tryz.results36, go_sem]) rfl ?_
  exact ⟨rfl, (Below.refl _ w).alloc (Nat.le_refl _) _⟩
set_option maxRecDepth 100000 in
set_option maxHeartbeats 600000 in
theorem one_low (w : World) (s : ByteArray) (l : List UInt8) (hs : s.data.toList = l) (hl : l.length ≤ 1073741824) (i : Nat) (b : UInt8) (t : List UInt8) (hd : l.drop i = b :: t) (n40 : b ≠ 40) (n41 : b ≠ 41) (n34 : b ≠ 34) (n124 : b ≠ 124) (n35 : b ≠ 35) (hg : S.dig b = false) (n58 : b ≠ 58) (hy : S.sym b = false) (h8 : ¬ 128 ≤ b.toNat) :
    Calls Tryz.prog 36 #[.string s, .int .i64 i] w fun e w' => e = .returned (oneV (.inr (10, i))) ∧ Below w.heap.size w w' := by
  obtain ⟨hi, hb0, ht, hlen⟩ := len_of_drop hd
  have hn := size_of s l hs
  have hz : s.size ≤ 1073741824 := by omega
  have hi0 : i < s.size := by omega
  have hi1 : (i : Int) < s.size := by omega
  have hb : s[i]'hi0 = b := by rw [← hb0]; exact byteAt s l hs i hi0
  have B0 : Hid (Below w.heap.size w (w.alloc (.cells #[.int .i64 0, .int .i64 0, .int .i64 0, .string ⟨#[]⟩] 61))) := (Below.refl _ w).alloc (Nat.le_refl _) _
  replace n40 := ne_byte (n := 40) (by decide) n40
  replace n41 := ne_byte (n := 41) (by decide) n41
  replace n34 := ne_byte (n := 34) (by decide) n34
  replace n124 := ne_byte (n := 124) (by decide) n124
  replace n35 := ne_byte (n := 35) (by decide) n35
  have qd := hide (fun W => rDigit_calls W b)
  rw [hg] at qd
  replace n58 := ne_byte (n := 58) (by decide) n58
  have qy := hide (fun W => rSym_calls W b)
  rw [hy] at qy
  have h8i : ¬ (128 : Int) ≤ b.toNat := by omega
  clear hy
  clear hs hl hd hb0 ht hlen hn hi hg
  go_enter Tryz.func36, Tryz.ntmps36
  go_wp2_with (first
    | (go_at_call 52; refine (qd.out _).mono ?_; rintro e w1 ⟨rfl, rfl⟩)
    | (go_at_call 55; refine (qy.out _).mono ?_; rintro e w1 ⟨rfl, rfl⟩))
  refine bodyPost_ret (v := .tuple #[.agg #[.int .i64 0, .int .i64 0, .int .i64 0, .string ⟨#[]⟩], .int .i64 10, .int .i64 (i : Int)]) (by simp [results, Tryz.results36, go_sem]) rfl ?_
  exact ⟨rfl, (Below.refl _ w).alloc (Nat.le_refl _) _⟩
set_option maxRecDepth 100000 in
set_option maxHeartbeats 600000 in
theorem one_name (w : World) (s : ByteArray) (l : List UInt8) (hs : s.data.toList = l) (hl : l.length ≤ 1073741824) (i : Nat) (b : UInt8) (t : List UInt8) (hd : l.drop i = b :: t) (n40 : b ≠ 40) (n41 : b ≠ 41) (n34 : b ≠ 34) (n124 : b ≠ 124) (n35 : b ≠ 35) (hg : S.dig b = false) (n58 : b ≠ 58) (hy : S.sym b = true) (hr : Rsv w) :
    Calls Tryz.prog 36 #[.string s, .int .i64 i] w fun e w' => e = .returned (oneV (S.dName resv b t i)) ∧ Below w.heap.size w w' := by
  obtain ⟨hi, hb0, ht, hlen⟩ := len_of_drop hd
  have hn := size_of s l hs
  have hz : s.size ≤ 1073741824 := by omega
  have hi0 : i < s.size := by omega
  have hi1 : (i : Int) < s.size := by omega
  have hb : s[i]'hi0 = b := by rw [← hb0]; exact byteAt s l hs i hi0
  have B0 : Hid (Below w.heap.size w (w.alloc (.cells #[.int .i64 0, .int .i64 0, .int .i64 0, .string ⟨#[]⟩] 61))) := (Below.refl _ w).alloc (Nat.le_refl _) _
  replace n40 := ne_byte (n := 40) (by decide) n40
  replace n41 := ne_byte (n := 41) (by decide) n41
  replace n34 := ne_byte (n := 34) (by decide) n34
  replace n124 := ne_byte (n := 124) (by decide) n124
  replace n35 := ne_byte (n := 35) (by decide) n35
  have qd := hide (fun W => rDigit_calls W b)
  rw [hg] at qd
  replace n58 := ne_byte (n := 58) (by decide) n58
  have qy := hide (fun W => rSym_calls W b)
  rw [hy] at qy
  have hfl := S.front_len S.sym (l.drop i)
  obtain ⟨k, hk⟩ : ∃ k, i + (S.front S.sym (l.drop i)).length = k := ⟨_, rfl⟩
  have hkl : k ≤ l.length := by rw [List.length_drop] at hfl; omega
  have qe := hide (fun W => symEnd_at W s l hs hl i (by omega) (i : Int) rfl k hk)
  have sm := fun W => run_midL s l hs (i : Int) (k : Int) i k rfl rfl (by omega) (by omega) W
  have ex : (l.take k).drop i = S.front S.sym (b :: t) := by rw [← hk, mid_take, take_front0, hd]
  rw [ex] at sm
  have eD : S.dName resv b t i = .inl (⟨if resv (S.front S.sym (b :: t)) then 4 else 3, i, k, S.front S.sym (b :: t)⟩, S.rest S.sym (b :: t)) := by rw [← hk, hd]; rfl
  rw [eD]
  generalize S.front S.sym (b :: t) = x at sm ⊢
  generalize S.rest S.sym (b :: t) = r
  have qr : Hid (Calls Tryz.prog 56 #[.string ⟨x.toArray⟩] (w.alloc (.cells #[.int .i64 0, .int .i64 0, .int .i64 0, .string ⟨#[]⟩] 61)) fun e w' => e = .returned (.bool (resv x)) ∧ w' = w.alloc (.cells #[.int .i64 0, .int .i64 0, .int .i64 0, .string ⟨#[]⟩] 61)) := rReserved_calls _ (hr.below B0.out) _ x rfl
  have hik : i ≤ k := by omega
  have hks : k ≤ s.size := by omega
  clear hs hl hd hb0 ht hlen hn hi hg hy hr eD ex hk hfl hkl
  cases hR : resv x with
  | true =>
    rw [hR] at qr
    clear hR
    go_enter Tryz.func36, Tryz.ntmps36
    go_wp2_with (first
      | (go_at_call 52; refine (qd.out _).mono ?_; rintro e w1 ⟨rfl, rfl⟩)
      | (go_at_call 55; refine (qy.out _).mono ?_; rintro e w1 ⟨rfl, rfl⟩)
      | (go_at_call 54; refine (qe.out _).mono ?_; rintro e w1 ⟨rfl, rfl⟩)
      | (go_at_call 56; refine qr.out.mono ?_; rintro e w1 ⟨rfl, rfl⟩))
    refine bodyPost_ret (v := .tuple #[.agg #[.int .i64 4, .int .i64 i, .int .i64 k, .string ⟨x.toArray⟩], .int .i64 0, .int .i64 0]) (by simp [results, Tryz.results36, go_sem]) rfl ?_
    exact ⟨rfl, (Below.refl _ w).alloc (Nat.le_refl _) _⟩
  | false =>
    rw [hR] at qr
    clear hR
    go_enter Tryz.func36, Tryz.ntmps36
    go_wp2_with (first
      | (go_at_call 52; refine (qd.out _).mono ?_; rintro e w1 ⟨rfl, rfl⟩)
      | (go_at_call 55; refine (qy.out _).mono ?_; rintro e w1 ⟨rfl, rfl⟩)
      | (go_at_call 54; refine (qe.out _).mono ?_; rintro e w1 ⟨rfl, rfl⟩)
      | (go_at_call 56; refine qr.out.mono ?_; rintro e w1 ⟨rfl, rfl⟩))
    refine bodyPost_ret (v := .tuple #[.agg #[.int .i64 3, .int .i64 i, .int .i64 k, .string ⟨x.toArray⟩], .int .i64 0, .int .i64 0]) (by simp [results, Tryz.results36, go_sem]) rfl ?_
    exact ⟨rfl, (Below.refl _ w).alloc (Nat.le_refl _) _⟩
set_option maxRecDepth 100000 in
set_option maxHeartbeats 600000 in
theorem one_colon_no (w : World) (s : ByteArray) (l : List UInt8) (hs : s.data.toList = l) (hl : l.length ≤ 1073741824) (i : Nat) (b : UInt8) (t : List UInt8) (hd : l.drop i = b :: t) (hc : b = 58) (hk : S.front S.sym t = [] ∨ ∃ c r, t = c :: r ∧ S.sym c = true ∧ S.dig c = true) :
    Calls Tryz.prog 36 #[.string s, .int .i64 i] w fun e w' => e = .returned (oneV (.inr (16, i + 1))) ∧ Below w.heap.size w w' := by
  obtain ⟨hi, hb0, ht, hlen⟩ := len_of_drop hd
  have hn := size_of s l hs
  have hz : s.size ≤ 1073741824 := by omega
  have hi0 : i < s.size := by omega
  have hi1 : (i : Int) < s.size := by omega
  have hb : s[i]'hi0 = b := by rw [← hb0]; exact byteAt s l hs i hi0
  have B0 : Hid (Below w.heap.size w (w.alloc (.cells #[.int .i64 0, .int .i64 0, .int .i64 0, .string ⟨#[]⟩] 61))) := (Below.refl _ w).alloc (Nat.le_refl _) _
  subst hc
  have qd := hide (fun W => rDigit_calls W 58)
  rw [show S.dig 58 = false from rfl] at qd
  have e1 : (i : Int) + 1 = (i + 1 : Nat) := by omega
  rcases hk with hk | ⟨c, r, hk, hy, hg⟩
  · have qe := hide (fun W => symEnd_at W s l hs hl (i + 1) (by omega) ((i : Int) + 1) (by omega) (i + 1) (by rw [ht, hk]; rfl))
    rw [← e1] at qe
    clear hs hl hd hb0 ht hlen hn hi hk e1
    go_enter Tryz.func36, Tryz.ntmps36
    go_wp2_with (first
      | (go_at_call 52; refine (qd.out _).mono ?_; rintro e w1 ⟨rfl, rfl⟩)
      | (go_at_call 54; refine (qe.out _).mono ?_; rintro e w1 ⟨rfl, rfl⟩))
    refine bodyPost_ret (v := .tuple #[.agg #[.int .i64 0, .int .i64 0, .int .i64 0, .string ⟨#[]⟩], .int .i64 16, .int .i64 ((i : Int) + 1)]) (by simp [results, Tryz.results36, go_sem]) rfl ?_
    exact ⟨rfl, (Below.refl _ w).alloc (Nat.le_refl _) _⟩
  · have hfl := S.front_len S.sym (l.drop (i + 1))
    obtain ⟨k, hk2⟩ : ∃ k, i + 1 + (S.front S.sym (l.drop (i + 1))).length = k := ⟨_, rfl⟩
    have hkl : k ≤ l.length := by rw [List.length_drop] at hfl; omega
    have hk3 : i + 1 < k := by rw [← hk2, ht, hk, front_cons_pos hy]; simp
    have qe := hide (fun W => symEnd_at W s l hs hl (i + 1) (by omega) ((i : Int) + 1) (by omega) k hk2)
    obtain ⟨hi5, hc0, _, _⟩ := len_of_drop (l := l) (i := i + 1) (b := c) (t := r) (by rw [ht, hk])
    have hi6 : i + 1 < s.size := by omega
    have hc1 : s[i + 1]'hi6 = c := by rw [← hc0]; exact byteAt s l hs (i + 1) hi6
    have hi7 : (i : Int) + 1 < s.size := by omega
    have k3 : ((k : Int) == (i : Int) + 1) = false := by simp; omega
    have k4 : ¬ (k : Int) = (i : Int) + 1 := by omega
    have qg := hide (fun W => rDigit_calls W c)
    rw [hg] at qg
    have QE : Hid True := trivial
    clear hs hl hd hb0 ht hlen hn hi hk e1 hfl hk2 hc0 hi5 hy hg hkl
    go_enter Tryz.func36, Tryz.ntmps36
    go_wp2_with (first
      | (go_at_call 52; have y := QE; clear y; refine (qd.out _).mono ?_; rintro e w1 ⟨rfl, rfl⟩; clear QE)
      | (go_at_call 52; refine (qg.out _).mono ?_; rintro e w1 ⟨rfl, rfl⟩)
      | (go_at_call 54; refine (qe.out _).mono ?_; rintro e w1 ⟨rfl, rfl⟩))
    refine bodyPost_ret (v := .tuple #[.agg #[.int .i64 0, .int .i64 0, .int .i64 0, .string ⟨#[]⟩], .int .i64 16, .int .i64 ((i : Int) + 1)]) (by simp [results, Tryz.results36, go_sem]) rfl ?_
    exact ⟨rfl, (Below.refl _ w).alloc (Nat.le_refl _) _⟩
set_option maxRecDepth 100000 in
set_option maxHeartbeats 600000 in
theorem one_colon_yes (w : World) (s : ByteArray) (l : List UInt8) (hs : s.data.toList = l) (hl : l.length ≤ 1073741824) (i : Nat) (b : UInt8) (t : List UInt8) (hd : l.drop i = b :: t) (hc : b = 58) (c : UInt8) (r : List UInt8) (hk : t = c :: r) (hy : S.sym c = true) (hg : S.dig c = false) :
    Calls Tryz.prog 36 #[.string s, .int .i64 i] w fun e w' => e = .returned (oneV (.inl (⟨10, i, i + 1 + (S.front S.sym t).length, S.front S.sym t⟩, S.rest S.sym t))) ∧ Below w.heap.size w w' := by
  obtain ⟨hi, hb0, ht, hlen⟩ := len_of_drop hd
  have hn := size_of s l hs
  have hz : s.size ≤ 1073741824 := by omega
  have hi0 : i < s.size := by omega
  have hi1 : (i : Int) < s.size := by omega
  have hb : s[i]'hi0 = b := by rw [← hb0]; exact byteAt s l hs i hi0
  have B0 : Hid (Below w.heap.size w (w.alloc (.cells #[.int .i64 0, .int .i64 0, .int .i64 0, .string ⟨#[]⟩] 61))) := (Below.refl _ w).alloc (Nat.le_refl _) _
  subst hc
  have qd := hide (fun W => rDigit_calls W 58)
  rw [show S.dig 58 = false from rfl] at qd
  have hfl := S.front_len S.sym (l.drop (i + 1))
  obtain ⟨k, hk2⟩ : ∃ k, i + 1 + (S.front S.sym (l.drop (i + 1))).length = k := ⟨_, rfl⟩
  have hkl : k ≤ l.length := by rw [List.length_drop] at hfl; omega
  have hk3 : i + 1 < k := by rw [← hk2, ht, hk, front_cons_pos hy]; simp
  have qe := hide (fun W => symEnd_at W s l hs hl (i + 1) (by omega) ((i : Int) + 1) (by omega) k hk2)
  obtain ⟨hi5, hc0, _, _⟩ := len_of_drop (l := l) (i := i + 1) (b := c) (t := r) (by rw [ht, hk])
  have hi6 : i + 1 < s.size := by omega
  have hc1 : s[i + 1]'hi6 = c := by rw [← hc0]; exact byteAt s l hs (i + 1) hi6
  have hi7 : (i : Int) + 1 < s.size := by omega
  have k3 : ((k : Int) == (i : Int) + 1) = false := by simp; omega
  have k4 : ¬ (k : Int) = (i : Int) + 1 := by omega
  have sm := fun W => run_midL s l hs ((i : Int) + 1) (k : Int) (i + 1) k (by omega) rfl (by omega) (by omega) W
  have ex : (l.take k).drop (i + 1) = S.front S.sym t := by rw [← hk2, mid_take, take_front0, ht]
  rw [ht] at hk2
  rw [ex] at sm
  rw [hk2]
  generalize S.front S.sym t = x at sm ⊢
  generalize S.rest S.sym t = r2
  have hks : k ≤ s.size := by omega
  have qg := hide (fun W => rDigit_calls W c)
  rw [hg] at qg
  have QE : Hid True := trivial
  clear hs hl hd hb0 ht hlen hn hi hk hfl hk2 hc0 hi5 hy hg hkl ex
  go_enter Tryz.func36, Tryz.ntmps36
  go_wp2_with (first
    | (go_at_call 52; have y := QE; clear y; refine (qd.out _).mono ?_; rintro e w1 ⟨rfl, rfl⟩; clear QE)
    | (go_at_call 52; refine (qg.out _).mono ?_; rintro e w1 ⟨rfl, rfl⟩)
    | (go_at_call 54; refine (qe.out _).mono ?_; rintro e w1 ⟨rfl, rfl⟩))
  refine bodyPost_ret (v := .tuple #[.agg #[.int .i64 10, .int .i64 i, .int .i64 k, .string ⟨x.toArray⟩], .int .i64 0, .int .i64 0]) (by simp [results, Tryz.results36, go_sem]) rfl ?_
  exact ⟨rfl, (Below.refl _ w).alloc (Nat.le_refl _) _⟩
theorem one_calls (w : World) (hr : Rsv w) (s : ByteArray) (l : List UInt8) (hs : s.data.toList = l) (hl : l.length ≤ 1073741824) (i : Nat) (b : UInt8) (t : List UInt8) (hd : l.drop i = b :: t) :
    Calls Tryz.prog 36 #[.string s, .int .i64 i] w fun e w' => e = .returned (oneV (S.dOne resv b t i)) ∧ Below w.heap.size w w' := by
  rcases one_cases b with h | h | h | h | h | ⟨n40, n41, n34, n124, n35⟩
  · have e : S.dOne resv b t i = .inl (⟨1, i, i + 1, [40]⟩, t) := by subst h; rfl
    rw [e]; exact one_open w s l hs hl i b t hd h
  · have e : S.dOne resv b t i = .inl (⟨2, i, i + 1, [41]⟩, t) := by subst h; rfl
    rw [e]; exact one_close w s l hs hl i b t hd h
  · have e : S.dOne resv b t i = S.dStr i [] t (i + 1) := by subst h; rfl
    rw [e]; exact one_text w s l hs hl i b t hd h
  · have e : S.dOne resv b t i = S.dBars i [] t (i + 1) := by subst h; rfl
    rw [e]; exact one_bars w s l hs hl i b t hd h
  · have e : S.dOne resv b t i = S.dHash t i := by subst h; rfl
    rw [e]; exact one_hash w s l hs hl i b t hd h
  · cases hg : S.dig b with
    | true =>
      have e : S.dOne resv b t i = S.dNum b t i := by simp [S.dOne, n40, n41, n34, n124, n35, hg]
      rw [e]; exact one_num w s l hs hl i b t hd n40 n41 n34 n124 n35 hg
    | false =>
      by_cases h58 : b = 58
      · have e : S.dOne resv b t i = S.dColon t i := by subst h58; rfl
        rw [e]
        cases t with
        | nil => exact one_colon_no w s l hs hl i b [] hd h58 (.inl rfl)
        | cons c r =>
          cases hy : S.sym c with
          | false =>
            have e2 : S.dColon (c :: r) i = .inr (16, i + 1) := by simp [S.dColon, hy]
            rw [e2]
            exact one_colon_no w s l hs hl i b _ hd h58 (.inl (front_cons_neg hy))
          | true =>
            cases hg2 : S.dig c with
            | true =>
              have e2 : S.dColon (c :: r) i = .inr (16, i + 1) := by simp [S.dColon, hg2]
              rw [e2]
              exact one_colon_no w s l hs hl i b _ hd h58 (.inr ⟨c, r, rfl, hy, hg2⟩)
            | false =>
              have e2 : S.dColon (c :: r) i = .inl (⟨10, i, i + 1 + (S.front S.sym (c :: r)).length, S.front S.sym (c :: r)⟩, S.rest S.sym (c :: r)) := by simp [S.dColon, hy, hg2]
              rw [e2]
              exact one_colon_yes w s l hs hl i b _ hd h58 c r rfl hy hg2
      · cases hy : S.sym b with
        | true =>
          have e : S.dOne resv b t i = S.dName resv b t i := by simp [S.dOne, n40, n41, n34, n124, n35, hg, h58, hy]
          rw [e]; exact one_name w s l hs hl i b t hd n40 n41 n34 n124 n35 hg h58 hy hr
        | false =>
          by_cases h8 : 128 ≤ b.toNat
          · have e : S.dOne resv b t i = .inr (11, i) := by simp [S.dOne, n40, n41, n34, n124, n35, hg, h58, hy, h8]
            rw [e]; exact one_high w s l hs hl i b t hd n40 n41 n34 n124 n35 hg h58 hy h8
          · have e : S.dOne resv b t i = .inr (10, i) := by simp [S.dOne, n40, n41, n34, n124, n35, hg, h58, hy, h8]
            rw [e]; exact one_low w s l hs hl i b t hd n40 n41 n34 n124 n35 hg h58 hy h8
end Go.Proofs.YtackibimlpkcmaaGreatDoor
/- ==== RefScan12 ==== -/
namespace Go.Proofs.YtackibimlpkcmaaGreatDoor
open Go.RowKit
set_option linter.unusedVariables false
/-- What comes next in a text, by the document. -/
theorem next_tok (l : List UInt8) (i : Nat) (hi : i ≤ l.length) :
    (∃ e p, S.dSkip (l.drop i) i = .inr (e, p) ∧ e ≠ 0 ∧ S.run resv .idle (l.drop i) i = ([], e, p)) ∨
    (∃ k, S.dSkip (l.drop i) i = .inl ([], k) ∧ k = l.length ∧ S.run resv .idle (l.drop i) i = ([], 0, 0)) ∨
    (∃ b t k, S.dSkip (l.drop i) i = .inl (b :: t, k) ∧ i ≤ k ∧ k < l.length ∧ l.drop k = b :: t ∧
      ((∃ e p, S.dOne resv b t k = .inr (e, p) ∧ e ≠ 0 ∧ S.run resv .idle (l.drop i) i = ([], e, p)) ∨
       (∃ tk r, S.dOne resv b t k = .inl (tk, r) ∧ k < tk.fin ∧ tk.fin ≤ l.length ∧ S.run resv .idle (l.drop i) i = (tk :: (S.run resv .idle (l.drop tk.fin) tk.fin).1, (S.run resv .idle (l.drop tk.fin) tk.fin).2)))) := by
  rw [S.run_doc]
  rcases hs : S.dSkip (l.drop i) i with ⟨r, k⟩ | ⟨e, p⟩
  · obtain ⟨n, e1, e2, e3, e4⟩ := S.dSkip_gap (l.drop i) i r k hs
    rw [List.length_drop] at e1
    rw [List.drop_drop] at e3
    cases r with
    | nil =>
      have h0 := congrArg List.length e3
      simp at h0
      exact .inr (.inl ⟨k, rfl, by omega, rfl⟩)
    | cons b t =>
      have h0 := congrArg List.length e3
      simp at h0
      rw [← e2] at e3
      refine .inr (.inr ⟨b, t, k, rfl, by omega, by omega, e3.symm, ?_⟩)
      rcases ho : S.dOne resv b t k with ⟨tk, r'⟩ | ⟨e, p⟩
      · obtain ⟨c1, m, c2, c3, c4, c5⟩ := S.dOne_cut resv b t k tk r' ho
        have d1 : l.drop tk.fin = r' := by
          rw [c3, Nat.add_assoc, ← List.drop_drop, ← e3, Nat.add_comm 1 m, List.drop_succ_cons, c4]
        refine .inr ⟨tk, r', rfl, by omega, by omega, ?_⟩
        rw [d1]
        show S.DR.out resv (S.dOne resv b t k) = _
        rw [ho]
        rfl
      · exact .inl ⟨e, p, rfl, (S.dOne_err resv b t k e p ho).1, by show S.DR.out resv (S.dOne resv b t k) = _; rw [ho]; rfl⟩
  · exact .inl ⟨e, p, rfl, (S.dSkip_err _ i e p hs).1, rfl⟩
/-- What is read so far: acc, up to i. -/
def TokAt (l : List UInt8) (i : Nat) (acc : List S.Tok) : Prop := S.run resv .idle l 0 = (acc ++ (S.run resv .idle (l.drop i) i).1, (S.run resv .idle (l.drop i) i).2) ∧ acc.length ≤ i
def OwnT (B : Nat) (w : World) (v : Value) (acc : List S.Tok) : Prop := w.ownsRow B 61 4 v acc.length (tksCells acc)
theorem ownsRow_kept {B : Nat} {w w1 : World} {e : TypeId} {size : Nat} {v : Value} {n : Nat} {xs : List Value} (h : w.ownsRow B e size v n xs) (q : Below w.heap.size w w1) : w1.ownsRow B e size v n xs := by
  obtain ⟨h1, h2⟩ := h
  refine ⟨h1, ?_⟩
  rcases h2 with h2 | ⟨b, cap, cur, rfl, h3, hb, h4⟩
  · exact .inl h2
  · exact .inr ⟨b, cap, cur, rfl, h3, (q.block b (Array.getElem?_eq_some_iff.1 hb).1).trans hb, h4⟩
theorem four_new (w : World) (a b c d : Value) (T : TypeId) : ∀ j u, ([a, b, c, d] : List Value)[j]? = some u → (w.alloc (.cells #[a, b, c, d] T)).cell? ((⟨w.heap.size, 0, none⟩ : Addr).add j) = some u := by
  intro j u hu
  rw [add_zero', cell_of_row _ _ j _ _ (0, 0) (heap_alloc_new w (.cells #[a, b, c, d] T))]
  simpa using hu
theorem four_new' (w : World) (o : Obj) (a b c d : Value) : ∀ j u, ([a, b, c, d] : List Value)[j]? = some u → ((w.alloc o).alloc (.cells #[a, b, c, d] 61)).cell? ((⟨w.heap.size + 1, 0, none⟩ : Addr).add j) = some u := by
  have h := four_new (w.alloc o) a b c d 61
  simpa using h
theorem grown_keep {B : Nat} {W W1 : World} {e : TypeId} {size : Nat} {v : Value} {n : Nat} {xs : List Value} (o : W.ownsRow B e size v n xs) (a b c d : Value) (T : TypeId) (o2 : Obj) (g : ((W.alloc (.cells #[a, b, c, d] T)).alloc o2).grownBy W1 v.ownBlock) : W1.cell? ⟨W.heap.size, 2, none⟩ = some c := by
  have h1 : W1.heap[W.heap.size]? = some (.cells #[a, b, c, d] T) := by
    refine (g.block W.heap.size (by simp; omega) (fun h => ?_)).trans ?_
    · have := (o.lt _ h.symm).2
      omega
    · rw [heap_alloc_old _ _ (by simp)]
      exact heap_alloc_new W _
  rw [cell_of_row _ _ 2 _ _ (0, 0) h1]
  rfl
set_option maxRecDepth 100000 in
set_option maxHeartbeats 600000 in
theorem rtokens_calls (w : World) (hr : Rsv w) (s : ByteArray) (l : List UInt8) (hs : s.data.toList = l) (hl : l.length ≤ 1073741824) :
    Calls Tryz.prog 24 #[.string s] w fun e w' => ∃ v, e = .returned (.tuple #[v, .int .i64 (S.run resv .idle l 0).2.1, .int .i64 (S.run resv .idle l 0).2.2]) ∧ Toks w w' v (S.run resv .idle l 0) := by
  obtain ⟨i0, hi1, hz0, hz1, hz2⟩ := info_parts infoTok
  have hn := size_of s l hs
  have hz : s.size ≤ 1073741824 := by omega
  have qs := hide (fun W i (hi : i ≤ l.length) => skip_calls W s l hs hl i hi)
  have qo := hide (fun W (hr : Rsv W) i b t hd => one_calls W hr s l hs hl i b t hd)
  have H0 : Hid (TokAt l 0 []) := ⟨by simp, Nat.le_refl _⟩
  obtain ⟨O, hO⟩ : ∃ O, S.run resv .idle l 0 = O := ⟨_, rfl⟩
  have hOh := hide hO
  rw [hO]
  have hrh := hide hr
  have B0 : Hid (Below w.heap.size w w) := Below.refl _ w
  have O0 : Hid (OwnT w.heap.size w (.slice none 0 0) []) := World.ownsRow_nil _ _ _ _
  replace hn := hide hn
  clear hs hl hO hr
  go_enter Tryz.func24, Tryz.ntmps24
  go_wp2
  go_loopw [5, 6] (fun v j wr => ∃ (i : Nat) (acc : List S.Tok), i ≤ s.size ∧ j = .int .i64 i ∧ Hid (TokAt l i acc) ∧ Hid (OwnT w.heap.size wr v acc) ∧ Hid (Below w.heap.size w wr)) (fun _ j _ => s.size - (intOf j).toNat)
  case atStart => exact ⟨0, [], Nat.zero_le _, rfl, H0, O0, B0⟩
  case round =>
    clear H0 O0 B0
    obtain ⟨i, acc, hi, rfl, hT, hA, hB⟩ := hrel
    have hil : i ≤ l.length := by rw [← hn.out]; exact hi
    have hwz : w.heap.size ≤ wr.heap.size := hB.out.size
    obtain ⟨va, vc, hv⟩ := own_shape (ownsRow_zero hA.out)
    subst hv
    obtain ⟨L, hL⟩ : ∃ L, acc.length = L := ⟨_, rfl⟩
    have hLb : L ≤ i := by rw [← hL]; exact hT.out.2
    have hA2 := hA.out
    unfold OwnT at hA2
    rw [hL] at hA2 hA ⊢
    replace hA2 := hide hA2
    have hLh := hide hL
    clear hL
    have q := hide (qs.out wr i hil)
    rcases next_tok l i hil with ⟨e, p, h1, h2, h3⟩ | ⟨k, h1, h2, h3⟩ | ⟨b, t, k, h1, h2, h3, h4, h5⟩
    · rw [h1] at q
      have q2 : Hid (Calls Tryz.prog 35 #[.string s, .int .i64 i] wr fun x w' => x = .returned (.tuple #[.int .i64 (e : Int), .int .i64 (p : Int)]) ∧ w' = wr) := q.out
      have e0 : ¬ (e : Int) = 0 := by omega
      have out : Hid (O = (acc, e, p)) := by
        have := hT.out.1
        rw [hOh.out, h3] at this
        exact this.trans (by simp)
      clear h1 h3 q qs qo hT
      go_wp2_with (go_at_call 35; refine q2.out.mono ?_; rintro x w2 ⟨rfl, rfl⟩)
      refine bodyPost_ret (v := .tuple #[.slice va L vc, .int .i64 (e : Int), .int .i64 (p : Int)]) (by simp [results, Tryz.results24, go_sem]) rfl ?_
      exact ⟨_, by rw [out.out], by rw [out.out]; exact hA.out, hB.out⟩
    · rw [h1] at q
      have q2 : Hid (Calls Tryz.prog 35 #[.string s, .int .i64 i] wr fun x w' => x = .returned (.tuple #[.int .i64 0, .int .i64 (k : Int)]) ∧ w' = wr) := q.out
      have hk : (s.size : Int) ≤ k := by have := hn.out; omega
      have out : Hid (O = (acc, 0, 0)) := by
        have := hT.out.1
        rw [hOh.out, h3] at this
        exact this.trans (by simp)
      clear h1 h3 q qs qo hT h2
      go_wp2_with (go_at_call 35; refine q2.out.mono ?_; rintro x w2 ⟨rfl, rfl⟩)
      refine bodyPost_ret (v := .tuple #[.slice va L vc, .int .i64 0, .int .i64 0]) (by simp [results, Tryz.results24, go_sem]) rfl ?_
      exact ⟨_, by rw [out.out]; rfl, by rw [out.out]; exact hA.out, hB.out⟩
    · rw [h1] at q
      have q2 : Hid (Calls Tryz.prog 35 #[.string s, .int .i64 i] wr fun x w' => x = .returned (.tuple #[.int .i64 0, .int .i64 (k : Int)]) ∧ w' = wr) := q.out
      have hk : ¬ (s.size : Int) ≤ k := by have := hn.out; omega
      have q3 := qo.out wr (hrh.out.below hB.out) k b t h4
      rcases h5 with ⟨e, p, g1, g2, g3⟩ | ⟨tk, r, g1, g2, g3, g4⟩
      · rw [g1] at q3
        have q4 : Hid (Calls Tryz.prog 36 #[.string s, .int .i64 k] wr fun x w' => x = .returned (.tuple #[.agg #[.int .i64 0, .int .i64 0, .int .i64 0, .string ⟨#[]⟩], .int .i64 (e : Int), .int .i64 (p : Int)]) ∧ Below wr.heap.size wr w') := q3
        have e0 : ¬ (e : Int) = 0 := by omega
        have out : Hid (O = (acc, e, p)) := by
          have := hT.out.1
          rw [hOh.out, g3] at this
          exact this.trans (by simp)
        clear h1 g3 q q3 qs qo hT g1 h4
        go_wp2_with (first
          | (go_at_call 35; refine q2.out.mono ?_; rintro x w2 ⟨rfl, rfl⟩)
          | (go_at_call 36; refine q4.out.mono ?_; rintro x w2 ⟨rfl, b2⟩; replace b2 := hide b2))
        refine bodyPost_ret (v := .tuple #[.slice va L vc, .int .i64 (e : Int), .int .i64 (p : Int)]) (by simp [results, Tryz.results24, go_sem]) rfl ?_
        have b3 := (b2.out).alloc b2.out.size (.cells #[.int .i64 0, .int .i64 0, .int .i64 0, .string ⟨#[]⟩] 61)
        exact ⟨_, by rw [out.out], by rw [out.out]; exact ownsRow_kept hA.out b3, hB.out.trans (b3.mono hwz)⟩
      · obtain ⟨kd, bg, fn, x⟩ := tk
        rw [g1] at q3
        have q4 : Hid (Calls Tryz.prog 36 #[.string s, .int .i64 k] wr fun y w' => y = .returned (.tuple #[.agg #[.int .i64 (kd : Int), .int .i64 (bg : Int), .int .i64 (fn : Int), .string ⟨x.toArray⟩], .int .i64 0, .int .i64 0]) ∧ Below wr.heap.size wr w') := q3
        have g2' : k < fn := g2
        have g3' : fn ≤ l.length := g3
        have hT2 : Hid (TokAt l fn (acc ++ [⟨kd, bg, fn, x⟩])) := by
          refine ⟨?_, ?_⟩
          · rw [hT.out.1, g4]
            simp
          · have := hT.out.2
            simp
            omega
        have hfs : fn ≤ s.size := by rw [hn.out]; exact g3'
        clear h1 g4 q q3 qs qo hT g1 h4 g2 g3
        go_wp2_with (first
          | (go_at_call 35; refine q2.out.mono ?_; rintro y w2 ⟨rfl, rfl⟩)
          | (go_at_call 36; refine q4.out.mono ?_; rintro y w2 ⟨rfl, b2⟩; have o2 := ownsRow_kept hA2.out b2; replace o2 := hide o2; replace b2 := hide b2)
          | (at_builtin; (refine wpList_append_own _ rfl _ _ 36 rfl w.heap.size 61 i0 (.agg #[.int .i64 0, .int .i64 0, .int .i64 0, .string ⟨#[]⟩]) 4 40 sliceTok hi1 hz0 hz1 hz2 rfl (by decide) _ L (tksCells acc) rfl ((o2.out.alloc _).alloc _) ⟨w2.heap.size + 1, 0, none⟩ 1 1 [.int .i64 (kd : Int), .int .i64 (bg : Int), .int .i64 (fn : Int), .string ⟨x.toArray⟩] rfl rfl (four_new' _ _ _ _ _ _) (by simp [Value.oneCell']) (by unfold maxLen; omega) (by omega) (by simp; have := b2.out.size; omega) ?_; intro v' w3 o3 g3 _; have c3 := grown_keep o2.out _ _ _ _ _ _ g3; replace o3 := hide o3; replace g3 := hide g3)))
        go_roundw
        case rel => exact ⟨fn, acc ++ [⟨kd, bg, fn, x⟩], by omega, rfl, hT2, by unfold OwnT; rw [List.length_append, hLh.out, tksCells_append]; exact o3.out, (hB.out.trans (((b2.out.alloc b2.out.size _).alloc (by have := b2.out.size; simp; omega) _).mono hwz)).grown g3.out (by have := b2.out.size; simp; omega) (fun g hg => (o2.out.lt g hg).1)⟩
        case measure => simp [intOf]; omega
end Go.Proofs.YtackibimlpkcmaaGreatDoor
