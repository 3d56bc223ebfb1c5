/-
  The document's side of scan: one token.
-/
import Derived.Test.YtjbalgjdcdmjjaaDoorRefScan10
namespace Go.Proofs.YtjbalgjdcdmjjaaDoor
open Go.RowKit
set_option linter.unusedVariables false
/-- The test bytes: which of them a byte is. -/
theorem one_cases (b : UInt8) : b = 40 ∨ b = 41 ∨ b = 34 ∨ b = 124 ∨ b = 35 ∨ (b ≠ 40 ∧ b ≠ 41 ∧ b ≠ 34 ∧ b ≠ 124 ∧ b ≠ 35) := by
  by_cases h1 : b = 40
  · exact .inl h1
  by_cases h2 : b = 41
  · exact .inr (.inl h2)
  by_cases h3 : b = 34
  · exact .inr (.inr (.inl h3))
  by_cases h4 : b = 124
  · exact .inr (.inr (.inr (.inl h4)))
  by_cases h5 : b = 35
  · exact .inr (.inr (.inr (.inr (.inl h5))))
  exact .inr (.inr (.inr (.inr (.inr ⟨h1, h2, h3, h4, h5⟩))))
theorem symEnd_at (w : World) (s : ByteArray) (l : List UInt8) (hs : s.data.toList = l) (hl : l.length ≤ 1073741824) (i : Nat) (hi : i ≤ l.length) (n : Int) (hn : n = i) (k : Nat) (hk : i + (S.front S.sym (l.drop i)).length = k) :
    Calls Tryd.prog 47 #[.string s, .int .i64 n] w fun e w' => e = .returned (.int .i64 (k : Int)) ∧ w' = w := by
  subst hn
  subst hk
  exact symEnd_calls w s l hs hl i hi
set_option maxRecDepth 100000 in
set_option maxHeartbeats 600000 in
theorem one_open (w : World) (s : ByteArray) (l : List UInt8) (hs : s.data.toList = l) (hl : l.length ≤ 1073741824) (i : Nat) (b : UInt8) (t : List UInt8) (hd : l.drop i = b :: t) (hc : b = 40) :
    Calls Tryd.prog 24 #[.string s, .int .i64 i] w fun e w' => e = .returned (oneV (.inl (⟨1, i, i + 1, [40]⟩, t))) ∧ Below w.heap.size w w' := by
  obtain ⟨hi, hb0, ht, hlen⟩ := len_of_drop hd
  have hn := size_of s l hs
  have hz : s.size ≤ 1073741824 := by omega
  have hi0 : i < s.size := by omega
  have hi1 : (i : Int) < s.size := by omega
  have hb : s[i]'hi0 = b := by rw [← hb0]; exact byteAt s l hs i hi0
  have B0 : Hid (Below w.heap.size w (w.alloc (.cells #[.int .i64 0, .int .i64 0, .int .i64 0, .string ⟨#[]⟩] 66))) := (Below.refl _ w).alloc (Nat.le_refl _) _
  subst hc
  clear hs hl hd hb0 ht hlen hn hi
  go_enter Tryd.func24, Tryd.ntmps24
  go_wp2
  refine bodyPost_ret (v := .tuple #[.agg #[.int .i64 1, .int .i64 i, .int .i64 ((i : Int) + 1), .string ⟨#[40]⟩], .int .i64 0, .int .i64 0]) (by simp [results, Tryd.results24, go_sem]) rfl ?_
  exact ⟨by simp [oneV, tkAgg, oneT, oneE, oneP], (Below.refl _ w).alloc (Nat.le_refl _) _⟩
set_option maxRecDepth 100000 in
set_option maxHeartbeats 600000 in
theorem one_close (w : World) (s : ByteArray) (l : List UInt8) (hs : s.data.toList = l) (hl : l.length ≤ 1073741824) (i : Nat) (b : UInt8) (t : List UInt8) (hd : l.drop i = b :: t) (hc : b = 41) :
    Calls Tryd.prog 24 #[.string s, .int .i64 i] w fun e w' => e = .returned (oneV (.inl (⟨2, i, i + 1, [41]⟩, t))) ∧ Below w.heap.size w w' := by
  obtain ⟨hi, hb0, ht, hlen⟩ := len_of_drop hd
  have hn := size_of s l hs
  have hz : s.size ≤ 1073741824 := by omega
  have hi0 : i < s.size := by omega
  have hi1 : (i : Int) < s.size := by omega
  have hb : s[i]'hi0 = b := by rw [← hb0]; exact byteAt s l hs i hi0
  have B0 : Hid (Below w.heap.size w (w.alloc (.cells #[.int .i64 0, .int .i64 0, .int .i64 0, .string ⟨#[]⟩] 66))) := (Below.refl _ w).alloc (Nat.le_refl _) _
  subst hc
  clear hs hl hd hb0 ht hlen hn hi
  go_enter Tryd.func24, Tryd.ntmps24
  go_wp2
  refine bodyPost_ret (v := .tuple #[.agg #[.int .i64 2, .int .i64 i, .int .i64 ((i : Int) + 1), .string ⟨#[41]⟩], .int .i64 0, .int .i64 0]) (by simp [results, Tryd.results24, go_sem]) rfl ?_
  exact ⟨by simp [oneV, tkAgg, oneT, oneE, oneP], (Below.refl _ w).alloc (Nat.le_refl _) _⟩
set_option maxRecDepth 100000 in
set_option maxHeartbeats 600000 in
theorem one_text (w : World) (s : ByteArray) (l : List UInt8) (hs : s.data.toList = l) (hl : l.length ≤ 1073741824) (i : Nat) (b : UInt8) (t : List UInt8) (hd : l.drop i = b :: t) (hc : b = 34) :
    Calls Tryd.prog 24 #[.string s, .int .i64 i] w fun e w' => e = .returned (oneV (S.dStr i [] t (i + 1))) ∧ Below w.heap.size w w' := by
  obtain ⟨hi, hb0, ht, hlen⟩ := len_of_drop hd
  have hn := size_of s l hs
  have hz : s.size ≤ 1073741824 := by omega
  have hi0 : i < s.size := by omega
  have hi1 : (i : Int) < s.size := by omega
  have hb : s[i]'hi0 = b := by rw [← hb0]; exact byteAt s l hs i hi0
  have B0 : Hid (Below w.heap.size w (w.alloc (.cells #[.int .i64 0, .int .i64 0, .int .i64 0, .string ⟨#[]⟩] 66))) := (Below.refl _ w).alloc (Nat.le_refl _) _
  subst hc
  have q := hide (fun W => text_calls W s l hs hl i hi)
  rw [ht] at q
  obtain ⟨R, hR⟩ : ∃ R, S.dStr i [] t (i + 1) = R := ⟨_, rfl⟩
  rw [hR] at q ⊢
  clear hs hl hd hb0 ht hlen hn hi hR
  go_enter Tryd.func24, Tryd.ntmps24
  go_wp2_with (first
    | (go_at_call 42; refine (q.out _).mono ?_; rintro e w1 ⟨rfl, b1⟩; have rc := res_cells' b1; obtain ⟨r0, r1, r2, r3, rz⟩ := rc; unfold oneV tkAgg; replace b1 := hide b1))
  refine bodyPost_ret (v := oneV R) (by simp [results, Tryd.results24, go_sem, oneV, tkAgg, r0, r1, r2, r3]) rfl ?_
  exact ⟨rfl, res_below B0.out b1.out _ _ _ _ (by simp)⟩
set_option maxRecDepth 100000 in
set_option maxHeartbeats 600000 in
theorem one_bars (w : World) (s : ByteArray) (l : List UInt8) (hs : s.data.toList = l) (hl : l.length ≤ 1073741824) (i : Nat) (b : UInt8) (t : List UInt8) (hd : l.drop i = b :: t) (hc : b = 124) :
    Calls Tryd.prog 24 #[.string s, .int .i64 i] w fun e w' => e = .returned (oneV (S.dBars i [] t (i + 1))) ∧ Below w.heap.size w w' := by
  obtain ⟨hi, hb0, ht, hlen⟩ := len_of_drop hd
  have hn := size_of s l hs
  have hz : s.size ≤ 1073741824 := by omega
  have hi0 : i < s.size := by omega
  have hi1 : (i : Int) < s.size := by omega
  have hb : s[i]'hi0 = b := by rw [← hb0]; exact byteAt s l hs i hi0
  have B0 : Hid (Below w.heap.size w (w.alloc (.cells #[.int .i64 0, .int .i64 0, .int .i64 0, .string ⟨#[]⟩] 66))) := (Below.refl _ w).alloc (Nat.le_refl _) _
  subst hc
  have q := hide (fun W => bars_calls W s l hs hl i hi)
  rw [ht] at q
  obtain ⟨R, hR⟩ : ∃ R, S.dBars i [] t (i + 1) = R := ⟨_, rfl⟩
  rw [hR] at q ⊢
  clear hs hl hd hb0 ht hlen hn hi hR
  go_enter Tryd.func24, Tryd.ntmps24
  go_wp2_with (first
    | (go_at_call 43; refine (q.out _).mono ?_; rintro e w1 ⟨rfl, b1⟩; have rc := res_cells' b1; obtain ⟨r0, r1, r2, r3, rz⟩ := rc; unfold oneV tkAgg; replace b1 := hide b1))
  refine bodyPost_ret (v := oneV R) (by simp [results, Tryd.results24, go_sem, oneV, tkAgg, r0, r1, r2, r3]) rfl ?_
  exact ⟨rfl, res_below B0.out b1.out _ _ _ _ (by simp)⟩
set_option maxRecDepth 100000 in
set_option maxHeartbeats 600000 in
theorem one_hash (w : World) (s : ByteArray) (l : List UInt8) (hs : s.data.toList = l) (hl : l.length ≤ 1073741824) (i : Nat) (b : UInt8) (t : List UInt8) (hd : l.drop i = b :: t) (hc : b = 35) :
    Calls Tryd.prog 24 #[.string s, .int .i64 i] w fun e w' => e = .returned (oneV (S.dHash t i)) ∧ Below w.heap.size w w' := by
  obtain ⟨hi, hb0, ht, hlen⟩ := len_of_drop hd
  have hn := size_of s l hs
  have hz : s.size ≤ 1073741824 := by omega
  have hi0 : i < s.size := by omega
  have hi1 : (i : Int) < s.size := by omega
  have hb : s[i]'hi0 = b := by rw [← hb0]; exact byteAt s l hs i hi0
  have B0 : Hid (Below w.heap.size w (w.alloc (.cells #[.int .i64 0, .int .i64 0, .int .i64 0, .string ⟨#[]⟩] 66))) := (Below.refl _ w).alloc (Nat.le_refl _) _
  subst hc
  have q := hide (fun W => hash_calls W s l hs hl i hi)
  rw [ht] at q
  obtain ⟨R, hR⟩ : ∃ R, S.dHash t i = R := ⟨_, rfl⟩
  rw [hR] at q ⊢
  clear hs hl hd hb0 ht hlen hn hi hR
  go_enter Tryd.func24, Tryd.ntmps24
  go_wp2_with (first
    | (go_at_call 44; refine (q.out _).mono ?_; rintro e w1 ⟨rfl, b1⟩; have rc := res_cells' b1; obtain ⟨r0, r1, r2, r3, rz⟩ := rc; unfold oneV tkAgg; replace b1 := hide b1))
  refine bodyPost_ret (v := oneV R) (by simp [results, Tryd.results24, go_sem, oneV, tkAgg, r0, r1, r2, r3]) rfl ?_
  exact ⟨rfl, res_below B0.out b1.out _ _ _ _ (by simp)⟩
set_option maxRecDepth 100000 in
set_option maxHeartbeats 600000 in
theorem one_num (w : World) (s : ByteArray) (l : List UInt8) (hs : s.data.toList = l) (hl : l.length ≤ 1073741824) (i : Nat) (b : UInt8) (t : List UInt8) (hd : l.drop i = b :: t) (n40 : b ≠ 40) (n41 : b ≠ 41) (n34 : b ≠ 34) (n124 : b ≠ 124) (n35 : b ≠ 35) (hg : S.dig b = true) :
    Calls Tryd.prog 24 #[.string s, .int .i64 i] w fun e w' => e = .returned (oneV (S.dNum b t i)) ∧ Below w.heap.size w w' := by
  obtain ⟨hi, hb0, ht, hlen⟩ := len_of_drop hd
  have hn := size_of s l hs
  have hz : s.size ≤ 1073741824 := by omega
  have hi0 : i < s.size := by omega
  have hi1 : (i : Int) < s.size := by omega
  have hb : s[i]'hi0 = b := by rw [← hb0]; exact byteAt s l hs i hi0
  have B0 : Hid (Below w.heap.size w (w.alloc (.cells #[.int .i64 0, .int .i64 0, .int .i64 0, .string ⟨#[]⟩] 66))) := (Below.refl _ w).alloc (Nat.le_refl _) _
  replace n40 := ne_byte (n := 40) (by decide) n40
  replace n41 := ne_byte (n := 41) (by decide) n41
  replace n34 := ne_byte (n := 34) (by decide) n34
  replace n124 := ne_byte (n := 124) (by decide) n124
  replace n35 := ne_byte (n := 35) (by decide) n35
  have qd := hide (fun W => rDigit_calls W b)
  rw [hg] at qd
  have q := hide (fun W => number_calls' W s l hs hl i b t hd hg)
  obtain ⟨R, hR⟩ : ∃ R, S.dNum b t i = R := ⟨_, rfl⟩
  rw [hR] at q ⊢
  clear hs hl hd hb0 ht hlen hn hi hR hg
  go_enter Tryd.func24, Tryd.ntmps24
  go_wp2_with (first
    | (go_at_call 46; refine (q.out _).mono ?_; rintro e w1 ⟨rfl, b1⟩; have rc := res_cells' b1; obtain ⟨r0, r1, r2, r3, rz⟩ := rc; unfold oneV tkAgg; replace b1 := hide b1)
    | (go_at_call 45; refine (qd.out _).mono ?_; rintro e w1 ⟨rfl, rfl⟩))
  refine bodyPost_ret (v := oneV R) (by simp [results, Tryd.results24, go_sem, oneV, tkAgg, r0, r1, r2, r3]) rfl ?_
  exact ⟨rfl, res_below B0.out b1.out _ _ _ _ (by simp)⟩
set_option maxRecDepth 100000 in
set_option maxHeartbeats 600000 in
theorem one_high (w : World) (s : ByteArray) (l : List UInt8) (hs : s.data.toList = l) (hl : l.length ≤ 1073741824) (i : Nat) (b : UInt8) (t : List UInt8) (hd : l.drop i = b :: t) (n40 : b ≠ 40) (n41 : b ≠ 41) (n34 : b ≠ 34) (n124 : b ≠ 124) (n35 : b ≠ 35) (hg : S.dig b = false) (n58 : b ≠ 58) (hy : S.sym b = false) (h8 : 128 ≤ b.toNat) :
    Calls Tryd.prog 24 #[.string s, .int .i64 i] w fun e w' => e = .returned (oneV (.inr (11, i))) ∧ Below w.heap.size w w' := by
  obtain ⟨hi, hb0, ht, hlen⟩ := len_of_drop hd
  have hn := size_of s l hs
  have hz : s.size ≤ 1073741824 := by omega
  have hi0 : i < s.size := by omega
  have hi1 : (i : Int) < s.size := by omega
  have hb : s[i]'hi0 = b := by rw [← hb0]; exact byteAt s l hs i hi0
  have B0 : Hid (Below w.heap.size w (w.alloc (.cells #[.int .i64 0, .int .i64 0, .int .i64 0, .string ⟨#[]⟩] 66))) := (Below.refl _ w).alloc (Nat.le_refl _) _
  replace n40 := ne_byte (n := 40) (by decide) n40
  replace n41 := ne_byte (n := 41) (by decide) n41
  replace n34 := ne_byte (n := 34) (by decide) n34
  replace n124 := ne_byte (n := 124) (by decide) n124
  replace n35 := ne_byte (n := 35) (by decide) n35
  have qd := hide (fun W => rDigit_calls W b)
  rw [hg] at qd
  replace n58 := ne_byte (n := 58) (by decide) n58
  have qy := hide (fun W => rSym_calls W b)
  rw [hy] at qy
  have h8i : (128 : Int) ≤ b.toNat := by omega
  clear hy
  clear hs hl hd hb0 ht hlen hn hi hg
  go_enter Tryd.func24, Tryd.ntmps24
  go_wp2_with (first
    | (go_at_call 45; refine (qd.out _).mono ?_; rintro e w1 ⟨rfl, rfl⟩)
    | (go_at_call 48; refine (qy.out _).mono ?_; rintro e w1 ⟨rfl, rfl⟩))
  refine bodyPost_ret (v := .tuple #[.agg #[.int .i64 0, .int .i64 0, .int .i64 0, .string ⟨#[]⟩], .int .i64 11, .int .i64 (i : Int)]) (by simp [results, Tryd.results24, go_sem]) rfl ?_
  exact ⟨rfl, (Below.refl _ w).alloc (Nat.le_refl _) _⟩
set_option maxRecDepth 100000 in
set_option maxHeartbeats 600000 in
theorem one_low (w : World) (s : ByteArray) (l : List UInt8) (hs : s.data.toList = l) (hl : l.length ≤ 1073741824) (i : Nat) (b : UInt8) (t : List UInt8) (hd : l.drop i = b :: t) (n40 : b ≠ 40) (n41 : b ≠ 41) (n34 : b ≠ 34) (n124 : b ≠ 124) (n35 : b ≠ 35) (hg : S.dig b = false) (n58 : b ≠ 58) (hy : S.sym b = false) (h8 : ¬ 128 ≤ b.toNat) :
    Calls Tryd.prog 24 #[.string s, .int .i64 i] w fun e w' => e = .returned (oneV (.inr (10, i))) ∧ Below w.heap.size w w' := by
  obtain ⟨hi, hb0, ht, hlen⟩ := len_of_drop hd
  have hn := size_of s l hs
  have hz : s.size ≤ 1073741824 := by omega
  have hi0 : i < s.size := by omega
  have hi1 : (i : Int) < s.size := by omega
  have hb : s[i]'hi0 = b := by rw [← hb0]; exact byteAt s l hs i hi0
  have B0 : Hid (Below w.heap.size w (w.alloc (.cells #[.int .i64 0, .int .i64 0, .int .i64 0, .string ⟨#[]⟩] 66))) := (Below.refl _ w).alloc (Nat.le_refl _) _
  replace n40 := ne_byte (n := 40) (by decide) n40
  replace n41 := ne_byte (n := 41) (by decide) n41
  replace n34 := ne_byte (n := 34) (by decide) n34
  replace n124 := ne_byte (n := 124) (by decide) n124
  replace n35 := ne_byte (n := 35) (by decide) n35
  have qd := hide (fun W => rDigit_calls W b)
  rw [hg] at qd
  replace n58 := ne_byte (n := 58) (by decide) n58
  have qy := hide (fun W => rSym_calls W b)
  rw [hy] at qy
  have h8i : ¬ (128 : Int) ≤ b.toNat := by omega
  clear hy
  clear hs hl hd hb0 ht hlen hn hi hg
  go_enter Tryd.func24, Tryd.ntmps24
  go_wp2_with (first
    | (go_at_call 45; refine (qd.out _).mono ?_; rintro e w1 ⟨rfl, rfl⟩)
    | (go_at_call 48; refine (qy.out _).mono ?_; rintro e w1 ⟨rfl, rfl⟩))
  refine bodyPost_ret (v := .tuple #[.agg #[.int .i64 0, .int .i64 0, .int .i64 0, .string ⟨#[]⟩], .int .i64 10, .int .i64 (i : Int)]) (by simp [results, Tryd.results24, go_sem]) rfl ?_
  exact ⟨rfl, (Below.refl _ w).alloc (Nat.le_refl _) _⟩
set_option maxRecDepth 100000 in
set_option maxHeartbeats 600000 in
theorem one_name (w : World) (s : ByteArray) (l : List UInt8) (hs : s.data.toList = l) (hl : l.length ≤ 1073741824) (i : Nat) (b : UInt8) (t : List UInt8) (hd : l.drop i = b :: t) (n40 : b ≠ 40) (n41 : b ≠ 41) (n34 : b ≠ 34) (n124 : b ≠ 124) (n35 : b ≠ 35) (hg : S.dig b = false) (n58 : b ≠ 58) (hy : S.sym b = true) (hr : Rsv w) :
    Calls Tryd.prog 24 #[.string s, .int .i64 i] w fun e w' => e = .returned (oneV (S.dName resv b t i)) ∧ Below w.heap.size w w' := by
  obtain ⟨hi, hb0, ht, hlen⟩ := len_of_drop hd
  have hn := size_of s l hs
  have hz : s.size ≤ 1073741824 := by omega
  have hi0 : i < s.size := by omega
  have hi1 : (i : Int) < s.size := by omega
  have hb : s[i]'hi0 = b := by rw [← hb0]; exact byteAt s l hs i hi0
  have B0 : Hid (Below w.heap.size w (w.alloc (.cells #[.int .i64 0, .int .i64 0, .int .i64 0, .string ⟨#[]⟩] 66))) := (Below.refl _ w).alloc (Nat.le_refl _) _
  replace n40 := ne_byte (n := 40) (by decide) n40
  replace n41 := ne_byte (n := 41) (by decide) n41
  replace n34 := ne_byte (n := 34) (by decide) n34
  replace n124 := ne_byte (n := 124) (by decide) n124
  replace n35 := ne_byte (n := 35) (by decide) n35
  have qd := hide (fun W => rDigit_calls W b)
  rw [hg] at qd
  replace n58 := ne_byte (n := 58) (by decide) n58
  have qy := hide (fun W => rSym_calls W b)
  rw [hy] at qy
  have hfl := S.front_len S.sym (l.drop i)
  obtain ⟨k, hk⟩ : ∃ k, i + (S.front S.sym (l.drop i)).length = k := ⟨_, rfl⟩
  have hkl : k ≤ l.length := by rw [List.length_drop] at hfl; omega
  have qe := hide (fun W => symEnd_at W s l hs hl i (by omega) (i : Int) rfl k hk)
  have sm := fun W => run_midL s l hs (i : Int) (k : Int) i k rfl rfl (by omega) (by omega) W
  have ex : (l.take k).drop i = S.front S.sym (b :: t) := by rw [← hk, mid_take, take_front0, hd]
  rw [ex] at sm
  have eD : S.dName resv b t i = .inl (⟨if resv (S.front S.sym (b :: t)) then 4 else 3, i, k, S.front S.sym (b :: t)⟩, S.rest S.sym (b :: t)) := by rw [← hk, hd]; rfl
  rw [eD]
  generalize S.front S.sym (b :: t) = x at sm ⊢
  generalize S.rest S.sym (b :: t) = r
  have qr : Hid (Calls Tryd.prog 49 #[.string ⟨x.toArray⟩] (w.alloc (.cells #[.int .i64 0, .int .i64 0, .int .i64 0, .string ⟨#[]⟩] 66)) fun e w' => e = .returned (.bool (resv x)) ∧ w' = w.alloc (.cells #[.int .i64 0, .int .i64 0, .int .i64 0, .string ⟨#[]⟩] 66)) := rReserved_calls _ (hr.below B0.out) _ x rfl
  have hik : i ≤ k := by omega
  have hks : k ≤ s.size := by omega
  clear hs hl hd hb0 ht hlen hn hi hg hy hr eD ex hk hfl hkl
  cases hR : resv x with
  | true =>
    rw [hR] at qr
    clear hR
    go_enter Tryd.func24, Tryd.ntmps24
    go_wp2_with (first
      | (go_at_call 45; refine (qd.out _).mono ?_; rintro e w1 ⟨rfl, rfl⟩)
      | (go_at_call 48; refine (qy.out _).mono ?_; rintro e w1 ⟨rfl, rfl⟩)
      | (go_at_call 47; refine (qe.out _).mono ?_; rintro e w1 ⟨rfl, rfl⟩)
      | (go_at_call 49; refine qr.out.mono ?_; rintro e w1 ⟨rfl, rfl⟩))
    refine bodyPost_ret (v := .tuple #[.agg #[.int .i64 4, .int .i64 i, .int .i64 k, .string ⟨x.toArray⟩], .int .i64 0, .int .i64 0]) (by simp [results, Tryd.results24, go_sem]) rfl ?_
    exact ⟨rfl, (Below.refl _ w).alloc (Nat.le_refl _) _⟩
  | false =>
    rw [hR] at qr
    clear hR
    go_enter Tryd.func24, Tryd.ntmps24
    go_wp2_with (first
      | (go_at_call 45; refine (qd.out _).mono ?_; rintro e w1 ⟨rfl, rfl⟩)
      | (go_at_call 48; refine (qy.out _).mono ?_; rintro e w1 ⟨rfl, rfl⟩)
      | (go_at_call 47; refine (qe.out _).mono ?_; rintro e w1 ⟨rfl, rfl⟩)
      | (go_at_call 49; refine qr.out.mono ?_; rintro e w1 ⟨rfl, rfl⟩))
    refine bodyPost_ret (v := .tuple #[.agg #[.int .i64 3, .int .i64 i, .int .i64 k, .string ⟨x.toArray⟩], .int .i64 0, .int .i64 0]) (by simp [results, Tryd.results24, go_sem]) rfl ?_
    exact ⟨rfl, (Below.refl _ w).alloc (Nat.le_refl _) _⟩
set_option maxRecDepth 100000 in
set_option maxHeartbeats 600000 in
theorem one_colon_no (w : World) (s : ByteArray) (l : List UInt8) (hs : s.data.toList = l) (hl : l.length ≤ 1073741824) (i : Nat) (b : UInt8) (t : List UInt8) (hd : l.drop i = b :: t) (hc : b = 58) (hk : S.front S.sym t = [] ∨ ∃ c r, t = c :: r ∧ S.sym c = true ∧ S.dig c = true) :
    Calls Tryd.prog 24 #[.string s, .int .i64 i] w fun e w' => e = .returned (oneV (.inr (16, i + 1))) ∧ Below w.heap.size w w' := by
  obtain ⟨hi, hb0, ht, hlen⟩ := len_of_drop hd
  have hn := size_of s l hs
  have hz : s.size ≤ 1073741824 := by omega
  have hi0 : i < s.size := by omega
  have hi1 : (i : Int) < s.size := by omega
  have hb : s[i]'hi0 = b := by rw [← hb0]; exact byteAt s l hs i hi0
  have B0 : Hid (Below w.heap.size w (w.alloc (.cells #[.int .i64 0, .int .i64 0, .int .i64 0, .string ⟨#[]⟩] 66))) := (Below.refl _ w).alloc (Nat.le_refl _) _
  subst hc
  have qd := hide (fun W => rDigit_calls W 58)
  rw [show S.dig 58 = false from rfl] at qd
  have e1 : (i : Int) + 1 = (i + 1 : Nat) := by omega
  rcases hk with hk | ⟨c, r, hk, hy, hg⟩
  · have qe := hide (fun W => symEnd_at W s l hs hl (i + 1) (by omega) ((i : Int) + 1) (by omega) (i + 1) (by rw [ht, hk]; rfl))
    rw [← e1] at qe
    clear hs hl hd hb0 ht hlen hn hi hk e1
    go_enter Tryd.func24, Tryd.ntmps24
    go_wp2_with (first
      | (go_at_call 45; refine (qd.out _).mono ?_; rintro e w1 ⟨rfl, rfl⟩)
      | (go_at_call 47; refine (qe.out _).mono ?_; rintro e w1 ⟨rfl, rfl⟩))
    refine bodyPost_ret (v := .tuple #[.agg #[.int .i64 0, .int .i64 0, .int .i64 0, .string ⟨#[]⟩], .int .i64 16, .int .i64 ((i : Int) + 1)]) (by simp [results, Tryd.results24, go_sem]) rfl ?_
    exact ⟨rfl, (Below.refl _ w).alloc (Nat.le_refl _) _⟩
  · have hfl := S.front_len S.sym (l.drop (i + 1))
    obtain ⟨k, hk2⟩ : ∃ k, i + 1 + (S.front S.sym (l.drop (i + 1))).length = k := ⟨_, rfl⟩
    have hkl : k ≤ l.length := by rw [List.length_drop] at hfl; omega
    have hk3 : i + 1 < k := by rw [← hk2, ht, hk, front_cons_pos hy]; simp
    have qe := hide (fun W => symEnd_at W s l hs hl (i + 1) (by omega) ((i : Int) + 1) (by omega) k hk2)
    obtain ⟨hi5, hc0, _, _⟩ := len_of_drop (l := l) (i := i + 1) (b := c) (t := r) (by rw [ht, hk])
    have hi6 : i + 1 < s.size := by omega
    have hc1 : s[i + 1]'hi6 = c := by rw [← hc0]; exact byteAt s l hs (i + 1) hi6
    have hi7 : (i : Int) + 1 < s.size := by omega
    have k3 : ((k : Int) == (i : Int) + 1) = false := by simp; omega
    have k4 : ¬ (k : Int) = (i : Int) + 1 := by omega
    have qg := hide (fun W => rDigit_calls W c)
    rw [hg] at qg
    have QE : Hid True := trivial
    clear hs hl hd hb0 ht hlen hn hi hk e1 hfl hk2 hc0 hi5 hy hg hkl
    go_enter Tryd.func24, Tryd.ntmps24
    go_wp2_with (first
      | (go_at_call 45; have y := QE; clear y; refine (qd.out _).mono ?_; rintro e w1 ⟨rfl, rfl⟩; clear QE)
      | (go_at_call 45; refine (qg.out _).mono ?_; rintro e w1 ⟨rfl, rfl⟩)
      | (go_at_call 47; refine (qe.out _).mono ?_; rintro e w1 ⟨rfl, rfl⟩))
    refine bodyPost_ret (v := .tuple #[.agg #[.int .i64 0, .int .i64 0, .int .i64 0, .string ⟨#[]⟩], .int .i64 16, .int .i64 ((i : Int) + 1)]) (by simp [results, Tryd.results24, go_sem]) rfl ?_
    exact ⟨rfl, (Below.refl _ w).alloc (Nat.le_refl _) _⟩
set_option maxRecDepth 100000 in
set_option maxHeartbeats 600000 in
theorem one_colon_yes (w : World) (s : ByteArray) (l : List UInt8) (hs : s.data.toList = l) (hl : l.length ≤ 1073741824) (i : Nat) (b : UInt8) (t : List UInt8) (hd : l.drop i = b :: t) (hc : b = 58) (c : UInt8) (r : List UInt8) (hk : t = c :: r) (hy : S.sym c = true) (hg : S.dig c = false) :
    Calls Tryd.prog 24 #[.string s, .int .i64 i] w fun e w' => e = .returned (oneV (.inl (⟨10, i, i + 1 + (S.front S.sym t).length, S.front S.sym t⟩, S.rest S.sym t))) ∧ Below w.heap.size w w' := by
  obtain ⟨hi, hb0, ht, hlen⟩ := len_of_drop hd
  have hn := size_of s l hs
  have hz : s.size ≤ 1073741824 := by omega
  have hi0 : i < s.size := by omega
  have hi1 : (i : Int) < s.size := by omega
  have hb : s[i]'hi0 = b := by rw [← hb0]; exact byteAt s l hs i hi0
  have B0 : Hid (Below w.heap.size w (w.alloc (.cells #[.int .i64 0, .int .i64 0, .int .i64 0, .string ⟨#[]⟩] 66))) := (Below.refl _ w).alloc (Nat.le_refl _) _
  subst hc
  have qd := hide (fun W => rDigit_calls W 58)
  rw [show S.dig 58 = false from rfl] at qd
  have hfl := S.front_len S.sym (l.drop (i + 1))
  obtain ⟨k, hk2⟩ : ∃ k, i + 1 + (S.front S.sym (l.drop (i + 1))).length = k := ⟨_, rfl⟩
  have hkl : k ≤ l.length := by rw [List.length_drop] at hfl; omega
  have hk3 : i + 1 < k := by rw [← hk2, ht, hk, front_cons_pos hy]; simp
  have qe := hide (fun W => symEnd_at W s l hs hl (i + 1) (by omega) ((i : Int) + 1) (by omega) k hk2)
  obtain ⟨hi5, hc0, _, _⟩ := len_of_drop (l := l) (i := i + 1) (b := c) (t := r) (by rw [ht, hk])
  have hi6 : i + 1 < s.size := by omega
  have hc1 : s[i + 1]'hi6 = c := by rw [← hc0]; exact byteAt s l hs (i + 1) hi6
  have hi7 : (i : Int) + 1 < s.size := by omega
  have k3 : ((k : Int) == (i : Int) + 1) = false := by simp; omega
  have k4 : ¬ (k : Int) = (i : Int) + 1 := by omega
  have sm := fun W => run_midL s l hs ((i : Int) + 1) (k : Int) (i + 1) k (by omega) rfl (by omega) (by omega) W
  have ex : (l.take k).drop (i + 1) = S.front S.sym t := by rw [← hk2, mid_take, take_front0, ht]
  rw [ht] at hk2
  rw [ex] at sm
  rw [hk2]
  generalize S.front S.sym t = x at sm ⊢
  generalize S.rest S.sym t = r2
  have hks : k ≤ s.size := by omega
  have qg := hide (fun W => rDigit_calls W c)
  rw [hg] at qg
  have QE : Hid True := trivial
  clear hs hl hd hb0 ht hlen hn hi hk hfl hk2 hc0 hi5 hy hg hkl ex
  go_enter Tryd.func24, Tryd.ntmps24
  go_wp2_with (first
    | (go_at_call 45; have y := QE; clear y; refine (qd.out _).mono ?_; rintro e w1 ⟨rfl, rfl⟩; clear QE)
    | (go_at_call 45; refine (qg.out _).mono ?_; rintro e w1 ⟨rfl, rfl⟩)
    | (go_at_call 47; refine (qe.out _).mono ?_; rintro e w1 ⟨rfl, rfl⟩))
  refine bodyPost_ret (v := .tuple #[.agg #[.int .i64 10, .int .i64 i, .int .i64 k, .string ⟨x.toArray⟩], .int .i64 0, .int .i64 0]) (by simp [results, Tryd.results24, go_sem]) rfl ?_
  exact ⟨rfl, (Below.refl _ w).alloc (Nat.le_refl _) _⟩
theorem one_calls (w : World) (hr : Rsv w) (s : ByteArray) (l : List UInt8) (hs : s.data.toList = l) (hl : l.length ≤ 1073741824) (i : Nat) (b : UInt8) (t : List UInt8) (hd : l.drop i = b :: t) :
    Calls Tryd.prog 24 #[.string s, .int .i64 i] w fun e w' => e = .returned (oneV (S.dOne resv b t i)) ∧ Below w.heap.size w w' := by
  rcases one_cases b with h | h | h | h | h | ⟨n40, n41, n34, n124, n35⟩
  · have e : S.dOne resv b t i = .inl (⟨1, i, i + 1, [40]⟩, t) := by subst h; rfl
    rw [e]; exact one_open w s l hs hl i b t hd h
  · have e : S.dOne resv b t i = .inl (⟨2, i, i + 1, [41]⟩, t) := by subst h; rfl
    rw [e]; exact one_close w s l hs hl i b t hd h
  · have e : S.dOne resv b t i = S.dStr i [] t (i + 1) := by subst h; rfl
    rw [e]; exact one_text w s l hs hl i b t hd h
  · have e : S.dOne resv b t i = S.dBars i [] t (i + 1) := by subst h; rfl
    rw [e]; exact one_bars w s l hs hl i b t hd h
  · have e : S.dOne resv b t i = S.dHash t i := by subst h; rfl
    rw [e]; exact one_hash w s l hs hl i b t hd h
  · cases hg : S.dig b with
    | true =>
      have e : S.dOne resv b t i = S.dNum b t i := by simp [S.dOne, n40, n41, n34, n124, n35, hg]
      rw [e]; exact one_num w s l hs hl i b t hd n40 n41 n34 n124 n35 hg
    | false =>
      by_cases h58 : b = 58
      · have e : S.dOne resv b t i = S.dColon t i := by subst h58; rfl
        rw [e]
        cases t with
        | nil => exact one_colon_no w s l hs hl i b [] hd h58 (.inl rfl)
        | cons c r =>
          cases hy : S.sym c with
          | false =>
            have e2 : S.dColon (c :: r) i = .inr (16, i + 1) := by simp [S.dColon, hy]
            rw [e2]
            exact one_colon_no w s l hs hl i b _ hd h58 (.inl (front_cons_neg hy))
          | true =>
            cases hg2 : S.dig c with
            | true =>
              have e2 : S.dColon (c :: r) i = .inr (16, i + 1) := by simp [S.dColon, hg2]
              rw [e2]
              exact one_colon_no w s l hs hl i b _ hd h58 (.inr ⟨c, r, rfl, hy, hg2⟩)
            | false =>
              have e2 : S.dColon (c :: r) i = .inl (⟨10, i, i + 1 + (S.front S.sym (c :: r)).length, S.front S.sym (c :: r)⟩, S.rest S.sym (c :: r)) := by simp [S.dColon, hy, hg2]
              rw [e2]
              exact one_colon_yes w s l hs hl i b _ hd h58 c r rfl hy hg2
      · cases hy : S.sym b with
        | true =>
          have e : S.dOne resv b t i = S.dName resv b t i := by simp [S.dOne, n40, n41, n34, n124, n35, hg, h58, hy]
          rw [e]; exact one_name w s l hs hl i b t hd n40 n41 n34 n124 n35 hg h58 hy hr
        | false =>
          by_cases h8 : 128 ≤ b.toNat
          · have e : S.dOne resv b t i = .inr (11, i) := by simp [S.dOne, n40, n41, n34, n124, n35, hg, h58, hy, h8]
            rw [e]; exact one_high w s l hs hl i b t hd n40 n41 n34 n124 n35 hg h58 hy h8
          · have e : S.dOne resv b t i = .inr (10, i) := by simp [S.dOne, n40, n41, n34, n124, n35, hg, h58, hy, h8]
            rw [e]; exact one_low w s l hs hl i b t hd n40 n41 n34 n124 n35 hg h58 hy h8
end Go.Proofs.YtjbalgjdcdmjjaaDoor
