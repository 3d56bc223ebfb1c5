/-
  order.Luby and the document's Luby both answer the plain row, or the error 70.
-/
import Derived.Test.YtgbbljofhgfmgaaLubyMath
import Derived.Test.YtgbbljofhgfmgaaShelf
import Derived.Lib.ItoaNum
import Derived.Test.YtgbbljofhgfmgaaBase
namespace Go.Proofs.Ytgbbljofhgfmgaa
open Go.RowKit

theorem bl_hp (i : Nat) (h1 : 1 ≤ i) (h2 : i ≤ 9223372036854775807) : 1 ≤ Lib.bitLen i ∧ Lib.bitLen i ≤ 63 ∧ 2 ^ (Lib.bitLen i - 1) = LB.hp i := by
  have hb := Lib.bitLenAux_bounds 64 i (Nat.lt_of_le_of_lt h2 (by decide)) (by omega)
  have hle := Lib.bitLen_le i 63 (by omega) (Nat.lt_of_le_of_lt h2 (by decide))
  change 1 ≤ Lib.bitLen i ∧ 2 ^ (Lib.bitLen i - 1) ≤ i ∧ i < 2 ^ Lib.bitLen i at hb
  refine ⟨hb.1, hle, ?_⟩
  exact (LB.hp_of i (Lib.bitLen i - 1) hb.2.1 (by rw [show Lib.bitLen i - 1 + 1 = Lib.bitLen i by omega]; exact hb.2.2)).symm

theorem wrap_id (x : Int) (h0 : 0 ≤ x) (h1 : x ≤ 9223372036854775807) : wrap64 x = x := by
  simp only [wrap64]; omega

theorem wrap_hp (n : Nat) (h1 : 1 ≤ n) (h2 : n ≤ 9223372036854775807) : wrap64 ((2 : Int) ^ (Lib.bitLen n - 1)) = (LB.hp n : Int) := by
  have hb := bl_hp n h1 h2
  have hp := LB.hp_le n h1
  rw [show ((2 : Int) ^ (Lib.bitLen n - 1)) = ((2 ^ (Lib.bitLen n - 1) : Nat) : Int) by simp, hb.2.2]
  exact wrap_id _ (by omega) (by omega)

theorem ret_luby {a b : Int} (h : a = b) : Ending.returned (.tuple #[.int .i64 a, .int .i64 0]) = .returned (.tuple #[.int .i64 b, .int .i64 0]) := by rw [h]

set_option maxHeartbeats 400000 in
theorem luby_calls (i : Nat) (h1 : 1 ≤ i) (h2 : i ≤ 9223372036854775807) (w : World) :
    Calls Try.prog 9 #[.int .i64 (i : Int)] w fun e w' => e = .returned (.tuple #[.int .i64 (LB.lub i : Nat), .int .i64 0]) ∧ w' = w := by
  go_enter Try.func9, Try.ntmps9
  go_wp2
  go_loop [0] (fun t => ∃ n : Nat, 1 ≤ n ∧ n ≤ i ∧ LB.lub n = LB.lub i ∧ t = .int .i64 (n : Int)) (fun t => (intOf t).toNat)
  case atStart => exact ⟨i, h1, Nat.le_refl _, rfl, rfl⟩
  case round =>
    obtain ⟨n, n1, n2, hl, rfl⟩ := hrel
    have hb := bl_hp n n1 (by omega)
    have hp := LB.hp_le n n1
    have hw := wrap_hp n n1 (by omega)
    obtain ⟨b1, b2, _⟩ := hb
    replace hl := hide hl
    by_cases e : n + 1 = 2 * LB.hp n
    · have he : ((n : Int) - (LB.hp n : Int) == (LB.hp n : Int) - 1) = true := by rw [beq_iff_eq]; omega
      have ht := LB.lub_top n n1 e
      replace e := hide e
      replace ht := hide ht
      go_wp2_with (go_at_call 25; refine (Try.bits_Len _ _ (by omega) (by omega)).mono ?_; rintro e w' ⟨rfl, rfl⟩)
      go_ret2
      exact ⟨ret_luby (by rw [hw, ← ht.out, hl.out]), rfl⟩
    · have he : ((n : Int) - (LB.hp n : Int) == (LB.hp n : Int) - 1) = false := by rw [beq_eq_false_iff_ne]; omega
      have hd := LB.lub_down n n1 e
      have d := LB.down n n1 e
      replace hd := hide hd
      go_wp2_with (go_at_call 25; refine (Try.bits_Len _ _ (by omega) (by omega)).mono ?_; rintro e w' ⟨rfl, rfl⟩)
      go_round
      case rel => exact ⟨n - (LB.hp n - 1), d.1, by omega, by rw [← hd.out]; exact hl.out, by congr 1; omega⟩
      case measure => simp [intOf]; omega

theorem no_calls (x : Int) (w : World) :
    Calls Try.prog 11 #[.int .i64 x] w fun e w' => e = .returned (.int .i64 x) ∧ w' = w := by
  go_enter Try.func11, Try.ntmps11
  go_wp2
  go_ret
  exact ⟨rfl, rfl⟩

theorem wf_i64 (n : Int) (h : (Lit.int .i64 n).wf = true) : -9223372036854775808 ≤ n ∧ n ≤ 9223372036854775807 := by
  have h' : (decide (IntKind.i64.min ≤ n) && decide (n ≤ IntKind.i64.max)) = true := h
  have e1 : IntKind.i64.min = -9223372036854775808 := by decide
  have e2 : IntKind.i64.max = 9223372036854775807 := by decide
  rw [e1, e2] at h'
  simpa using h'

theorem luby_no (i : Int) (h1 : i < 1) (w : World) :
    Calls Try.prog 9 #[.int .i64 i] w fun e w' => e = .returned (.tuple #[.int .i64 0, .int .i64 70]) ∧ w' = w := by
  go_enter Try.func9, Try.ntmps9
  go_wp2
  go_ret2
  exact ⟨rfl, rfl⟩

theorem rluby_no (i : Int) (h1 : i < 1) (w : World) :
    Calls Try.prog 10 #[.int .i64 i] w fun e w' => e = .returned (.tuple #[.int .i64 0, .int .i64 70]) ∧ w' = w := by
  go_enter Try.func10, Try.ntmps10
  go_wp2
  go_ret2
  exact ⟨rfl, rfl⟩

/-- The greatest power of two, less one, that is not above n is 2^k - 1: what the document's way does with it. -/
theorem two_hp (n k : Nat) (h1 : 2 ^ k ≤ n + 1) (h2 : n + 1 < 2 ^ (k + 1)) (hk : 1 ≤ k) : (n = 2 ^ k - 1 → LB.lub n = 2 ^ (k - 1)) ∧ (n ≠ 2 ^ k - 1 → LB.lub n = LB.lub (n - (2 ^ k - 1)) ∧ 2 ^ k ≤ n) := by
  have q : 2 ^ k = 2 * 2 ^ (k - 1) := by rw [← Nat.pow_succ', show (k - 1).succ = k by omega]
  have p := LB.pow_pos2 (k - 1)
  refine ⟨fun e => ?_, fun e => ?_⟩
  · have := LB.lub_end (k - 1)
    rw [show k - 1 + 1 = k by omega, ← e] at this
    exact this
  · have hh : 2 ^ k ≤ n := by omega
    have hk2 : LB.hp n = 2 ^ k := LB.hp_of n k hh (by omega)
    have q2 : 2 ^ (k + 1) = 2 * 2 ^ k := by rw [Nat.pow_succ]; omega
    have := LB.lub_down n (by omega) (by rw [hk2]; omega)
    rw [hk2] at this
    exact ⟨this, hh⟩

set_option maxHeartbeats 400000 in
theorem rluby_calls (i : Nat) (h1 : 1 ≤ i) (h2 : i ≤ 9223372036854775807) (w : World) :
    Calls Try.prog 10 #[.int .i64 (i : Int)] w fun e w' => e = .returned (.tuple #[.int .i64 (LB.lub i : Nat), .int .i64 0]) ∧ w' = w := by
  go_enter Try.func10, Try.ntmps10
  go_wp2
  go_loop [0] (fun t => ∃ n : Nat, 1 ≤ n ∧ n ≤ i ∧ Hid (LB.lub n = LB.lub i) ∧ t = .int .i64 (n : Int)) (fun t => (intOf t).toNat)
  case atStart => exact ⟨i, h1, Nat.le_refl _, rfl, rfl⟩
  case round =>
    obtain ⟨n, n1, n2, hl, rfl⟩ := hrel
    go_wp2
    go_loop [4] (fun t => ∃ p : Nat, 1 ≤ p ∧ p ≤ n ∧ Hid (∃ k, 1 ≤ k ∧ p = 2 ^ k - 1) ∧ t = .int .i64 (p : Int)) (fun t => n - (intOf t).toNat)
    case atStart => exact ⟨1, by omega, n1, ⟨1, by omega, rfl⟩, rfl⟩
    case round =>
      obtain ⟨p, p1, p2, ⟨k, hk, e⟩, rfl⟩ := hrel
      replace e := hide e
      have q2 : 2 ^ (k + 1) = 2 * 2 ^ k := by rw [Nat.pow_succ]; omega
      have pp := LB.pow_pos2 k
      replace q2 := hide q2
      by_cases c : (p : Int) ≤ ((n : Int) - 1) / 2
      · go_wp2
        go_round
        case rel => exact ⟨2 * p + 1, by omega, by omega, ⟨k + 1, by omega, by have := e.out; have := q2.out; omega⟩, by go_num⟩
        case measure => simp [intOf]; omega
      · have a1 : 2 ^ k ≤ n + 1 := by have := e.out; omega
        have a2 : n + 1 < 2 ^ (k + 1) := by have := e.out; have := q2.out; omega
        have tw := two_hp n k a1 a2 hk
        replace a1 := hide a1
        replace a2 := hide a2
        clear pp
        by_cases d : p = n
        · have hd : ((p : Int) == (n : Int)) = true := by rw [beq_iff_eq]; omega
          have hr : ((p : Int) - 1) / 2 + 1 = (LB.lub i : Int) := by
            have x := tw.1 (by rw [← d]; exact e.out)
            have q : 2 ^ k = 2 * 2 ^ (k - 1) := by rw [← Nat.pow_succ', show (k - 1).succ = k by omega]
            have pq := LB.pow_pos2 (k - 1)
            have y := hl.out
            have z := e.out
            rw [← y, x]
            omega
          replace hr := hide hr
          replace tw := hide tw
          replace d := hide d
          go_wp2
          go_ret2
          exact ⟨ret_luby hr.out, rfl⟩
        · have hd : ((p : Int) == (n : Int)) = false := by rw [beq_eq_false_iff_ne]; omega
          have x := tw.2 (by rw [← e.out]; omega)
          replace tw := hide tw
          have hlt : p < n := by omega
          have y : LB.lub (n - p) = LB.lub i := by have := e.out; rw [this, ← x.1]; exact hl.out
          replace y := hide y
          replace x := hide x
          go_wp2
          go_round
          case rel => exact ⟨n - p, by omega, by omega, y, by congr 1; omega⟩
          case measure => simp [intOf]; omega
end Go.Proofs.Ytgbbljofhgfmgaa
