/-
  scan.simple and scan.writable, walked to plain words.
-/
import Derived.Test.YtjbalgjdcdmjjaaDoorScanWords
import Derived.Test.YtjbalgjdcdmjjaaDoorDecMath
import Derived.Test.YtjbalgjdcdmjjaaDoorQuoteMath
import Derived.Test.YtjbalgjdcdmjjaaDoorShelf
import Derived.Lib.OthersKept
import Derived.WalkMore
namespace Go.Proofs.YtjbalgjdcdmjjaaDoor
open Go.RowKit
set_option linter.unusedVariables false
theorem qcls_sym (b : UInt8) : (cls b.toNat ≤ 3) = (S.sym b = true) := by
  have h : (List.range 256).all (fun n => decide (decide (cls n ≤ 3) = S.sym (UInt8.ofNat n))) = true := by decide +kernel
  have := of_decide_eq_true (List.all_eq_true.1 h b.toNat (by simpa using b.toNat_lt))
  rw [UInt8.ofNat_toNat] at this
  rw [← this]
  simp
theorem qcls_dig (b : UInt8) : (cls b.toNat ≤ 1) = (S.dig b = true) := by
  have h : (List.range 256).all (fun n => decide (decide (cls n ≤ 1) = S.dig (UInt8.ofNat n))) = true := by decide +kernel
  have := of_decide_eq_true (List.all_eq_true.1 h b.toNat (by simpa using b.toNat_lt))
  rw [UInt8.ofNat_toNat] at this
  rw [← this]
  simp
theorem qcls_ctl (b : UInt8) : (cls b.toNat = 5) = (S.ctl b = true) := by
  have h : (List.range 256).all (fun n => decide (decide (cls n = 5) = S.ctl (UInt8.ofNat n))) = true := by decide +kernel
  have := of_decide_eq_true (List.all_eq_true.1 h b.toNat (by simpa using b.toNat_lt))
  rw [UInt8.ofNat_toNat] at this
  rw [← this]
  simp
theorem all_upto {l : List UInt8} {p : UInt8 → Bool} (k : Nat) (hk : k < l.length) (h : (l.take k).all p = true) (hp : p (l.getD k 0) = true) : (l.take (k + 1)).all p = true := by
  rw [List.take_succ_eq_append_getElem hk, List.all_append, h]
  rw [List.getD_eq_getElem?_getD, List.getElem?_eq_getElem hk] at hp
  simpa using hp
theorem all_not {l : List UInt8} {p : UInt8 → Bool} (k : Nat) (hk : k < l.length) (hp : p (l.getD k 0) = false) : l.all p = false := by
  rw [List.getD_eq_getElem?_getD, List.getElem?_eq_getElem hk] at hp
  cases h : l.all p
  · rfl
  · have := List.all_eq_true.1 h _ (List.getElem_mem hk)
    rw [show p l[k] = false from hp] at this
    exact absurd this (by simp)

theorem str_toList2 (s : ByteArray) : s.toList = s.data.toList := Lib.toList_data s
theorem str_ne4' {T s : ByteArray} (h : T ≠ s) : ¬ T.toList = s.toList ∧ (T.toList == s.toList) = false ∧ ¬ T.data.toList = s.data.toList ∧ ¬ T = s ∧ ¬ s = T := by
  have h3 : ¬ T.data.toList = s.data.toList := fun e => h (by
    cases T with
    | mk a => cases s with
      | mk b => simp at e; rw [e])
  have h2 : ¬ T.toList = s.toList := by rw [str_toList2, str_toList2]; exact h3
  exact ⟨h2, by simpa using h2, h3, h, fun e => h e.symm⟩
set_option maxRecDepth 100000 in
set_option maxHeartbeats 600000 in
theorem simple_calls (w : World) (hc : Cls w) (s : ByteArray) (l : List UInt8) (hs : s.data.toList = l) (hl : l.length ≤ 1073741824) :
    Calls Tryd.prog 69 #[.string s] w fun e w' => e = .returned (.bool (S.smp l)) ∧ w' = w := by
  have hn := size_of s l hs
  have hat := hide (fun (k : Nat) (h : k < s.size) => byteAt s l hs k h)
  obtain ⟨R, hR⟩ : ∃ R, S.smp l = R := ⟨_, rfl⟩
  rw [hR]
  replace hR := hide hR
  have hcH := hide hc
  have hs' := hide hs
  have hnH := hide hn
  have hz : s.size ≤ 1073741824 := by omega
  clear hc hs hn hl
  go_enter Tryd.func69, Tryd.ntmps69
  go_wp2
  go_loop [6] (fun j => ∃ k : Nat, k ≤ s.size ∧ j = .int .i64 k ∧ Hid ((l.take k).all S.sym = true)) (fun j => s.size - (intOf j).toNat)
  case atStart => exact ⟨0, Nat.zero_le _, rfl, rfl⟩
  case round =>
    obtain ⟨k, hk, rfl, hall⟩ := hrel
    by_cases hlt : k < s.size
    · have hkl : k < l.length := by rw [← hnH.out]; exact hlt
      have hb : s[k]'hlt = l.getD k 0 := hat.out k hlt
      obtain ⟨b, hbb⟩ : ∃ b, l.getD k 0 = b := ⟨_, rfl⟩
      rw [hbb] at hb
      have hcc := hcH.out b.toNat b.toNat_lt
      have i1 : (k : Int) < s.size := by omega
      have hy := qcls_sym b
      obtain ⟨cb, hcb⟩ : ∃ n, cls b.toNat = n := ⟨_, rfl⟩
      rw [hcb] at hcc hy
      have hbl : (b.toNat : Int) < 256 := by have := b.toNat_lt; omega
      cases hp : S.sym b with
      | true =>
        have hc3 : ¬ (3 : Int) < cb := by
          rw [hp] at hy
          have : cb ≤ 3 := by rw [hy]
          omega
        have hall2 : Hid ((l.take (k + 1)).all S.sym = true) := all_upto k hkl hall.out (by rw [hbb]; exact hp)
        clear hy hcb hall hbb hp
        go_wp2
        go_round
        case rel => exact ⟨k + 1, by omega, by go_num, hall2⟩
        case measure => simp [intOf]; omega
      | false =>
        have hc3 : (3 : Int) < cb := by
          rw [hp] at hy
          have : ¬ cb ≤ 3 := by rw [hy]; simp
          omega
        have hR2 : Hid (R = false) := by
          rw [← hR.out]
          have := all_not k hkl (p := S.sym) (by rw [hbb]; exact hp)
          cases l with
          | nil => rfl
          | cons x t =>
            show (!S.dig x && (x :: t).all S.sym) = false
            rw [this]
            simp
        clear hy hcb hall hbb hp
        go_wp2
        go_ret
        exact ⟨ret_bool (a := false) hR2.out.symm, rfl⟩
    · have hall2 : l.all S.sym = true := by
        have := hall.out
        rwa [show k = l.length from by have := hnH.out; omega, List.take_length] at this
      by_cases h0 : s.size = 0
      · have hl0 : l = [] := List.length_eq_zero_iff.1 (by rw [← hnH.out]; exact h0)
        have hse : s = ⟨#[]⟩ := by
          have := hs'.out
          rw [hl0] at this
          cases s with
          | mk a => simp at this; rw [this]
        have hR2 : Hid (R = false) := by rw [← hR.out, hl0]; rfl
        have i1 : ¬ (k : Int) < s.size := by omega
        clear hall hall2
        subst hse
        go_wp2
        go_ret
        exact ⟨ret_bool (a := false) hR2.out.symm, rfl⟩
      · have h0' : 0 < s.size := by omega
        have hb : s[0]'h0' = l.getD 0 0 := hat.out 0 h0'
        obtain ⟨b, hbb⟩ : ∃ b, l.getD 0 0 = b := ⟨_, rfl⟩
        rw [hbb] at hb
        have hcc := hcH.out b.toNat b.toNat_lt
        have hy := qcls_dig b
        obtain ⟨cb, hcb⟩ : ∃ n, cls b.toNat = n := ⟨_, rfl⟩
        rw [hcb] at hcc hy
        have hbl : (b.toNat : Int) < 256 := by have := b.toNat_lt; omega
        have hR2 : Hid (R = !S.dig b) := by
          rw [← hR.out]
          cases l with
          | nil => exact absurd hnH.out h0
          | cons x t =>
            have : x = b := hbb
            subst this
            show (!S.dig x && (x :: t).all S.sym) = _
            rw [hall2, Bool.and_true]
        have hne : s ≠ ⟨#[]⟩ := by
          intro e
          rw [e] at h0
          exact h0 rfl
        have n6 : ¬ s.toList = [] := by rw [str_toList2]; intro e; exact h0 (by rw [hnH.out, ← hs'.out, e]; rfl)
        have n7 : (s.toList == []) = false := by simpa using n6
        have n8 : s.toList.isEmpty = false := by simpa using n6
        obtain ⟨n1, n2, n3, n4, n5⟩ := str_ne4' hne
        have i1 : ¬ (k : Int) < s.size := by omega
        have i2 : (0 : Int) < s.size := by omega
        cases hp : S.dig b with
        | true =>
          have hc3 : ¬ (1 : Int) < cb := by
            rw [hp] at hy
            have : cb ≤ 1 := by rw [hy]
            omega
          rw [hp] at hR2
          clear hy hcb hall hbb hp hall2
          go_wp2
          go_ret
          exact ⟨ret_bool (a := false) hR2.out.symm, rfl⟩
        | false =>
          have hc3 : (1 : Int) < cb := by
            rw [hp] at hy
            have : ¬ cb ≤ 1 := by rw [hy]; simp
            omega
          rw [hp] at hR2
          clear hy hcb hall hbb hp hall2
          go_wp2
          go_ret
          exact ⟨ret_bool (a := true) hR2.out.symm, rfl⟩
end Go.Proofs.YtjbalgjdcdmjjaaDoor
