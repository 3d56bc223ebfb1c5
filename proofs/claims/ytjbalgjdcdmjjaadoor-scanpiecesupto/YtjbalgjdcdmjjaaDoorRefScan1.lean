/-
  The document's side of scan: classes of bytes.
-/
import Derived.Test.YtjbalgjdcdmjjaaDoorScanStands
namespace Go.Proofs.YtjbalgjdcdmjjaaDoor
open Go.RowKit
set_option linter.unusedVariables false
theorem ret_int {k : IntKind} {a b : Int} (h : a = b) : Ending.returned (.int k a) = .returned (.int k b) := by rw [h]
theorem rDigit_calls (w : World) (b : UInt8) : Calls Tryd.prog 45 #[.int .u8 b.toNat] w fun e w' => e = .returned (.bool (S.dig b)) ∧ w' = w := by
  by_cases h1 : 48 ≤ b.toNat
  · have i1 : (48 : Int) ≤ b.toNat := by omega
    by_cases h2 : b.toNat ≤ 57
    · have i2 : (b.toNat : Int) ≤ 57 := by omega
      rw [show S.dig b = true from by simp [S.dig, h1, h2]]
      go_enter Tryd.func45, Tryd.ntmps45
      go_wp2
      go_ret
      exact ⟨rfl, rfl⟩
    · have i2 : ¬ (b.toNat : Int) ≤ 57 := by omega
      rw [show S.dig b = false from by simp [S.dig, h2]]
      go_enter Tryd.func45, Tryd.ntmps45
      go_wp2
      go_ret
      exact ⟨rfl, rfl⟩
  · have i1 : ¬ (48 : Int) ≤ b.toNat := by omega
    rw [show S.dig b = false from by simp [S.dig, h1]]
    go_enter Tryd.func45, Tryd.ntmps45
    go_wp2
    go_ret
    exact ⟨rfl, rfl⟩
theorem rWhite_calls (w : World) (b : UInt8) : Calls Tryd.prog 39 #[.int .u8 b.toNat] w fun e w' => e = .returned (.bool (S.white b)) ∧ w' = w := by
  obtain ⟨B, hB⟩ : ∃ B, S.white b = B := ⟨_, rfl⟩
  rw [hB]
  unfold S.white at hB
  replace hB := hide hB
  by_cases c1 : b.toNat = 9
  · have i1 : ((b.toNat : Int) == 9) = true := by simp; omega
    go_enter Tryd.func39, Tryd.ntmps39
    go_wp2
    go_ret
    exact ⟨ret_bool (by rw [← hB.out]; simp [c1]), rfl⟩
  have i1 : ((b.toNat : Int) == 9) = false := by simp; omega
  by_cases c2 : b.toNat = 10
  · have i2 : ((b.toNat : Int) == 10) = true := by simp; omega
    go_enter Tryd.func39, Tryd.ntmps39
    go_wp2
    go_ret
    exact ⟨ret_bool (by rw [← hB.out]; simp [c2]), rfl⟩
  have i2 : ((b.toNat : Int) == 10) = false := by simp; omega
  by_cases c3 : b.toNat = 13
  · have i3 : ((b.toNat : Int) == 13) = true := by simp; omega
    go_enter Tryd.func39, Tryd.ntmps39
    go_wp2
    go_ret
    exact ⟨ret_bool (by rw [← hB.out]; simp [c3]), rfl⟩
  have i3 : ((b.toNat : Int) == 13) = false := by simp; omega
  by_cases c4 : b.toNat = 32
  · have i4 : ((b.toNat : Int) == 32) = true := by simp; omega
    go_enter Tryd.func39, Tryd.ntmps39
    go_wp2
    go_ret
    exact ⟨ret_bool (by rw [← hB.out]; simp [c4]), rfl⟩
  have i4 : ((b.toNat : Int) == 32) = false := by simp; omega
  go_enter Tryd.func39, Tryd.ntmps39
  go_wp2
  go_ret
  exact ⟨ret_bool (by rw [← hB.out]; simp [c1, c2, c3, c4]), rfl⟩
theorem rControl_calls (w : World) (b : UInt8) : Calls Tryd.prog 40 #[.int .u8 b.toNat] w fun e w' => e = .returned (.bool (S.ctl b)) ∧ w' = w := by
  have q := hide (fun W => rWhite_calls W b)
  unfold S.ctl
  obtain ⟨V, hV⟩ : ∃ V, S.white b = V := ⟨_, rfl⟩
  rw [hV] at q ⊢
  clear hV
  by_cases h1 : b.toNat < 32
  · have i1 : (b.toNat : Int) < 32 := by omega
    have i2 : ((b.toNat : Int) == 127) = false := by simp; omega
    rw [decide_eq_true h1, decide_eq_false (by omega : ¬ b.toNat = 127)]
    cases V
    all_goals
      go_enter Tryd.func40, Tryd.ntmps40
      go_wp2_with (go_at_call 39; refine (q.out _).mono ?_; rintro e w1 ⟨rfl, rfl⟩)
      go_ret
      exact ⟨rfl, rfl⟩
  · have i1 : ¬ (b.toNat : Int) < 32 := by omega
    rw [decide_eq_false h1, Bool.false_and, Bool.false_or]
    by_cases h2 : b.toNat = 127
    · have i2 : (b.toNat : Int) = 127 := by omega
      rw [decide_eq_true h2, i2]
      rw [i2] at i1
      go_enter Tryd.func40, Tryd.ntmps40
      go_wp2
      go_ret
      exact ⟨rfl, rfl⟩
    · have i2 : ((b.toNat : Int) == 127) = false := by simp; omega
      rw [decide_eq_false h2]
      go_enter Tryd.func40, Tryd.ntmps40
      go_wp2
      go_ret
      exact ⟨rfl, rfl⟩
theorem rSmall_calls (w : World) (b : UInt8) : Calls Tryd.prog 56 #[.int .u8 b.toNat] w fun e w' => e = .returned (.int .u8 (S.small b).toNat) ∧ w' = w := by
  by_cases h1 : 65 ≤ b.toNat
  · have i1 : (65 : Int) ≤ b.toNat := by omega
    by_cases h2 : b.toNat ≤ 70
    · have i2 : (b.toNat : Int) ≤ 70 := by omega
      have e1 : S.small b = b + 32 := by simp [S.small, h1, h2]
      have e2 : Hid ((b.toNat : Int) + 32 = ((b + 32).toNat : Nat)) := by simp only [Hid, UInt8.toNat_add]; have : (32 : UInt8).toNat = 32 := rfl; omega
      rw [e1]
      clear e1
      go_enter Tryd.func56, Tryd.ntmps56
      go_wp2
      go_ret
      exact ⟨ret_int e2.out, rfl⟩
    · have i2 : ¬ (b.toNat : Int) ≤ 70 := by omega
      rw [show S.small b = b from by simp [S.small, h2]]
      go_enter Tryd.func56, Tryd.ntmps56
      go_wp2
      go_ret
      exact ⟨rfl, rfl⟩
  · have i1 : ¬ (65 : Int) ≤ b.toNat := by omega
    rw [show S.small b = b from by simp [S.small, h1]]
    go_enter Tryd.func56, Tryd.ntmps56
    go_wp2
    go_ret
    exact ⟨rfl, rfl⟩
/-- A hexadecimal digit, its letters small. -/
def hexS (b : UInt8) : Bool := S.dig b || decide (97 ≤ b.toNat ∧ b.toNat ≤ 102)
theorem rHex_calls (w : World) (b : UInt8) : Calls Tryd.prog 57 #[.int .u8 b.toNat] w fun e w' => e = .returned (.bool (hexS b)) ∧ w' = w := by
  have q := hide (fun W => rDigit_calls W b)
  unfold hexS
  obtain ⟨V, hV⟩ : ∃ V, S.dig b = V := ⟨_, rfl⟩
  rw [hV] at q ⊢
  clear hV
  by_cases h1 : 97 ≤ b.toNat
  · have i1 : (97 : Int) ≤ b.toNat := by omega
    by_cases h2 : b.toNat ≤ 102
    · have i2 : (b.toNat : Int) ≤ 102 := by omega
      rw [decide_eq_true ⟨h1, h2⟩]
      cases V
      all_goals
        go_enter Tryd.func57, Tryd.ntmps57
        go_wp2_with (go_at_call 45; refine (q.out _).mono ?_; rintro e w1 ⟨rfl, rfl⟩)
        go_ret
        exact ⟨rfl, rfl⟩
    · have i2 : decide ((b.toNat : Int) ≤ 102) = false := by simp; omega
      rw [decide_eq_false (fun h => h2 h.2)]
      cases V
      all_goals
        go_enter Tryd.func57, Tryd.ntmps57
        go_wp2_with (go_at_call 45; refine (q.out _).mono ?_; rintro e w1 ⟨rfl, rfl⟩)
        go_ret
        exact ⟨rfl, rfl⟩
  · have i1 : ¬ (97 : Int) ≤ b.toNat := by omega
    rw [decide_eq_false (fun h => h1 h.1)]
    cases V
    all_goals
      go_enter Tryd.func57, Tryd.ntmps57
      go_wp2_with (go_at_call 45; refine (q.out _).mono ?_; rintro e w1 ⟨rfl, rfl⟩)
      go_ret
      exact ⟨rfl, rfl⟩
def fewB : List UInt8 := [126, 33, 64, 36, 37, 94, 38, 42, 95, 45, 43, 61, 60, 62, 46, 63, 47]
theorem few_iff (b : UInt8) : S.few.contains b.toNat = fewB.contains b := of_decide_eq_true (all_bytes (P := fun b => decide (S.few.contains b.toNat = fewB.contains b)) (by decide +kernel) b)
set_option maxRecDepth 100000 in
theorem rSym_few (w : World) (b : UInt8) (hd : S.dig b = false) (h2 : ¬ (97 ≤ b.toNat ∧ b.toNat ≤ 122)) (h3 : ¬ (65 ≤ b.toNat ∧ b.toNat ≤ 90)) : Calls Tryd.prog 48 #[.int .u8 b.toNat] w fun e w' => e = .returned (.bool (fewB.contains b)) ∧ w' = w := by
  have q := hide (fun W => rDigit_calls W b)
  rw [hd] at q
  have h4 : (97 ≤ b.toNat ∧ 122 < b.toNat) ∨ (b.toNat < 97 ∧ 65 ≤ b.toNat ∧ 90 < b.toNat) ∨ (b.toNat < 97 ∧ b.toNat < 65) := by omega
  obtain ⟨R, hR⟩ : ∃ R, fewB.contains b = R := ⟨_, rfl⟩
  rw [hR]
  replace hR := hide hR
  clear hd h2 h3
  rcases h4 with ⟨c1, c2⟩ | ⟨c1, c2, c3⟩ | ⟨c1, c2⟩
  all_goals
    first
      | (have i1 : (97 : Int) ≤ b.toNat := by omega
         have i2 : ¬ (b.toNat : Int) ≤ 122 := by omega
         have i3 : (65 : Int) ≤ b.toNat := by omega
         have i4 : ¬ (b.toNat : Int) ≤ 90 := by omega)
      | (have i1 : ¬ (97 : Int) ≤ b.toNat := by omega
         have i3 : (65 : Int) ≤ b.toNat := by omega
         have i4 : ¬ (b.toNat : Int) ≤ 90 := by omega)
      | (have i1 : ¬ (97 : Int) ≤ b.toNat := by omega
         have i3 : ¬ (65 : Int) ≤ b.toNat := by omega)
    go_enter Tryd.func48, Tryd.ntmps48
    go_wp2_with (go_at_call 45; refine (q.out _).mono ?_; rintro e w1 ⟨rfl, rfl⟩)
    generalize hF : (⟨#[126, 33, 64, 36, 37, 94, 38, 42, 95, 45, 43, 61, 60, 62, 46, 63, 47]⟩ : ByteArray) = F
    have hF0 : Hid (F.data.toList = fewB) := by rw [← hF]; rfl
    have hz : F.size = 17 := by rw [← hF]; rfl
    clear hF
    have hat := hide (fun (k : Nat) (h : k < F.size) => byteAt F fewB hF0.out k h)
    go_loop [4] (fun i => ∃ k : Nat, k ≤ 17 ∧ i = .int .i64 k ∧ Hid (∀ j, j < k → fewB.getD j 0 ≠ b)) (fun i => 17 - (intOf i).toNat)
    case atStart => exact ⟨0, Nat.zero_le _, rfl, fun j h => absurd h (Nat.not_lt_zero j)⟩
    case round =>
      obtain ⟨k, hk, rfl, hno⟩ := hrel
      by_cases hlt : k < F.size
      · have hb : F[k]'hlt = fewB.getD k 0 := hat.out k hlt
        by_cases he : fewB.getD k 0 = b
        · rw [he] at hb
          have hin : Hid (R = true) := by
            rw [← hR.out]
            rw [hz] at hlt
            have hm : b ∈ fewB := by
              rw [← he, List.getD_eq_getElem?_getD, List.getElem?_eq_getElem (show k < fewB.length from hlt)]
              exact List.getElem_mem _
            exact List.contains_iff_mem.2 hm
          go_wp2
          go_ret
          exact ⟨ret_bool (a := true) hin.out.symm, rfl⟩
        · have hne : ¬ ((fewB.getD k 0).toNat : Int) = b.toNat := fun e => he (UInt8.toNat_inj.1 (by omega))
          have hno2 : Hid (∀ j, j < k + 1 → fewB.getD j 0 ≠ b) := by
            intro j hj
            by_cases h : j = k
            · rw [h]; exact he
            · exact hno.out j (by omega)
          generalize fewB.getD k 0 = y at hb hne
          clear hno he
          go_wp2
          go_round
          case rel => exact ⟨k + 1, by omega, by go_num, hno2⟩
          case measure => simp [intOf]; omega
      · have hout : Hid (R = false) := by
          rw [← hR.out]
          have hk17 : k = 17 := by omega
          have hnm : ¬ b ∈ fewB := by
            intro hm
            obtain ⟨j, hj, e⟩ := List.getElem_of_mem hm
            refine hno.out j (by rw [hk17]; exact hj) ?_
            rw [List.getD_eq_getElem?_getD, List.getElem?_eq_getElem hj]
            exact e
          rw [Bool.eq_false_iff]
          intro h
          exact hnm (List.contains_iff_mem.1 h)
        go_wp2
        go_ret
        exact ⟨ret_bool (a := false) hout.out.symm, rfl⟩
theorem rSym_calls (w : World) (b : UInt8) : Calls Tryd.prog 48 #[.int .u8 b.toNat] w fun e w' => e = .returned (.bool (S.sym b)) ∧ w' = w := by
  by_cases hd : S.dig b = true
  · have q := hide (fun W => rDigit_calls W b)
    rw [hd] at q
    rw [show S.sym b = true from by simp [S.sym, hd]]
    clear hd
    go_enter Tryd.func48, Tryd.ntmps48
    go_wp2_with (go_at_call 45; refine (q.out _).mono ?_; rintro e w1 ⟨rfl, rfl⟩)
    go_ret
    exact ⟨rfl, rfl⟩
  rw [Bool.not_eq_true] at hd
  by_cases h2 : 97 ≤ b.toNat ∧ b.toNat ≤ 122
  · have q := hide (fun W => rDigit_calls W b)
    rw [hd] at q
    rw [show S.sym b = true from by simp [S.sym, h2]]
    have i1 : (97 : Int) ≤ b.toNat := by omega
    have i2 : (b.toNat : Int) ≤ 122 := by omega
    clear hd h2
    go_enter Tryd.func48, Tryd.ntmps48
    go_wp2_with (go_at_call 45; refine (q.out _).mono ?_; rintro e w1 ⟨rfl, rfl⟩)
    go_ret
    exact ⟨rfl, rfl⟩
  by_cases h3 : 65 ≤ b.toNat ∧ b.toNat ≤ 90
  · have q := hide (fun W => rDigit_calls W b)
    rw [hd] at q
    rw [show S.sym b = true from by simp [S.sym, h3]]
    have i1 : ¬ (97 : Int) ≤ b.toNat := by omega
    have i3 : (65 : Int) ≤ b.toNat := by omega
    have i4 : (b.toNat : Int) ≤ 90 := by omega
    clear hd h2 h3
    go_enter Tryd.func48, Tryd.ntmps48
    go_wp2_with (go_at_call 45; refine (q.out _).mono ?_; rintro e w1 ⟨rfl, rfl⟩)
    go_ret
    exact ⟨rfl, rfl⟩
  rw [show S.sym b = fewB.contains b from by simp only [S.sym, hd, decide_eq_false h2, decide_eq_false h3, Bool.false_or, few_iff]]
  exact rSym_few w b hd h2 h3
end Go.Proofs.YtjbalgjdcdmjjaaDoor
