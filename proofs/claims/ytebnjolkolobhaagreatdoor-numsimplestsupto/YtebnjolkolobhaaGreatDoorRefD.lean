/- Laid together of: RefLit, RefReadN. -/
import Derived.Test.YtebnjolkolobhaaGreatDoorReadA
import Derived.Test.YtebnjolkolobhaaGreatDoorRefC
/- ==== RefLit ==== -/
namespace Go.Proofs.YtebnjolkolobhaaGreatDoor
open Go.RowKit
set_option linter.unusedVariables false
set_option maxRecDepth 100000 in
set_option maxHeartbeats 4000000 in
theorem rdigits_calls (w : World) (s : ByteArray) (l : List UInt8) (hs : s.data.toList = l) (hlen : l.length ≤ 1099511627776) :
    Calls Tryz.prog 93 #[.string s] w fun e w' => e = .returned (.bool (decide (Lit l))) ∧ w' = w := by
  obtain ⟨gb, hgb⟩ : ∃ gb, decide (Lit l) = gb := ⟨_, rfl⟩
  rw [hgb]
  replace hgb := hide hgb
  have hz := size_of s l hs
  have HL := hide hs
  clear hs
  go_enter Tryz.func93, Tryz.ntmps93
  go_wp2
  go_loopw [3] (fun j wr' => ∃ q : Nat, q ≤ l.length ∧ j = .int .i64 q ∧ Hid (M.Digs (l.take q)) ∧ wr' = w) (fun j _ => l.length - (intOf j).toNat)
  case atStart => exact ⟨0, Nat.zero_le _, rfl, fun b hb => by simp at hb, rfl⟩
  case round =>
    obtain ⟨q, hq, rfl, hd, hw⟩ := hrel
    subst hw
    by_cases hlt2 : q < l.length
    · have hqs : q < s.size := by omega
      have hb := byteAt s l HL.out q hqs
      have hgo := hide (fun h1 h2 => digs_take_succ hd.out hlt2 h1 h2)
      have hno := hide (fun h => not_digs hlt2 h)
      have hbb : (l.getD q 0).toNat < 256 := UInt8.toNat_lt _
      have hbad : Hid (¬ (48 ≤ (l.getD q 0).toNat ∧ (l.getD q 0).toNat ≤ 57) → gb = false) := fun h => by rw [← hgb.out]; exact decide_eq_false (fun hA => hno.out h hA.1.2)
      generalize l.getD q 0 = b at *
      by_cases h48 : b.toNat < 48
      · go_wp2
        go_ret
        exact ⟨congrArg (fun b => Ending.returned (.bool b)) (hbad.out (by omega)).symm, rfl⟩
      · by_cases h57 : 57 < b.toNat
        · go_wp2
          go_ret
          exact ⟨congrArg (fun b => Ending.returned (.bool b)) (hbad.out (by omega)).symm, rfl⟩
        · go_wp2
          go_roundw
          case rel => exact ⟨q + 1, by omega, by simp, hgo.out (by omega) (by omega), trivial⟩
          case measure => simp [intOf]; omega
    · obtain rfl : q = l.length := by omega
      rw [List.take_length] at hd
      by_cases he : l = []
      · have hG : Hid (gb = false) := by rw [← hgb.out]; exact decide_eq_false (fun hA => hA.1.1 he)
        have h0 : l.length = 0 := by rw [he]; rfl
        subst he
        go_wp2
        go_ret
        exact ⟨congrArg (fun b => Ending.returned (.bool b)) hG.out.symm, rfl⟩
      · have h0 : 0 < l.length := List.length_pos_iff.2 he
        have hqs : 0 < s.size := by omega
        have hb := byteAt s l HL.out 0 hqs
        by_cases h1 : l.length = 1
        · have hG : Hid (gb = true) := by rw [← hgb.out]; exact decide_eq_true ⟨⟨he, hd.out⟩, .inl h1⟩
          go_wp2
          go_ret
          exact ⟨congrArg (fun b => Ending.returned (.bool b)) hG.out.symm, rfl⟩
        · have h2 : (1 : Int) < (l.length : Int) := by omega
          have h3 : ¬ (l.length : Int) = 1 := by omega
          have hG : Hid (gb = decide (l.getD 0 0 ≠ 48)) := by
            rw [← hgb.out]
            refine decide_eq_decide.2 ⟨fun h => h.2.resolve_left h1, fun h => ⟨⟨he, hd.out⟩, .inr h⟩⟩
          have hgen : Hid (∀ b : UInt8, b.toNat = 48 ↔ b = 48) := fun b => ⟨fun h => UInt8.toNat_inj.1 (by simpa using h), fun h => by rw [h]; rfl⟩
          have hbb : (l.getD 0 0).toNat < 256 := UInt8.toNat_lt _
          clear hgb
          generalize l.getD 0 0 = b at *
          by_cases h48 : b.toNat = 48
          · have hR : Hid (gb = false) := by rw [hG.out]; exact decide_eq_false (fun h => h ((hgen.out b).1 h48))
            clear hG he
            go_wp2
            go_ret
            exact ⟨congrArg (fun b => Ending.returned (.bool b)) (show _ = gb by rw [hR.out]; simp; omega), rfl⟩
          · have hR : Hid (gb = true) := by rw [hG.out]; exact decide_eq_true (fun h => h48 ((hgen.out b).2 h))
            clear hG he
            go_wp2
            go_ret
            exact ⟨congrArg (fun b => Ending.returned (.bool b)) (show _ = gb by rw [hR.out]; simp; omega), rfl⟩
end Go.Proofs.YtebnjolkolobhaaGreatDoor
/- ==== RefReadN ==== -/
namespace Go.Proofs.YtebnjolkolobhaaGreatDoor
open Go.RowKit
set_option linter.unusedVariables false
theorem ten_NB (k K : Nat) (h : k < K) : ((10 ^ k : Nat) : Int) < M.NB ^ K := by
  rw [M.NB_pow]
  have h1 : (10 : Nat) ^ k < 10 ^ (9 * K) := Nat.pow_lt_pow_right (by decide) (by omega)
  exact_mod_cast h1
theorem text_one (n : Nat) : rText false n 1 = lowText false (n / Nat.gcd n 1) (1 / Nat.gcd n 1) := by
  have h := text_same false n 1 (by decide)
  rw [← h]
  simp
theorem first_at (c : UInt8) (l : List UInt8) : (∀ j, j < l.length → l.getD j 0 ≠ c) ∨ ∃ q, q < l.length ∧ l.getD q 0 = c ∧ ∀ j, j < q → l.getD j 0 ≠ c := by
  induction l with
  | nil => exact .inl (fun j hj => by simp at hj)
  | cons b l ih =>
    by_cases hb : b = c
    · exact .inr ⟨0, by simp, by simpa using hb, fun j hj => absurd hj (Nat.not_lt_zero j)⟩
    · rcases ih with h | ⟨q, h1, h2, h3⟩
      · refine .inl (fun j hj => ?_)
        cases j with
        | zero => simpa using hb
        | succ j => have := h j (by simpa using hj); simpa using this
      · refine .inr ⟨q + 1, by simpa using h1, by simpa using h2, fun j hj => ?_⟩
        cases j with
        | zero => simpa using hb
        | succ j => have := h3 j (by omega); simpa using this
theorem div_NB {a b : Nat} {K : Nat} (h : (a : Int) < M.NB ^ K) : ((a / b : Nat) : Int) < M.NB ^ K := Int.lt_of_le_of_lt (by have := Nat.div_le_self a b; omega) h
end Go.Proofs.YtebnjolkolobhaaGreatDoor
