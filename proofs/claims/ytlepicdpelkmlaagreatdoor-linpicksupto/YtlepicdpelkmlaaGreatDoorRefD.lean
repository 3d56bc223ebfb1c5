/- Laid together of: ReadMath, RefLit, RefReadN. -/
import Derived.Test.YtlepicdpelkmlaaGreatDoorAll8
import Derived.Test.YtlepicdpelkmlaaGreatDoorRefB
import Derived.Test.YtlepicdpelkmlaaGreatDoorRefC
/- ==== ReadMath ==== -/
namespace Go.Proofs.YtlepicdpelkmlaaGreatDoor
open Go.RowKit
set_option linter.unusedVariables false
/-- A numeral without zeros ahead. -/
abbrev Lit (u : List UInt8) : Prop := Good u ∧ (u.length = 1 ∨ u.getD 0 0 ≠ 48)
/-- What Read answers, of the parts of a text: ahead of the point, behind it, is there a point. -/
def readParts (u t : List UInt8) (b : Bool) : List UInt8 × Int :=
  if Lit u ∧ (b = true → Good t) then (lowText false (M.dec (u ++ t) / Nat.gcd (M.dec (u ++ t)) (10 ^ t.length)) (10 ^ t.length / Nat.gcd (M.dec (u ++ t)) (10 ^ t.length)), 0) else ([], 1)
def readText (l : List UInt8) : List UInt8 × Int := readParts (Lib.cut l [46]).1 (Lib.cut l [46]).2.1 (Lib.cut l [46]).2.2
theorem indexc_at (c : UInt8) (t : List UInt8) (i : Nat) (h : ∀ j, j < i → t.getD j 0 ≠ c) (hi : i < t.length) (hb : t.getD i 0 = c) : Lib.index t [c] = (i : Int) := by
  induction t generalizing i with
  | nil => simp at hi
  | cons b l ih =>
    rw [Lib.index]
    cases i with
    | zero =>
      simp at hb
      subst hb
      simp [List.isPrefixOf]
    | succ i =>
      have hb0 : b ≠ c := by simpa using h 0 (by omega)
      have h2 := ih i (fun j hj => by have := h (j + 1) (by omega); simpa using this) (by simpa using hi) (by simpa using hb)
      rw [h2]
      have e1 : ([c] : List UInt8).isPrefixOf (b :: l) = false := by simp [List.isPrefixOf]; exact fun e => hb0 e.symm
      rw [e1]
      have e2 : ((i : Int) == -1) = false := by simp
      simp [e2]
theorem indexc_none (c : UInt8) (t : List UInt8) (h : ∀ j, j < t.length → t.getD j 0 ≠ c) : Lib.index t [c] = -1 := by
  induction t with
  | nil => rfl
  | cons b l ih =>
    rw [Lib.index]
    have hb0 : b ≠ c := by simpa using h 0 (by simp)
    have h2 := ih (fun j hj => by have := h (j + 1) (by simpa using hj); simpa using this)
    have e1 : ([c] : List UInt8).isPrefixOf (b :: l) = false := by simp [List.isPrefixOf]; exact fun e => hb0 e.symm
    rw [h2, e1]
    rfl
theorem cutp_at (t : List UInt8) (i : Nat) (h : ∀ j, j < i → t.getD j 0 ≠ 46) (hi : i < t.length) (hb : t.getD i 0 = 46) : Lib.cut t [46] = (t.take i, t.drop (i + 1), true) := by
  unfold Lib.cut
  rw [indexc_at 46 t i h hi hb, if_pos (by omega)]
  rfl
theorem cutp_none (t : List UInt8) (h : ∀ j, j < t.length → t.getD j 0 ≠ 46) : Lib.cut t [46] = (t, [], false) := by
  unfold Lib.cut
  rw [indexc_none 46 t h, if_neg (by decide)]
theorem cutp_len (l : List UInt8) : (Lib.cut l [46]).1.length + (Lib.cut l [46]).2.1.length ≤ l.length := by
  unfold Lib.cut
  split
  · rw [List.length_take, List.length_drop]
    simp
    omega
  · simp
/-- Without a point nothing lies behind it. -/
theorem cutp_nil (l : List UInt8) (h : (Lib.cut l [46]).2.2 = false) : (Lib.cut l [46]).2.1 = [] := by
  unfold Lib.cut at h ⊢
  split
  · rename_i h2
    rw [if_pos h2] at h
    simp at h
  · rfl
theorem digs_app {u t : List UInt8} (h1 : M.Digs u) (h2 : M.Digs t) : M.Digs (u ++ t) := fun b hb => by
  rcases List.mem_append.1 hb with h | h
  · exact h1 b h
  · exact h2 b h
theorem read_no {u t : List UInt8} {b : Bool} (h : ¬ (Lit u ∧ (b = true → Good t))) : readParts u t b = ([], 1) := by
  unfold readParts
  rw [if_neg h]
theorem read_yes {u t : List UInt8} {b : Bool} (h : Lit u ∧ (b = true → Good t)) : readParts u t b = (lowText false (M.dec (u ++ t) / Nat.gcd (M.dec (u ++ t)) (10 ^ t.length)) (10 ^ t.length / Nat.gcd (M.dec (u ++ t)) (10 ^ t.length)), 0) := by
  unfold readParts
  rw [if_pos h]
theorem ten_bb (k K : Nat) (h : k < K) : ((10 ^ k : Nat) : Int) < M.BB ^ K := by
  have h1 : 10 ^ k ≤ 18446744073709551616 ^ k := Nat.pow_le_pow_left (by decide) _
  have h2 : (18446744073709551616 : Nat) ^ k < 18446744073709551616 ^ K := Nat.pow_lt_pow_right (by decide) h
  have h3 : M.BB ^ K = ((18446744073709551616 ^ K : Nat) : Int) := by rw [Int.natCast_pow]; rfl
  rw [h3]
  exact_mod_cast Nat.lt_of_le_of_lt h1 h2
theorem one_cell (w : World) (x : Value) (t : TypeId) : (w.alloc (.cells #[x] t)).cell? ⟨w.heap.size, 0, none⟩ = some x := by
  have h := heap_alloc_new w (.cells #[x] t)
  rw [cell_of_row _ w.heap.size 0 _ _ (0, 0) h]
  rfl
end Go.Proofs.YtlepicdpelkmlaaGreatDoor
/- ==== RefLit ==== -/
namespace Go.Proofs.YtlepicdpelkmlaaGreatDoor
open Go.RowKit
set_option linter.unusedVariables false
set_option maxRecDepth 100000 in
set_option maxHeartbeats 4000000 in
theorem rdigits_calls (w : World) (s : ByteArray) (l : List UInt8) (hs : s.data.toList = l) (hlen : l.length ≤ 1099511627776) :
    Calls Tryz.prog 66 #[.string s] w fun e w' => e = .returned (.bool (decide (Lit l))) ∧ w' = w := by
  obtain ⟨gb, hgb⟩ : ∃ gb, decide (Lit l) = gb := ⟨_, rfl⟩
  rw [hgb]
  replace hgb := hide hgb
  have hz := size_of s l hs
  have HL := hide hs
  clear hs
  go_enter Tryz.func66, Tryz.ntmps66
  go_wp2
  go_loopw [3] (fun j wr' => ∃ q : Nat, q ≤ l.length ∧ j = .int .i64 q ∧ Hid (M.Digs (l.take q)) ∧ wr' = w) (fun j _ => l.length - (intOf j).toNat)
  case atStart => exact ⟨0, Nat.zero_le _, rfl, fun b hb => by simp at hb, rfl⟩
  case round =>
    obtain ⟨q, hq, rfl, hd, hw⟩ := hrel
    subst hw
    by_cases hlt2 : q < l.length
    · have hqs : q < s.size := by omega
      have hb := byteAt s l HL.out q hqs
      have hgo := hide (fun h1 h2 => digs_take_succ hd.out hlt2 h1 h2)
      have hno := hide (fun h => not_digs hlt2 h)
      have hbb : (l.getD q 0).toNat < 256 := UInt8.toNat_lt _
      have hbad : Hid (¬ (48 ≤ (l.getD q 0).toNat ∧ (l.getD q 0).toNat ≤ 57) → gb = false) := fun h => by rw [← hgb.out]; exact decide_eq_false (fun hA => hno.out h hA.1.2)
      generalize l.getD q 0 = b at *
      by_cases h48 : b.toNat < 48
      · go_wp2
        go_ret
        exact ⟨congrArg (fun b => Ending.returned (.bool b)) (hbad.out (by omega)).symm, rfl⟩
      · by_cases h57 : 57 < b.toNat
        · go_wp2
          go_ret
          exact ⟨congrArg (fun b => Ending.returned (.bool b)) (hbad.out (by omega)).symm, rfl⟩
        · go_wp2
          go_roundw
          case rel => exact ⟨q + 1, by omega, by simp, hgo.out (by omega) (by omega), trivial⟩
          case measure => simp [intOf]; omega
    · obtain rfl : q = l.length := by omega
      rw [List.take_length] at hd
      by_cases he : l = []
      · have hG : Hid (gb = false) := by rw [← hgb.out]; exact decide_eq_false (fun hA => hA.1.1 he)
        have h0 : l.length = 0 := by rw [he]; rfl
        subst he
        go_wp2
        go_ret
        exact ⟨congrArg (fun b => Ending.returned (.bool b)) hG.out.symm, rfl⟩
      · have h0 : 0 < l.length := List.length_pos_iff.2 he
        have hqs : 0 < s.size := by omega
        have hb := byteAt s l HL.out 0 hqs
        by_cases h1 : l.length = 1
        · have hG : Hid (gb = true) := by rw [← hgb.out]; exact decide_eq_true ⟨⟨he, hd.out⟩, .inl h1⟩
          go_wp2
          go_ret
          exact ⟨congrArg (fun b => Ending.returned (.bool b)) hG.out.symm, rfl⟩
        · have h2 : (1 : Int) < (l.length : Int) := by omega
          have h3 : ¬ (l.length : Int) = 1 := by omega
          have hG : Hid (gb = decide (l.getD 0 0 ≠ 48)) := by
            rw [← hgb.out]
            refine decide_eq_decide.2 ⟨fun h => h.2.resolve_left h1, fun h => ⟨⟨he, hd.out⟩, .inr h⟩⟩
          have hgen : Hid (∀ b : UInt8, b.toNat = 48 ↔ b = 48) := fun b => ⟨fun h => UInt8.toNat_inj.1 (by simpa using h), fun h => by rw [h]; rfl⟩
          have hbb : (l.getD 0 0).toNat < 256 := UInt8.toNat_lt _
          clear hgb
          generalize l.getD 0 0 = b at *
          by_cases h48 : b.toNat = 48
          · have hR : Hid (gb = false) := by rw [hG.out]; exact decide_eq_false (fun h => h ((hgen.out b).1 h48))
            clear hG he
            go_wp2
            go_ret
            exact ⟨congrArg (fun b => Ending.returned (.bool b)) (show _ = gb by rw [hR.out]; simp; omega), rfl⟩
          · have hR : Hid (gb = true) := by rw [hG.out]; exact decide_eq_true (fun h => h48 ((hgen.out b).2 h))
            clear hG he
            go_wp2
            go_ret
            exact ⟨congrArg (fun b => Ending.returned (.bool b)) (show _ = gb by rw [hR.out]; simp; omega), rfl⟩
end Go.Proofs.YtlepicdpelkmlaaGreatDoor
/- ==== RefReadN ==== -/
namespace Go.Proofs.YtlepicdpelkmlaaGreatDoor
open Go.RowKit
set_option linter.unusedVariables false
theorem ten_NB (k K : Nat) (h : k < K) : ((10 ^ k : Nat) : Int) < M.NB ^ K := by
  rw [M.NB_pow]
  have h1 : (10 : Nat) ^ k < 10 ^ (9 * K) := Nat.pow_lt_pow_right (by decide) (by omega)
  exact_mod_cast h1
theorem text_one (n : Nat) : rText false n 1 = lowText false (n / Nat.gcd n 1) (1 / Nat.gcd n 1) := by
  have h := text_same false n 1 (by decide)
  rw [← h]
  simp
theorem first_at (c : UInt8) (l : List UInt8) : (∀ j, j < l.length → l.getD j 0 ≠ c) ∨ ∃ q, q < l.length ∧ l.getD q 0 = c ∧ ∀ j, j < q → l.getD j 0 ≠ c := by
  induction l with
  | nil => exact .inl (fun j hj => by simp at hj)
  | cons b l ih =>
    by_cases hb : b = c
    · exact .inr ⟨0, by simp, by simpa using hb, fun j hj => absurd hj (Nat.not_lt_zero j)⟩
    · rcases ih with h | ⟨q, h1, h2, h3⟩
      · refine .inl (fun j hj => ?_)
        cases j with
        | zero => simpa using hb
        | succ j => have := h j (by simpa using hj); simpa using this
      · refine .inr ⟨q + 1, by simpa using h1, by simpa using h2, fun j hj => ?_⟩
        cases j with
        | zero => simpa using hb
        | succ j => have := h3 j (by omega); simpa using this
theorem div_NB {a b : Nat} {K : Nat} (h : (a : Int) < M.NB ^ K) : ((a / b : Nat) : Int) < M.NB ^ K := Int.lt_of_le_of_lt (by have := Nat.div_le_self a b; omega) h
end Go.Proofs.YtlepicdpelkmlaaGreatDoor
