/-
  Package scan: Place, and the document's Place.
-/
import Derived.Test.YtnkhdfliiaieeaaPlaceMath
namespace Go.Proofs.Ytnkhdfliiaieeaa
open Go.RowKit
set_option linter.unusedVariables false
theorem bool_eq {a : Bool} {p : Prop} [Decidable p] (h : a = true ↔ p) : a = decide p := by by_cases hp : p <;> simp_all
set_option maxRecDepth 100000 in
set_option maxHeartbeats 1600000 in
theorem lineEnds_calls (w : World) (s : ByteArray) (l : List UInt8) (hs : s.data.toList = l) (hlen : l.length ≤ 281474976710656) (i : Nat) (hi : i < l.length) :
    Calls Try.prog 12 #[.string s, .int .i64 i] w fun e w' => e = .returned (.bool (lineE l i)) ∧ w' = w := by
  have hz := size_of s l hs
  have his : i < s.size := by omega
  have hb := byteAt s l hs i his
  have HL := hide hs
  clear hs
  have hE : Hid (lineE l i = decide ((l.getD i 0).toNat = 10 ∨ ((l.getD i 0).toNat = 13 ∧ (i + 1 = l.length ∨ (l.getD (i + 1) 0).toNat ≠ 10)))) := rfl
  have hbb : (l.getD i 0).toNat < 256 := UInt8.toNat_lt _
  generalize l.getD i 0 = b at *
  by_cases h10 : b.toNat = 10
  · go_enter Try.func12, Try.ntmps12
    go_wp2
    go_ret
    exact ⟨congrArg (fun b => Ending.returned (.bool b)) (by rw [hE.out]; exact bool_eq (by simp <;> omega)), rfl⟩
  by_cases h13 : b.toNat = 13
  · by_cases hend : i + 1 = l.length
    · go_enter Try.func12, Try.ntmps12
      go_wp2
      go_ret
      exact ⟨congrArg (fun b => Ending.returned (.bool b)) (by rw [hE.out]; exact bool_eq (by simp <;> omega)), rfl⟩
    · have hi2 : i + 1 < s.size := by omega
      have hb2 := byteAt s l HL.out (i + 1) hi2
      generalize l.getD (i + 1) 0 = c at *
      by_cases hc : c.toNat = 10
      · go_enter Try.func12, Try.ntmps12
        go_wp2
        go_ret
        exact ⟨congrArg (fun b => Ending.returned (.bool b)) (by rw [hE.out]; exact bool_eq (by simp <;> omega)), rfl⟩
      · go_enter Try.func12, Try.ntmps12
        go_wp2
        go_ret
        exact ⟨congrArg (fun b => Ending.returned (.bool b)) (by rw [hE.out]; exact bool_eq (by simp <;> omega)), rfl⟩
  · go_enter Try.func12, Try.ntmps12
    go_wp2
    go_ret
    exact ⟨congrArg (fun b => Ending.returned (.bool b)) (by rw [hE.out]; exact bool_eq (by simp <;> omega)), rfl⟩
/-- What Place answers: the line, the column, the error. -/
def placeV (l : List UInt8) (i : Int) : Value :=
  if 0 ≤ i ∧ i ≤ l.length then .tuple #[.int .i64 (lin l i.toNat : Nat), .int .i64 (col l i.toNat : Nat), .int .i64 0] else .tuple #[.int .i64 0, .int .i64 0, .int .i64 30]
theorem placeV_in {l : List UInt8} {n : Nat} (h : n ≤ l.length) : placeV l n = .tuple #[.int .i64 (lin l n : Nat), .int .i64 (col l n : Nat), .int .i64 0] := by
  rw [placeV, if_pos ⟨by omega, by omega⟩]; rfl
theorem placeV_out {l : List UInt8} {i : Int} (h : ¬ (0 ≤ i ∧ i ≤ l.length)) : placeV l i = .tuple #[.int .i64 0, .int .i64 0, .int .i64 30] := by
  rw [placeV, if_neg h]
theorem lin_ends {l : List UInt8} {n : Nat} (h : lineE l n = true) : lin l (n + 1) = lin l n + 1 ∧ col l (n + 1) = 1 := by
  constructor
  · rw [lin, if_pos h]
  · rw [col, if_pos h]
theorem lin_goes {l : List UInt8} {n : Nat} (h : lineE l n = false) : lin l (n + 1) = lin l n ∧ col l (n + 1) = if contB (l.getD n 0) then col l n else col l n + 1 := by
  constructor
  · rw [lin, h]; rfl
  · rw [col, h]; rfl
set_option maxRecDepth 100000 in
set_option maxHeartbeats 1600000 in
theorem place_calls (w : World) (s : ByteArray) (l : List UInt8) (hs : s.data.toList = l) (hlen : l.length ≤ 281474976710656) (i : Int) :
    Calls Try.prog 6 #[.string s, .int .i64 i] w fun e w' => e = .returned (placeV l i) ∧ w' = w := by
  have hz := size_of s l hs
  have HL := hide hs
  clear hs
  by_cases hneg : i < 0
  · have hV := hide (placeV_out (l := l) (i := i) (by omega))
    go_enter Try.func6, Try.ntmps6
    go_wp2
    go_ret3
    exact ⟨congrArg Ending.returned hV.out.symm, rfl⟩
  by_cases hbig : (l.length : Int) < i
  · have hV := hide (placeV_out (l := l) (i := i) (by omega))
    go_enter Try.func6, Try.ntmps6
    go_wp2
    go_ret3
    exact ⟨congrArg Ending.returned hV.out.symm, rfl⟩
  obtain ⟨n, rfl⟩ : ∃ n : Nat, i = n := ⟨i.toNat, by omega⟩
  have hn : n ≤ l.length := by omega
  have hV := hide (placeV_in hn)
  go_enter Try.func6, Try.ntmps6
  go_wp2
  go_loopw [7, 8, 19] (fun a b j wr => ∃ q : Nat, q ≤ n ∧ j = .int .i64 q ∧ a = .int .i64 (lin l q : Nat) ∧ b = .int .i64 (col l q : Nat) ∧ wr = w) (fun _ _ j _ => n - (intOf j).toNat)
  case atStart => exact ⟨0, Nat.zero_le _, rfl, rfl, rfl, rfl⟩
  case round =>
    obtain ⟨q, hq, rfl, rfl, rfl, hw⟩ := hrel
    subst hw
    have hl1 := lin_le l q
    have hc1 := col_le l q
    by_cases hlt : q < n
    · have hqs : q < s.size := by omega
      have hb := byteAt s l HL.out q hqs
      have hE := lineEnds_calls wr s l HL.out hlen q (by omega)
      cases hEq : lineE l q
      · rw [hEq] at hE
        replace hE := hide hE
        have hgo := hide (lin_goes hEq)
        generalize lin l q = L at *
        generalize col l q = C at *
        have hbb : (l.getD q 0).toNat < 256 := UInt8.toNat_lt _
        generalize l.getD q 0 = b at *
        by_cases h128 : b.toNat < 128
        · have e1 : Hid (contB b = false) := decide_eq_false (by omega)
          go_wp2_with (go_at_call 12; refine (hE.out).mono ?_; rintro e w' ⟨rfl, rfl⟩)
          go_roundw
          case rel => exact ⟨q + 1, by omega, by simp, by rw [hgo.out.1], by rw [hgo.out.2, e1.out]; simp, trivial⟩
          case measure => simp [intOf]; omega
        by_cases h191 : 191 < b.toNat
        · have e1 : Hid (contB b = false) := decide_eq_false (by omega)
          go_wp2_with (go_at_call 12; refine (hE.out).mono ?_; rintro e w' ⟨rfl, rfl⟩)
          go_roundw
          case rel => exact ⟨q + 1, by omega, by simp, by rw [hgo.out.1], by rw [hgo.out.2, e1.out]; simp, trivial⟩
          case measure => simp [intOf]; omega
        · have e1 : Hid (contB b = true) := decide_eq_true (by omega)
          go_wp2_with (go_at_call 12; refine (hE.out).mono ?_; rintro e w' ⟨rfl, rfl⟩)
          go_roundw
          case rel => exact ⟨q + 1, by omega, by simp, by rw [hgo.out.1], by rw [hgo.out.2, e1.out]; simp, trivial⟩
          case measure => simp [intOf]; omega
      · rw [hEq] at hE
        replace hE := hide hE
        have hgo := hide (lin_ends hEq)
        generalize lin l q = L at *
        generalize col l q = C at *
        go_wp2_with (go_at_call 12; refine (hE.out).mono ?_; rintro e w' ⟨rfl, rfl⟩)
        go_roundw
        case rel => exact ⟨q + 1, by omega, by simp, by rw [hgo.out.1]; simp, by rw [hgo.out.2]; simp, trivial⟩
        case measure => simp [intOf]; omega
    · obtain rfl : q = n := by omega
      go_wp2
      go_ret3
      exact ⟨congrArg Ending.returned hV.out.symm, rfl⟩
end Go.Proofs.Ytnkhdfliiaieeaa
