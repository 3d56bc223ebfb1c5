/-
  The document's Place: the same function of the bytes.
-/
import Derived.Test.YtnkhdfliiaieeaaPlaceCalls
namespace Go.Proofs.Ytnkhdfliiaieeaa
open Go.RowKit
set_option linter.unusedVariables false
theorem frm_ends {l : List UInt8} {n : Nat} (h : lineE l n = true) : lin l (n + 1) = lin l n + 1 ∧ frm l (n + 1) = n + 1 := by
  constructor
  · rw [lin, if_pos h]
  · rw [frm, if_pos h]
theorem frm_goes {l : List UInt8} {n : Nat} (h : lineE l n = false) : lin l (n + 1) = lin l n ∧ frm l (n + 1) = frm l n := by
  constructor
  · rw [lin, h]; rfl
  · rw [frm, h]; rfl
theorem cnt_goes (l : List UInt8) (f n : Nat) : cnt l f (n + 1) = if contB (l.getD (f + n) 0) then cnt l f n else cnt l f n + 1 := rfl
set_option maxRecDepth 100000 in
set_option maxHeartbeats 1600000 in
theorem rplace_calls (w : World) (s : ByteArray) (l : List UInt8) (hs : s.data.toList = l) (hlen : l.length ≤ 281474976710656) (i : Int) :
    Calls Try.prog 7 #[.string s, .int .i64 i] w fun e w' => e = .returned (placeV l i) ∧ w' = w := by
  have hz := size_of s l hs
  have HL := hide hs
  clear hs
  by_cases hneg : i < 0
  · have hV := hide (placeV_out (l := l) (i := i) (by omega))
    go_enter Try.func7, Try.ntmps7
    go_wp2
    go_ret3
    exact ⟨congrArg Ending.returned hV.out.symm, rfl⟩
  by_cases hbig : (l.length : Int) < i
  · have hV := hide (placeV_out (l := l) (i := i) (by omega))
    go_enter Try.func7, Try.ntmps7
    go_wp2
    go_ret3
    exact ⟨congrArg Ending.returned hV.out.symm, rfl⟩
  obtain ⟨n, rfl⟩ : ∃ n : Nat, i = n := ⟨i.toNat, by omega⟩
  have hn : n ≤ l.length := by omega
  have hV := hide (placeV_in hn)
  have hC := hide (col_eq l n)
  have hF := frm_le l n
  go_enter Try.func7, Try.ntmps7
  go_wp2
  go_loopw [7, 8, 9] (fun a b j wr => ∃ q : Nat, q ≤ n ∧ j = .int .i64 q ∧ a = .int .i64 (lin l q : Nat) ∧ b = .int .i64 (frm l q : Nat) ∧ wr = w) (fun _ _ j _ => n - (intOf j).toNat)
  case atStart => exact ⟨0, Nat.zero_le _, rfl, rfl, rfl, rfl⟩
  case round =>
    obtain ⟨q, hq, rfl, rfl, rfl, hw⟩ := hrel
    subst hw
    have hl1 := lin_le l q
    by_cases hlt : q < n
    · have hqs : q < s.size := by omega
      have hb := byteAt s l HL.out q hqs
      have hE : Hid (lineE l q = decide ((l.getD q 0).toNat = 10 ∨ ((l.getD q 0).toNat = 13 ∧ (q + 1 = l.length ∨ (l.getD (q + 1) 0).toNat ≠ 10)))) := rfl
      have h1 : Hid (lineE l q = true → lin l (q + 1) = lin l q + 1 ∧ frm l (q + 1) = q + 1) := frm_ends
      have h2 : Hid (lineE l q = false → lin l (q + 1) = lin l q ∧ frm l (q + 1) = frm l q) := frm_goes
      have hbb : (l.getD q 0).toNat < 256 := UInt8.toNat_lt _
      generalize l.getD q 0 = b at *
      by_cases h10 : b.toNat = 10
      · have hgo := hide (h1.out (by rw [hE.out]; exact decide_eq_true (by omega)))
        go_wp2
        go_roundw
        case rel => exact ⟨q + 1, by omega, by simp, by rw [hgo.out.1]; simp, by rw [hgo.out.2]; simp, trivial⟩
        case measure => simp [intOf]; omega
      by_cases h13 : b.toNat = 13
      · by_cases hend : q + 1 = l.length
        · have hgo := hide (h1.out (by rw [hE.out]; exact decide_eq_true (by omega)))
          go_wp2
          go_roundw
          case rel => exact ⟨q + 1, by omega, by simp, by rw [hgo.out.1]; simp, by rw [hgo.out.2]; simp, trivial⟩
          case measure => simp [intOf]; omega
        · have hi2 : q + 1 < s.size := by omega
          have hb2 := byteAt s l HL.out (q + 1) hi2
          generalize l.getD (q + 1) 0 = c at *
          by_cases hc : c.toNat = 10
          · have hgo := hide (h2.out (by rw [hE.out]; exact decide_eq_false (by omega)))
            go_wp2
            go_roundw
            case rel => exact ⟨q + 1, by omega, by simp, by rw [hgo.out.1], by rw [hgo.out.2], trivial⟩
            case measure => simp [intOf]; omega
          · have hgo := hide (h1.out (by rw [hE.out]; exact decide_eq_true (by omega)))
            have hcn : (((c.toNat : Nat) : Int) != 10) = true := by simp; omega
            go_wp2
            go_roundw
            case rel => exact ⟨q + 1, by omega, by simp, by rw [hgo.out.1]; simp, by rw [hgo.out.2]; simp, trivial⟩
            case measure => simp [intOf]; omega
      · have hgo := hide (h2.out (by rw [hE.out]; exact decide_eq_false (by omega)))
        go_wp2
        go_roundw
        case rel => exact ⟨q + 1, by omega, by simp, by rw [hgo.out.1], by rw [hgo.out.2], trivial⟩
        case measure => simp [intOf]; omega
    · obtain rfl : q = n := by omega
      have hV2 := hV
      generalize hf : frm l q = f at *
      generalize lin l q = L at *
      go_wp2
      go_loopw [10, 11] (fun a j wr' => ∃ p : Nat, f + p ≤ q ∧ j = .int .i64 (f + p : Nat) ∧ a = .int .i64 (cnt l f p : Nat) ∧ wr' = wr) (fun _ j _ => q - (intOf j).toNat)
      case atStart => exact ⟨0, by omega, rfl, rfl, rfl⟩
      case round =>
        obtain ⟨p, hp, rfl, rfl, hw⟩ := hrel
        subst hw
        have hc1 := cnt_le l f p
        by_cases hlt2 : f + p < q
        · have hqs : f + p < s.size := by omega
          have hb := byteAt s l HL.out (f + p) hqs
          have hgo := hide (cnt_goes l f p)
          have hbb : (l.getD (f + p) 0).toNat < 256 := UInt8.toNat_lt _
          generalize l.getD (f + p) 0 = b at *
          generalize cnt l f p = C at *
          by_cases h128 : b.toNat < 128
          · have e1 : Hid (contB b = false) := decide_eq_false (by omega)
            go_wp2
            go_roundw
            case rel => exact ⟨p + 1, by omega, by simp; omega, by rw [hgo.out, e1.out]; simp, trivial⟩
            case measure => simp [intOf]; omega
          by_cases h191 : 191 < b.toNat
          · have e1 : Hid (contB b = false) := decide_eq_false (by omega)
            go_wp2
            go_roundw
            case rel => exact ⟨p + 1, by omega, by simp; omega, by rw [hgo.out, e1.out]; simp, trivial⟩
            case measure => simp [intOf]; omega
          · have e1 : Hid (contB b = true) := decide_eq_true (by omega)
            go_wp2
            go_roundw
            case rel => exact ⟨p + 1, by omega, by simp; omega, by rw [hgo.out, e1.out]; simp, trivial⟩
            case measure => simp [intOf]; omega
        · have hpe : p = q - f := by omega
          have e2 : Hid (cnt l f p = col l q) := by rw [hpe]; exact hC.out.symm
          go_wp2
          go_ret3
          exact ⟨congrArg Ending.returned ((congrArg (fun c : Nat => Value.tuple #[.int .i64 L, .int .i64 c, .int .i64 0]) e2.out).trans hV.out.symm), rfl⟩
end Go.Proofs.Ytnkhdfliiaieeaa
