/-
  The law's own helpers: decimal, bare, reads of any text.
-/
import Derived.Test.YtebnjolkolobhaaGreatDoorPlacesMath
import Derived.Test.YtebnjolkolobhaaGreatDoorPositive
/- ==== PlacesOps ==== -/
namespace Go.Proofs.YtebnjolkolobhaaGreatDoor
open Go.RowKit
set_option linter.unusedVariables false
set_option maxRecDepth 100000 in
set_option maxHeartbeats 4000000 in
theorem decimal_calls (w : World) (s : ByteArray) (l : List UInt8) (hs : s.data.toList = l) (hlen : l.length ≤ 1099511627776) :
    Calls Tryz.prog 25 #[.string s] w fun e w' => e = .returned (.bool (decide (Good l))) ∧ w' = w := by
  obtain ⟨gb, hgb⟩ : ∃ gb, decide (Good l) = gb := ⟨_, rfl⟩
  rw [hgb]
  replace hgb := hide hgb
  have hz := size_of s l hs
  have HL := hide hs
  clear hs
  go_enter Tryz.func25, Tryz.ntmps25
  go_wp2
  go_loopw [3] (fun j wr' => ∃ q : Nat, q ≤ l.length ∧ j = .int .i64 q ∧ Hid (M.Digs (l.take q)) ∧ wr' = w) (fun j _ => l.length - (intOf j).toNat)
  case atStart => exact ⟨0, Nat.zero_le _, rfl, fun b hb => by simp at hb, rfl⟩
  case round =>
    obtain ⟨q, hq, rfl, hd, hw⟩ := hrel
    subst hw
    by_cases hlt2 : q < l.length
    · have hqs : q < s.size := by omega
      have hb := byteAt s l HL.out q hqs
      have hgo := hide (fun h1 h2 => digs_take_succ hd.out hlt2 h1 h2)
      have hno := hide (fun h => not_digs hlt2 h)
      have hbb : (l.getD q 0).toNat < 256 := UInt8.toNat_lt _
      generalize l.getD q 0 = b at *
      have hbad : Hid (¬ (48 ≤ b.toNat ∧ b.toNat ≤ 57) → gb = false) := fun h => by rw [← hgb.out]; exact decide_eq_false (fun hA => hno.out h hA.2)
      by_cases h48 : b.toNat < 48
      · go_wp2
        go_ret
        exact ⟨congrArg (fun b => Ending.returned (.bool b)) (hbad.out (by omega)).symm, rfl⟩
      · by_cases h57 : 57 < b.toNat
        · go_wp2
          go_ret
          exact ⟨congrArg (fun b => Ending.returned (.bool b)) (hbad.out (by omega)).symm, rfl⟩
        · go_wp2
          go_roundw
          case rel => exact ⟨q + 1, by omega, by simp, hgo.out (by omega) (by omega), trivial⟩
          case measure => simp [intOf]; omega
    · obtain rfl : q = l.length := by omega
      rw [List.take_length] at hd
      by_cases he : l = []
      · have hG : Hid (gb = false) := by rw [← hgb.out]; exact decide_eq_false (fun hA => hA.1 he)
        obtain rfl : s = ⟨#[]⟩ := str_is (by rw [HL.out, he])
        subst he
        go_wp2
        go_ret
        exact ⟨congrArg (fun b => Ending.returned (.bool b)) hG.out.symm, rfl⟩
      · have hG : Hid (gb = true) := by rw [← hgb.out]; exact decide_eq_true ⟨he, hd.out⟩
        have hne : s ≠ ⟨#[]⟩ := fun e => he (by rw [← HL.out, e])
        obtain ⟨o2, o3, o4, o5, o6⟩ := str_ne2 hne
        have hse : s.toList.isEmpty = false := by
          rw [← str_toList, HL.out]
          cases l with
          | nil => exact absurd rfl he
          | cons _ _ => rfl
        go_wp2
        go_ret
        exact ⟨congrArg (fun b => Ending.returned (.bool b)) hG.out.symm, rfl⟩
/-- The text of a value. -/
def txtOf : Value → ByteArray | .string b => b | _ => ⟨#[]⟩
theorem bareL_zero {l : List UInt8} (h1 : 1 < l.length) (h2 : l.getD 0 0 = 48) : bareL (l.drop 1) = bareL l := by
  match l, h1, h2 with
  | a :: b :: l, _, h2 =>
    have h3 : a = 48 := by simpa using h2
    show bareL (b :: l) = bareL (a :: b :: l)
    conv => rhs; unfold bareL
    rw [if_pos h3]
theorem bareL_stop {l : List UInt8} (h : ¬ (1 < l.length ∧ l.getD 0 0 = 48)) : bareL l = l := by
  match l, h with
  | [], _ => rfl
  | [a], _ => rfl
  | a :: b :: l, h =>
    unfold bareL
    rw [if_neg (fun e => h ⟨by simp, by simpa using e⟩)]
theorem strB {s : ByteArray} {l : List UInt8} (h : s.data.toList = l) : s = ⟨l.toArray⟩ := by
  subst h
  rfl
set_option maxRecDepth 100000 in
set_option maxHeartbeats 4000000 in
theorem bare_calls (w : World) (s : ByteArray) (hlen : s.size ≤ 1099511627776) :
    Calls Tryz.prog 26 #[.string s] w fun e w' => e = .returned (.string ⟨(bareL s.data.toList).toArray⟩) ∧ w' = w := by
  obtain ⟨R, hR⟩ : ∃ R, bareL s.data.toList = R := ⟨_, rfl⟩
  rw [hR]
  replace hR := hide hR
  go_enter Tryz.func26, Tryz.ntmps26
  go_wp2
  go_loopw [0] (fun v wr => ∃ (S : ByteArray) (L : List UInt8), v = .string S ∧ Hid (S.data.toList = L) ∧ S.size ≤ 1099511627776 ∧ Hid (bareL L = R) ∧ wr = w) (fun v _ => (txtOf v).size)
  case atStart => exact ⟨s, _, rfl, rfl, hlen, hR, rfl⟩
  case round =>
    obtain ⟨S, L, rfl, hL, hz, hb, hw⟩ := hrel
    subst hw
    have hsl := hide (size_of S _ hL.out)
    by_cases h1 : 1 < S.size
    · have h0 : 0 < S.size := by omega
      have hx := byteAt S _ hL.out 0 h0
      by_cases h48 : L.getD 0 0 = 48
      · rw [h48] at hx
        have s1 := fun W => run_from S S.size 1 1 rfl (by decide) (by omega) rfl W
        obtain ⟨U, hU⟩ : ∃ U, S.extract 1 S.size = U := ⟨_, rfl⟩
        have hUz : U.size = S.size - 1 := by rw [← hU, ByteArray.size_extract]; omega
        have hUl : U.data.toList = L.drop 1 := by
          rw [← hU, extract_mid hL.out, hsl.out, List.take_length]
        have fin : Hid (bareL (L.drop 1) = R) := by show _ = _; rw [bareL_zero (by rw [← hsl.out]; exact h1) h48]; exact hb.out
        rw [hU] at s1
        have ms : U.size < S.size := by omega
        have mz : U.size ≤ 1099511627776 := by omega
        have hUh := hide hUl
        clear hUl h48 hb hU hUz
        go_wp2
        go_roundw
        case rel => exact ⟨U, _, rfl, hUh, mz, fin, trivial⟩
        case measure => exact ms
      · have fin : Hid (R = L) := by show _ = _; rw [← hb.out]; exact bareL_stop (fun h => h48 h.2)
        have hne : ¬ ((L.getD 0 0).toNat = 48) := fun e => h48 (UInt8.toNat_inj.1 (by rw [e]; rfl))
        clear h48 hb
        generalize L.getD 0 0 = b at *
        go_wp2
        go_ret
        exact ⟨congrArg (fun b => Ending.returned (.string b)) (by rw [fin.out]; exact strB hL.out), rfl⟩
    · have fin : Hid (R = L) := by show _ = _; rw [← hb.out]; exact bareL_stop (fun h => h1 (by rw [hsl.out]; exact h.1))
      clear hb
      go_wp2
      go_ret
      exact ⟨congrArg (fun b => Ending.returned (.string b)) (by rw [fin.out]; exact strB hL.out), rfl⟩
theorem read_two (l : List UInt8) : ((readText l).2 = 0) ∨ ((readText l).2 = 1 ∧ (readText l).1 = []) := by
  unfold readText readParts
  split
  · exact .inl rfl
  · exact .inr ⟨rfl, rfl⟩
set_option maxRecDepth 100000 in
theorem reads_any (w : World) (s : ByteArray) (l : List UInt8) (hs : s.data.toList = l) (hz : s.size ≤ 1073741824) (env : Env w) :
    Calls Tryz.prog 23 #[.string s] w fun e w' => e = .returned (.string ⟨(readText l).1.toArray⟩) ∧ Below w.heap.size w w' := by
  obtain ⟨⟨m, hM⟩, hT, hP⟩ := env
  have c1 := hide (read_calls w s _ hs (by rw [← hs, slen]; exact hz) m hM hT hP)
  have hf : Hid ((if (readText l).2 = 0 then (⟨(readText l).1.toArray⟩ : ByteArray) else ⟨#[]⟩) = ⟨(readText l).1.toArray⟩) := by
    show _ = _
    rcases read_two l with h | ⟨h1, h2⟩
    · rw [if_pos h]
    · rw [h1, h2]; rfl
  clear hM hT hP hs hz
  generalize (readText l).1 = T at *
  generalize (readText l).2 = c at *
  go_enter Tryz.func23, Tryz.ntmps23
  go_wp2_with (first
    | (go_at_call 24; refine c1.out.mono ?_; rintro e w1 ⟨rfl, b1⟩; replace b1 := hide b1)
    | (go_at_call 37; refine (told_b _ _ _).mono ?_; rintro e w2 ⟨rfl, hw⟩; rw [hf.out]; replace hw := hw.symm; subst hw))
  go_ret
  exact ⟨rfl, b1.out⟩
theorem reads_point (w : World) (s : ByteArray) (head tail : List UInt8) (hs : s.data.toList = head ++ 46 :: tail) (h : Lit head ∧ Good tail) (hz : s.size ≤ 1073741824) (env : Env w) :
    Calls Tryz.prog 23 #[.string s] w fun e w' => e = .returned (.string (tB (pQ head tail))) ∧ Below w.heap.size w w' := by
  have c := reads_any w s _ hs hz env
  rw [read_point, if_pos h] at c
  exact c
theorem reads_lit (w : World) (s : ByteArray) (u : List UInt8) (hs : s.data.toList = u) (h : Lit u) (hz : s.size ≤ 1073741824) (env : Env w) :
    Calls Tryz.prog 23 #[.string s] w fun e w' => e = .returned (.string (tB (mkRat (M.dec u : Int) 1))) ∧ Below w.heap.size w w' := by
  have c := reads_any w s _ hs hz env
  rw [read_whole h] at c
  exact c
/-- The law's first look: two texts of its own. -/
theorem reads_own1 (w : World) (env : Env w) : Calls Tryz.prog 23 #[.string ⟨#[49, 46, 53, 48]⟩] w fun e w' => e = .returned (.string ⟨#[51, 47, 50]⟩) ∧ Below w.heap.size w w' := by
  have c := reads_point w ⟨#[49, 46, 53, 48]⟩ [49] [53, 48] rfl (by decide) (by decide) env
  have e : (⟨#[51, 47, 50]⟩ : ByteArray) = tB (pQ [49] [53, 48]) := (of_can (s := ⟨#[51, 47, 50]⟩) (by decide +kernel)).trans (congrArg tB (by decide +kernel))
  rw [← e] at c
  exact c
theorem reads_own0 (w : World) (env : Env w) : Calls Tryz.prog 23 #[.string ⟨#[48]⟩] w fun e w' => e = .returned (.string ⟨#[48]⟩) ∧ Below w.heap.size w w' := by
  have c := reads_lit w ⟨#[48]⟩ [48] rfl (by decide) (by decide) env
  have e : (⟨#[48]⟩ : ByteArray) = tB (mkRat (M.dec [48] : Int) 1) := t_zero.trans (congrArg tB (by decide +kernel))
  rw [← e] at c
  exact c
end Go.Proofs.YtebnjolkolobhaaGreatDoor
