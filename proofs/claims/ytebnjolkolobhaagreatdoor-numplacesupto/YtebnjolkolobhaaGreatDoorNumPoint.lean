/-
  Package num: the point.
-/
import Derived.Test.YtebnjolkolobhaaGreatDoorAll6
import Derived.Test.YtebnjolkolobhaaGreatDoorShelf
/- ==== NumPoint ==== -/
namespace Go.Proofs.YtebnjolkolobhaaGreatDoor
open Go.RowKit
set_option linter.unusedVariables false
theorem run_front (s : ByteArray) (n : Nat) (i : Int) (h0 : 0 ≤ i) (h1 : i ≤ s.size) (hn : i.toNat = n) (W : World) : (Instr.sliceAt 9 (.string s) none (some (.int .i64 i)) none).run Tryz.prog W = .ok (.string (s.extract 0 n)) W := by
  have hu : Tryz.prog.underlying 9 = some .string := by kernel_rfl
  subst hn
  rw [run_sliceAt_string (h := hu)]
  go_simp
/-- The point set ahead of the last P digits. -/
def padB (t : List UInt8) (P : Nat) : List UInt8 := if t.length ≤ P then List.replicate (P + 1 - t.length) 48 ++ t else t
def pointB (t : List UInt8) (P : Nat) : List UInt8 := if P = 0 then t ++ [46, 48] else (padB t P).take ((padB t P).length - P) ++ [46] ++ (padB t P).drop ((padB t P).length - P)
theorem padB_len (t : List UInt8) (P : Nat) : P + 1 ≤ (padB t P).length ∧ (padB t P).length ≤ t.length + P + 1 := by
  unfold padB
  split
  · rw [List.length_append, List.length_replicate]; omega
  · omega
theorem repeat_zero : ∀ c, Lib.repeatL [48] c = List.replicate c 48
  | 0 => rfl
  | c + 1 => by rw [Lib.repeatL, repeat_zero c]; rfl
theorem bytes_data {s : ByteArray} {l : List UInt8} (h : s.data.toList = l) : Ending.returned (.string s) = .returned (.string ⟨l.toArray⟩) := by
  subst h
  rfl
set_option maxRecDepth 100000 in
set_option maxHeartbeats 4000000 in
theorem pointed_calls (w : World) (s : ByteArray) (l : List UInt8) (P : Nat) (hs : s.data.toList = l) (hl : l.length ≤ 1099511627776) (hP : P ≤ 1099511627776) :
    Calls Tryz.prog 58 #[.string s, .int .i64 (P : Int)] w fun e w' => e = .returned (.string ⟨(pointB l P).toArray⟩) ∧ Below w.heap.size w w' := by
  have hsz := size_of s l hs
  by_cases h0 : P = 0
  · subst h0
    have hss := hide hs
    have m0 : s.size ≤ 1100000000000 := by omega
    clear hs hP hsz hl
    go_enter Tryz.func58, Tryz.ntmps58
    go_wp2_with fail
    go_ret
    exact ⟨bytes_data (by rw [ByteArray.data_append, Array.toList_append, hss.out]; rfl), Below.refl _ _⟩
  · have hP0 : ¬ (P : Int) = 0 := by omega
    have hpb := padB_len l P
    obtain ⟨T, hT⟩ : ∃ T : ByteArray, (⟨(padB l P).toArray⟩ : ByteArray) = T := ⟨_, rfl⟩
    have hTl : T.data.toList = padB l P := by rw [← hT]
    have hTz := size_of T _ hTl
    obtain ⟨N, hN⟩ : ∃ N, (padB l P).length = N := ⟨_, rfl⟩
    rw [hN] at hpb hTz
    have s1 := fun W => run_front T (N - P) ((N : Int) - P) (by omega) (by rw [hTz]; omega) (by omega) W
    have s2 := fun W => run_from T N (N - P) ((N : Int) - P) hTz (by omega) (by omega) (by omega) W
    obtain ⟨U1, hU1⟩ : ∃ U, T.extract 0 (N - P) = U := ⟨_, rfl⟩
    obtain ⟨U2, hU2⟩ : ∃ U, T.extract (N - P) N = U := ⟨_, rfl⟩
    have mu1 : U1.size ≤ 2200000000000 := by rw [← hU1]; simp; omega
    have mu2 : U2.size ≤ 2200000000000 := by rw [← hU2]; simp; omega
    have ms : s.size ≤ 1100000000000 := by omega
    rw [hU1] at s1
    rw [hU2] at s2
    have hcn : IntKind.i64.wrap ((N : Int) - P) = (N : Int) - P := by rw [IntKind.wrap_i64]; omega
    have fin : Hid ((U1 ++ ⟨#[46]⟩ ++ U2).data.toList = pointB l P) := by
      show _ = _
      rw [← hU1, ← hU2, ByteArray.data_append, ByteArray.data_append, Array.toList_append, Array.toList_append, extract_take hTl, ← hTz, extract_drop hTl]
      unfold pointB
      rw [if_neg h0, hN, ← hTz]
    have hTT : Hid ((⟨(padB l P).toArray⟩ : ByteArray) = T) := hT
    by_cases hle : l.length ≤ P
    · have hlei : (l.length : Int) ≤ P := by omega
      have q := Tryz.strings_Repeat ⟨#[48]⟩ (P + 1 - l.length) w (by omega) (by show 1 * _ ≤ _; omega)
      have e1 : (⟨#[48]⟩ : ByteArray).data.toList = [48] := rfl
      rw [e1, repeat_zero] at q
      have ec : ((P + 1 - l.length : Nat) : Int) = (P : Int) + 1 - l.length := by omega
      rw [ec] at q
      obtain ⟨Z, hZ⟩ : ∃ Z : ByteArray, (⟨(List.replicate (P + 1 - l.length) 48).toArray⟩ : ByteArray) = Z := ⟨_, rfl⟩
      rw [hZ] at q
      have mz : Z.size ≤ 1100000000000 := by rw [← hZ]; show (List.replicate _ _).toArray.size ≤ _; simp; omega
      have hZT : Z ++ s = T := by
        rw [← hTT.out]
        refine ByteArray.ext ?_
        apply Array.toList_inj.1
        rw [ByteArray.data_append, Array.toList_append, ← hZ, hs]
        unfold padB
        rw [if_pos hle]
      have w1 : IntKind.i64.wrap ((P : Int) + 1) = (P : Int) + 1 := by rw [IntKind.wrap_i64]; omega
      have w2 : IntKind.i64.wrap ((P : Int) + 1 - l.length) = (P : Int) + 1 - l.length := by rw [IntKind.wrap_i64]; omega
      obtain ⟨LL, hLL⟩ : ∃ n, l.length = n := ⟨_, rfl⟩
      rw [hLL] at hlei q w2 hsz
      replace q := hide q
      clear hs hl hP hT hTl hN hpb hle hZ ec hLL e1 h0
      go_enter Tryz.func58, Tryz.ntmps58
      go_wp2_with fail
      refine q.out.mono ?_
      rintro e w3 ⟨rfl, b3⟩
      replace b3 := hide b3
      clear q
      go_upto_region 5 with fail
      clear hZT
      go_quiet (fail)
      go_wp2_with fail
      go_ret
      exact ⟨bytes_data fin.out, b3.out.then_below (drewN_below _ _)⟩
    · have hlei : ¬ (l.length : Int) ≤ P := by omega
      have hsT : s = T := by
        rw [← hTT.out]
        refine ByteArray.ext ?_
        apply Array.toList_inj.1
        show s.data.toList = (padB l P)
        rw [hs]
        unfold padB
        rw [if_neg hle]
      subst hsT
      obtain ⟨LL, hLL⟩ : ∃ n, l.length = n := ⟨_, rfl⟩
      have hNL : N = LL := by rw [← hTz, hsz, hLL]
      subst hNL
      rw [hLL] at hlei
      clear hs hl hP hT hTl hN hpb hle hLL h0 hsz hTT
      go_enter Tryz.func58, Tryz.ntmps58
      go_wp2_with fail
      go_quiet (fail)
      go_wp2_with fail
      go_ret
      exact ⟨bytes_data fin.out, drewN_below _ _⟩
end Go.Proofs.YtebnjolkolobhaaGreatDoor
