/-
  The document's side (arbiterref1): Constant, Spell.
-/
import Derived.Test.YtebnjolkolobhaaGreatDoorRefOpp
import Derived.Test.YtebnjolkolobhaaGreatDoorRefC
import Derived.Test.YtebnjolkolobhaaGreatDoorRefDec
import Derived.Test.YtebnjolkolobhaaGreatDoorSpellA
/- ==== RefConst ==== -/
namespace Go.Proofs.YtebnjolkolobhaaGreatDoor
open Go.RowKit
set_option linter.unusedVariables false
theorem str2_eq {s : ByteArray} {l : List UInt8} (h : s.data.toList = l) : Ending.returned (.string s) = .returned (.string ⟨l.toArray⟩) := by
  subst h
  rfl
/-- The constant of n / d, d from 1 on. -/
def conP (n d : Nat) : List UInt8 := spellP n (if d = 1 then 0 else d)
set_option maxRecDepth 100000 in
set_option maxHeartbeats 8000000 in
theorem rconst_pos (w : World) (v : Value) (n d K : Nat) (h : RR w v false n d) (hd0 : 0 < d) (kn : (n : Int) < M.NB ^ K) (kd : (d : Int) < M.NB ^ K) (hK : K ≤ 1048578) :
    Calls Tryz.prog 51 #[v] w fun e w' => e = .returned (.string ⟨(conP n d).toArray⟩) ∧ Below w.heap.size w w' := by
  obtain ⟨na, nl, nc, da, dl, dc, rfl, hn, hd⟩ := h
  have ln := rdig_len kn
  have ld := rdig_len kd
  obtain ⟨SN, hSN⟩ : ∃ S : ByteArray, S = ⟨(Lib.decDigits n).toArray⟩ := ⟨_, rfl⟩
  obtain ⟨SD, hSD⟩ : ∃ S : ByteArray, S = ⟨(Lib.decDigits d).toArray⟩ := ⟨_, rfl⟩
  have zn : SN.size ≤ 9 * K + 1 := by rw [hSN]; exact ln
  have zd : SD.size ≤ 9 * K + 1 := by rw [hSD]; exact ld
  have m0 : SN.size ≤ 10000000 := by omega
  have m1 : SD.size ≤ 10000000 := by omega
  have lN : Hid (SN.data.toList = Lib.decDigits n) := by rw [hSN]; rfl
  have lD : Hid (SD.data.toList = Lib.decDigits d) := by rw [hSD]; rfl
  have BX := alloc_below w (.cells #[.bool false, .slice na nl nc, .slice da dl dc] 59)
  have PX := hide (heap_alloc_new w (.cells #[.bool false, .slice na nl nc, .slice da dl dc] 59))
  have HD := hide (hd.below BX)
  have q1 := rnatText_calls _ _ n K (hn.below BX) kn (by omega)
  rw [← hSN] at q1
  have q9 := hide (fun W (h : RN W (.slice da dl dc) d) => rnatText_calls W _ d K h kd (by omega))
  rw [← hSD] at q9
  replace q1 := hide q1
  replace BX := hide BX
  obtain ⟨c, hceq⟩ : ∃ c, M.cmp (d : Int) ((Int.toNat 1 : Nat) : Int) = c := ⟨_, rfl⟩
  have hc1 : c = 0 ↔ d = 1 := by rw [← hceq]; exact cmp_one
  replace hceq := hide hceq
  obtain ⟨z0, z1, z2, -, -, -⟩ := box3 PX.out
  clear hn hd ln ld zn zd hSN hSD kn kd
  go_enter Tryz.func51, Tryz.ntmps51
  go_wp2_with fail
  refine q1.out.mono ?_
  rintro e w1 ⟨rfl, b1⟩
  have P1 := hide (kept_block PX.out b1)
  have H1 := hide (HD.out.below b1)
  have B1 := hide (BX.out.then_below b1)
  clear q1 b1 PX HD BX z0 z1 z2
  obtain ⟨y0, y1, y2, -, -, -⟩ := box3 P1.out
  go_upto_region 4 with fail
  have D1 : Below w1.heap.size w1 w1.drew := (Below.refl _ _).drew
  have S0 : Hid (w1.cell? ⟨w.heap.size, 2, none⟩ = some (.slice da dl dc) ∧ Below w1.heap.size w1 w1) := ⟨y2, Below.refl _ _⟩
  have S1 : Hid (w1.drew.cell? ⟨w.heap.size, 2, none⟩ = some (.slice da dl dc) ∧ Below w1.heap.size w1 w1.drew) := ⟨y2, D1⟩
  have HD1 := hide (H1.out.below D1)
  by_cases hd1 : d = 1
  · obtain rfl : c = 0 := hc1.2 hd1
    have fin : Hid (conP n d = Lib.decDigits n ++ [46, 48]) := by show _ = _; unfold conP spellP; rw [if_pos hd1, if_pos rfl]
    obtain ⟨S2, hS2e⟩ : ∃ x, SN ++ (⟨#[46, 48]⟩ : ByteArray) = x := ⟨_, rfl⟩
    have fs : Hid (S2.data.toList = conP n d) := by show _ = _; rw [fin.out, ← hS2e, ByteArray.data_append, Array.toList_append, lN.out]
    rw [hS2e]
    clear hd1 hc1 hS2e
    go_region_held3
      (fun w' => w'.cell? ⟨w.heap.size, 2, none⟩ = some (.slice da dl dc) ∧ Below w1.heap.size w1 w')
      (first
        | with_reducible exact S0.out
        | with_reducible exact S1.out
        | with_reducible exact keep3 S1.out ba
        | with_reducible exact keep3 S1.out (ba.then_below bb))
      (first
        | (go_at_call 61; refine (natInt_calls _ 1 (by decide) (by decide)).mono ?_; rintro e wa ⟨⟨va, rfl, ma⟩, ba⟩; have q3 := cmpRN wa _ _ d _ (HD1.out.below ba) ma; rw [hceq.out] at q3)
        | (go_at_call 60; refine q3.mono ?_; rintro e wb ⟨rfl, bb⟩))
    obtain ⟨yb, BB⟩ := keep3 S1.out (ba.then_below bb)
    have BF := hide (B1.out.then_below BB)
    clear q3 ma ba bb S0 S1 D1 y0 y1 y2
    go_wp2
    go_ret
    exact ⟨str2_eq fs.out, BF.out⟩
  · have hcz : ¬ c = 0 := fun e => hd1 (hc1.1 e)
    have hcb : (c == 0) = false := by simpa using hcz
    have fin : Hid (conP n d = [40, 47, 32] ++ (Lib.decDigits n ++ ([46, 48, 32] ++ (Lib.decDigits d ++ [46, 48, 41])))) := by show _ = _; unfold conP spellP; rw [if_neg hd1, if_neg (by omega)]
    clear hd1 hc1
    go_region_held3
      (fun w' => w'.cell? ⟨w.heap.size, 2, none⟩ = some (.slice da dl dc) ∧ Below w1.heap.size w1 w')
      (first
        | with_reducible exact S0.out
        | with_reducible exact S1.out
        | with_reducible exact keep3 S1.out ba
        | with_reducible exact keep3 S1.out (ba.then_below bb))
      (first
        | (go_at_call 61; refine (natInt_calls _ 1 (by decide) (by decide)).mono ?_; rintro e wa ⟨⟨va, rfl, ma⟩, ba⟩; have q3 := cmpRN wa _ _ d _ (HD1.out.below ba) ma; rw [hceq.out] at q3)
        | (go_at_call 60; refine q3.mono ?_; rintro e wb ⟨rfl, bb⟩))
    obtain ⟨yb, BB⟩ := keep3 S1.out (ba.then_below bb)
    have BF := hide (B1.out.then_below BB)
    have q4 := hide (q9.out wb (H1.out.below BB))
    clear q3 ma ba bb S0 S1 D1 y0 y1 y2 q9
    go_wp2_with fail
    refine q4.out.mono ?_
    rintro e w5 ⟨rfl, b5⟩
    replace b5 := hide b5
    go_wp2_with fail
    go_ret
    refine ⟨str2_eq ?_, BF.out.then_below b5.out⟩
    rw [fin.out]
    simp only [ByteArray.data_append, Array.toList_append, lN.out, lD.out, List.append_assoc]
    rfl
set_option maxRecDepth 100000 in
set_option maxHeartbeats 8000000 in
theorem rconst_calls (w : World) (v : Value) (s : Bool) (n d K : Nat) (h : RR w v s n d) (hd0 : 0 < d) (kn : (n : Int) < M.NB ^ K) (kd : (d : Int) < M.NB ^ K) (hK : K ≤ 1048578) :
    Calls Tryz.prog 51 #[v] w fun e w' => e = .returned (.string ⟨(if s then [40, 45, 32] ++ (conP n d ++ [41]) else conP n d).toArray⟩) ∧ Below w.heap.size w w' := by
  cases s with
  | false => rw [if_neg (by simp)]; exact rconst_pos w v n d K h hd0 kn kd hK
  | true =>
    rw [if_pos rfl]
    have h' := h
    obtain ⟨na, nl, nc, da, dl, dc, rfl, hn, hd⟩ := h
    have BX := alloc_below w (.cells #[.bool true, .slice na nl nc, .slice da dl dc] 59)
    have PX := heap_alloc_new w (.cells #[.bool true, .slice na nl nc, .slice da dl dc] 59)
    have q1 := hide (ropp_calls _ _ true n d (h'.below BX))
    have q2 := hide (fun W u (hu : RR W u false n d) => rconst_pos W u n d K hu hd0 kn kd hK)
    obtain ⟨SP, hSP⟩ : ∃ S : ByteArray, S = ⟨(conP n d).toArray⟩ := ⟨_, rfl⟩
    rw [← hSP] at q2
    have ln := rdig_len kn
    have ld := rdig_len kd
    have m0 : SP.size ≤ 30000000 := by
      rw [hSP]
      show (conP n d).length ≤ _
      unfold conP spellP
      by_cases hd1 : d = 1
      · rw [if_pos hd1, if_pos rfl]; simp; omega
      · rw [if_neg hd1, if_neg (by omega)]; simp; omega
    have lP : Hid (SP.data.toList = conP n d) := by rw [hSP]; rfl
    obtain ⟨z0, z1, z2, -, -, -⟩ := box3 PX
    replace BX := hide BX
    clear h' hn hd ln ld hSP PX
    go_enter Tryz.func51, Tryz.ntmps51
    go_wp2_with fail
    refine q1.out.mono ?_
    rintro e w1 ⟨⟨r, rfl, hr⟩, b1⟩
    have q := hide (q2.out w1 r hr)
    have B1 := hide (BX.out.then_below b1)
    obtain ⟨ra, rl, rc, sa, sl, sc, rfl, -, -⟩ := hr
    clear q1 q2 b1
    go_wp2_with fail
    refine q.out.mono ?_
    rintro e w2 ⟨rfl, b2⟩
    replace b2 := hide b2
    go_wp2_with fail
    go_ret
    refine ⟨str2_eq ?_, B1.out.then_below b2.out⟩
    simp only [ByteArray.data_append, Array.toList_append, lP.out, List.append_assoc]
    rfl
theorem cden_if {l : List UInt8} (h : CanT l) : (if M.dec (clow l) = 1 then 0 else M.dec (clow l)) = cden l := by
  have e := lowN_can h
  unfold lowN at e
  by_cases hz : cden l = 0
  · rw [if_pos hz] at e
    rw [if_pos e.symm, hz]
  · rw [if_neg hz] at e
    have hs : cslash l = true := by
      cases hs : cslash l with
      | true => rfl
      | false =>
        exfalso
        apply hz
        unfold cden
        rw [hs]
        rfl
    have h3 := h.2.2 hs
    have hne : M.dec (clow l) ≠ 1 := fun h1 => by
      have := lit_numeral h3.1
      rw [h1] at this
      apply h3.2.2.1
      rw [this]
      decide +kernel
    rw [if_neg hne, e]
set_option maxRecDepth 100000 in
set_option maxHeartbeats 4000000 in
theorem rspell_calls (w : World) (s : ByteArray) (l : List UInt8) (hs : s.data.toList = l) (hl : l.length ≤ 1048577) :
    Calls Tryz.prog 20 #[.string s] w fun e w' => e = .returned (.tuple #[.string ⟨(spellT l).1.toArray⟩, .int .i64 (spellT l).2]) ∧ Below w.heap.size w w' := by
  have q0 := rof_calls w s l hs (by omega)
  cases hk : canB l with
  | false =>
    have hn : ¬ CanT l := fun c => by have := (canB_iff l).2 c; rw [hk] at this; cases this
    have q1 := hide (q0.mono (fun e w' ⟨⟨_, h2⟩, h3⟩ => (⟨h2 hn, h3⟩ : e = Ending.returned (.tuple #[.agg #[.bool false, .slice none 0 0, .slice none 0 0], .bool false]) ∧ Below w.heap.size w w')))
    rw [spellT_no hk]
    clear q0 hk hn hs
    go_enter Tryz.func20, Tryz.ntmps20
    go_wp2_with fail
    refine q1.out.mono ?_
    rintro e w1 ⟨rfl, b1⟩
    replace b1 := hide b1
    go_wp2_with fail
    go_ret2
    exact ⟨rfl, b1.out.then_below (alloc_below w1 _)⟩
  | true =>
    have hc : CanT l := (canB_iff l).1 hk
    have q1 := hide (q0.mono (fun e w' ⟨⟨h1, _⟩, h3⟩ => (⟨h1 hc, h3⟩ : (∃ v, e = Ending.returned (.tuple #[v, .bool true]) ∧ RR w' v (cneg l) (M.dec (cup l)) (M.dec (clow l))) ∧ Below w.heap.size w w')))
    obtain ⟨kn, kd, dl0⟩ := can_bd2 hc (K := l.length + 1) (by omega)
    have q2 := hide (fun W v (h : RR W v (cneg l) (M.dec (cup l)) (M.dec (clow l))) => rconst_calls W v _ _ _ (l.length + 1) h dl0 kn kd (by omega))
    have e : (if cneg l then [40, 45, 32] ++ (conP (M.dec (cup l)) (M.dec (clow l)) ++ [41]) else conP (M.dec (cup l)) (M.dec (clow l))) = spellL (cneg l) (M.dec (cup l)) (cden l) := by
      unfold conP spellL
      rw [cden_if hc]
    rw [e] at q2
    rw [spellT_yes hc]
    obtain ⟨SP, hSP⟩ : ∃ S : ByteArray, S = ⟨(spellL (cneg l) (M.dec (cup l)) (cden l)).toArray⟩ := ⟨_, rfl⟩
    rw [← hSP] at q2
    have lP := hide hSP
    clear q0 hs hk hSP e kn kd dl0
    go_enter Tryz.func20, Tryz.ntmps20
    go_wp2_with fail
    refine q1.out.mono ?_
    rintro e w1 ⟨⟨v, rfl, hr⟩, b1⟩
    have hr' := hide hr
    obtain ⟨na, nl, nc, da, dl, dc, rfl, -, -⟩ := hr
    have BX := alloc_below w1 (.cells #[.bool (cneg l), .slice na nl nc, .slice da dl dc] 59)
    obtain ⟨z0, z1, z2, -, -, -⟩ := box3 (heap_alloc_new w1 (.cells #[.bool (cneg l), .slice na nl nc, .slice da dl dc] 59))
    have q := hide (q2.out _ _ (hr'.out.below BX))
    have B1 := hide (b1.then_below BX)
    clear q1 q2 b1 hr' BX
    go_wp2_with fail
    refine q.out.mono ?_
    rintro e w2 ⟨rfl, b2⟩
    replace b2 := hide b2
    go_wp2_with fail
    go_ret2
    refine ⟨?_, B1.out.then_below b2.out⟩
    rw [lP.out]
    rfl
end Go.Proofs.YtebnjolkolobhaaGreatDoor
