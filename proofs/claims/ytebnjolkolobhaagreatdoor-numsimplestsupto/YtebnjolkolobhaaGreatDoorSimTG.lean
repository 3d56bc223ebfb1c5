/-
  The simplest number between two bounds: texts.
-/
import Derived.Test.YtebnjolkolobhaaGreatDoorNumAG
import Derived.Test.YtebnjolkolobhaaGreatDoorSimQ
import Derived.Test.YtebnjolkolobhaaGreatDoorSimHeadG
/- ==== SimT ==== -/
namespace Go.Proofs.YtebnjolkolobhaaGreatDoor
open Go.RowKit
set_option linter.unusedVariables false
def bO (l : List UInt8) : Option Rat := if l = [] then none else some (qV l)
def ordB : Option Rat → Option Rat → Bool
  | some x, some y => decide (cmpQ x y < 0)
  | _, _ => true
/-- What Simplest answers. -/
def simT (la lb : List UInt8) : List UInt8 × Int := if okB la && okB lb then (if ordB (bO la) (bO lb) then (qT (simQ (bO la) (bO lb)), 0) else ([], 3)) else ([], 1)
theorem cmpQ_neg {x y : Rat} : cmpQ x y < 0 ↔ x < y := by
  unfold cmpQ
  constructor
  · intro h
    by_cases c : x < y
    · exact c
    · rw [if_neg c] at h
      split at h <;> omega
  · intro h
    rw [if_pos h]
    decide
theorem ordB_iff {a b : Option Rat} : ordB a b = true ↔ OrdO a b := by
  cases a with
  | none => cases b <;> simp [ordB, OrdO]
  | some x =>
    cases b with
    | none => simp [ordB, OrdO]
    | some y =>
      show decide _ = true ↔ x < y
      rw [decide_eq_true_iff]
      exact cmpQ_neg
theorem bO_nil : bO [] = none := rfl
theorem bO_some {l : List UInt8} (h : l ≠ []) : bO l = some (qV l) := if_neg h
theorem okB_can {l : List UInt8} (h : okB l = true) (h0 : l ≠ []) : CanT l := by
  unfold okB at h
  rw [decide_eq_false h0, Bool.false_or] at h
  exact (canB_iff l).1 h
theorem qV_parts {l : List UInt8} (h : CanT l) : (qV l).num = M.sg (cneg l) (M.dec (cup l)) ∧ (qV l).den = M.dec (clow l) := by
  have hg := gcd_can h
  have hp := can_pos h
  unfold qV
  constructor
  · rw [Rat.num_mkRat, if_neg (by omega), M.sg_abs, Nat.gcd_comm, hg]; simp
  · rw [Rat.den_mkRat, if_neg (by omega), M.sg_abs, Nat.gcd_comm, hg, Nat.div_one]
theorem szO_some {l : List UInt8} (h : CanT l) : szO (some (qV l)) = (M.dec (cup l), M.dec (clow l)) := by
  obtain ⟨e1, e2⟩ := qV_parts h
  show ((qV l).num.natAbs, (qV l).den) = _
  rw [e1, e2, M.sg_abs]
theorem up0_can {l : List UInt8} (h : CanT l) : up0 (some (qV l)) = !cneg l := by
  obtain ⟨e1, e2⟩ := qV_parts h
  show decide (0 ≤ qV l) = _
  have e : 0 ≤ qV l ↔ cneg l = false := by
    rw [← Rat.num_nonneg, e1]
    cases hn : cneg l with
    | false => simp [M.sg]
    | true =>
      have := neg_up h hn
      simp [M.sg]
      omega
  cases hn : cneg l with
  | false => rw [decide_eq_true (e.2 hn)]; rfl
  | true => rw [decide_eq_false (fun c => by rw [e.1 c] at hn; cases hn)]; rfl
theorem dn0_can {l : List UInt8} (h : CanT l) : dn0 (some (qV l)) = (cneg l || decide (M.dec (cup l) = 0)) := by
  obtain ⟨e1, e2⟩ := qV_parts h
  show decide (qV l ≤ 0) = _
  have e : qV l ≤ 0 ↔ (qV l).num ≤ 0 := by
    rw [Rat.le_iff]
    show (qV l).num * (1 : Nat) ≤ 0 * ((qV l).den : Int) ↔ _
    rw [Int.zero_mul]
    omega
  rw [Bool.eq_iff_iff, decide_eq_true_iff, e, e1, Bool.or_eq_true, decide_eq_true_iff]
  cases hn : cneg l with
  | false => simp [M.sg]
  | true => simp [M.sg]
/-- The text of a fraction in lowest terms. -/
theorem text_q (s : Bool) {n d : Nat} (hg : Nat.gcd n d = 1) (hn : 0 < n) (hd : 0 < d) : ratText s n (if d = 1 then 0 else d) = qT (mkRat (M.sg s n) d) := by
  have e := frac_qT s n d hd
  have e2 := text_same s n d hd
  rw [hg, Nat.div_one, Nat.div_one] at e e2
  rw [← e, e2]
  unfold lowText
  have hn0 : ¬ n = 0 := by omega
  by_cases h : d = 1
  · rw [if_pos h, if_pos (.inr h), decide_eq_false hn0]
    simp
  · rw [if_neg h, if_neg (fun c => c.elim hn0 h)]
theorem low_den {w : World} {r : Value} {n d : Nat} (h : Low w r false n d) (hn : 0 < n) : DenR w r false n (if d = 1 then 0 else d) := by
  unfold Low at h
  have hn0 : ¬ n = 0 := by omega
  by_cases c : d = 1
  · rw [if_pos (.inr c)] at h
    rw [if_pos c]
    simpa using h
  · rw [if_neg (fun x => x.elim hn0 c)] at h
    rw [if_neg c]
    exact h
theorem simQ_up {a b : Option Rat} (h : up0 a = true) : simQ a b = mkRat ((sim2 (szO a) (szO b)).1 : Int) (sim2 (szO a) (szO b)).2 := by
  unfold simQ
  rw [if_pos h]
theorem simQ_dn {a b : Option Rat} (h0 : up0 a = false) (h : dn0 b = true) : simQ a b = mkRat (M.sg true (sim2 (szO b) (szO a)).1) (sim2 (szO b) (szO a)).2 := by
  unfold simQ
  rw [if_neg (by rw [h0]; decide), if_pos h]
  show - mkRat _ _ = mkRat (-_) _
  rw [Rat.neg_mkRat]
theorem simQ_zero {a b : Option Rat} (h0 : up0 a = false) (h : dn0 b = false) : simQ a b = 0 := by
  unfold simQ
  rw [if_neg (by rw [h0]; decide), if_neg (by rw [h]; decide)]
theorem qT_zero : qT 0 = [48] := by decide +kernel
end Go.Proofs.YtebnjolkolobhaaGreatDoor
