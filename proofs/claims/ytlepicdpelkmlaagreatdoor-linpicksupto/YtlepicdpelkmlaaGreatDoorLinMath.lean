/-
  Pick, told by rationals: what number it tells.
-/
import Derived.Test.YtlepicdpelkmlaaGreatDoorLinAt
namespace Go.Proofs.YtlepicdpelkmlaaGreatDoor
open Go.RowKit
set_option linter.unusedVariables false
/-- A pair of delta numbers. -/
structure P4 where
  la : Rat
  lb : Rat
  ha : Rat
  hb : Rat
def P4.room (p : P4) : Rat := p.ha - p.la
def P4.clos (p : P4) : Rat := p.lb - p.hb
/-- Is the low one above the high one? -/
def P4.over (p : P4) : Prop := p.ha < p.la ∨ (p.la = p.ha ∧ p.hb < p.lb)
def P4.tight (p : P4) : Prop := 0 < p.room ∧ 0 < p.clos
theorem cmpD_over (p : P4) : 0 < cmpD p.la p.lb p.ha p.hb ↔ p.over := by
  unfold cmpD cmpQ P4.over
  by_cases h1 : p.la < p.ha
  · rw [if_pos h1, if_neg (by decide)]
    refine ⟨fun h => absurd h (by decide), fun h => ?_⟩
    rcases h with h | h <;> grind
  · rw [if_neg h1]
    by_cases h2 : p.la = p.ha
    · rw [if_pos h2, if_pos rfl]
      by_cases h3 : p.lb < p.hb
      · rw [if_pos h3]
        refine ⟨fun h => absurd h (by decide), fun h => ?_⟩
        rcases h with h | h <;> grind
      · rw [if_neg h3]
        by_cases h4 : p.lb = p.hb
        · rw [if_pos h4]
          refine ⟨fun h => absurd h (by decide), fun h => ?_⟩
          rcases h with h | h <;> grind
        · rw [if_neg h4]
          exact ⟨fun _ => .inr ⟨h2, by grind⟩, fun _ => by decide⟩
    · rw [if_neg h2, if_neg (by decide)]
      exact ⟨fun _ => .inl (by grind), fun _ => by decide⟩
theorem tight_met {p : P4} (h : p.tight) : p.la + p.lb * (p.room / p.clos) = p.ha + p.hb * (p.room / p.clos) := by
  unfold P4.tight P4.room P4.clos at *
  have h0 : p.lb - p.hb ≠ 0 := by have := h.2; grind
  have e : (p.ha - p.la) / (p.lb - p.hb) * (p.lb - p.hb) = p.ha - p.la := Rat.div_mul_cancel h0
  generalize (p.ha - p.la) / (p.lb - p.hb) = m at e
  grind
theorem not_turned {p : P4} {t : Rat} (ho : ¬ p.over) (h0 : 0 < t) (ht : p.tight → t ≤ p.room / p.clos) : p.la + p.lb * t ≤ p.ha + p.hb * t := by
  by_cases h : p.tight
  · have h1 := ht h
    unfold P4.tight P4.room P4.clos at *
    have hc : p.lb - p.hb ≠ 0 := by have := h.2; grind
    have e : (p.ha - p.la) / (p.lb - p.hb) * (p.lb - p.hb) = p.ha - p.la := Rat.div_mul_cancel hc
    generalize (p.ha - p.la) / (p.lb - p.hb) = m at e h1
    have := Rat.mul_le_mul_of_nonneg_right h1 (Rat.le_of_lt h.2)
    grind
  · unfold P4.over at ho
    unfold P4.tight P4.room P4.clos at h
    by_cases hr : 0 < p.ha - p.la
    · have hc : p.lb - p.hb ≤ 0 := by grind
      have := Rat.mul_le_mul_of_nonneg_right hc (Rat.le_of_lt h0)
      grind
    · have e : p.la = p.ha := by grind
      have hc : p.lb - p.hb ≤ 0 := by grind
      have := Rat.mul_le_mul_of_nonneg_right hc (Rat.le_of_lt h0)
      grind
theorem meet_pos {p : P4} (h : p.tight) : 0 < p.room / p.clos := by
  rw [Rat.div_def]
  exact Rat.mul_pos h.1 (Rat.inv_pos.2 h.2)
/-- What one more pair leaves of the number. -/
def stepQ (p : P4) (m : Rat) : Rat := if 0 < p.room ∧ 0 < p.clos ∧ p.room / p.clos < m then p.room / p.clos else m
def pickR : List P4 → Rat → Option Rat
  | [], m => some m
  | p :: r, m => if 0 < cmpD p.la p.lb p.ha p.hb then none else pickR r (stepQ p m)
theorem step_pos {p : P4} {m : Rat} (hm : 0 < m) : 0 < stepQ p m ∧ stepQ p m ≤ m ∧ (p.tight → stepQ p m ≤ p.room / p.clos) ∧ (stepQ p m = m ∨ (p.tight ∧ stepQ p m = p.room / p.clos)) := by
  unfold stepQ
  by_cases h : 0 < p.room ∧ 0 < p.clos ∧ p.room / p.clos < m
  · rw [if_pos h]
    exact ⟨meet_pos ⟨h.1, h.2.1⟩, Rat.le_of_lt h.2.2, fun _ => Rat.le_refl, .inr ⟨⟨h.1, h.2.1⟩, rfl⟩⟩
  · rw [if_neg h]
    refine ⟨hm, Rat.le_refl, fun ht => ?_, .inl rfl⟩
    unfold P4.tight at ht
    grind
theorem pick_tells : ∀ (ps : List P4) (m d : Rat), 0 < m → pickR ps m = some d → 0 < d ∧ d ≤ m ∧ (∀ p ∈ ps, ¬ p.over ∧ (p.tight → d ≤ p.room / p.clos)) ∧ (d = m ∨ ∃ p ∈ ps, p.tight ∧ d = p.room / p.clos)
  | [], m, d, hm, h => by
    obtain rfl : m = d := Option.some.inj h
    exact ⟨hm, Rat.le_refl, fun p hp => (by cases hp), .inl rfl⟩
  | p :: r, m, d, hm, h => by
    unfold pickR at h
    by_cases ho : 0 < cmpD p.la p.lb p.ha p.hb
    · rw [if_pos ho] at h; cases h
    · rw [if_neg ho] at h
      obtain ⟨s1, s2, s3, s4⟩ := step_pos (p := p) hm
      obtain ⟨h1, h2, h3, h4⟩ := pick_tells r _ d s1 h
      refine ⟨h1, Rat.le_trans h2 s2, fun q hq => ?_, ?_⟩
      · rcases List.mem_cons.1 hq with rfl | hq
        · exact ⟨fun x => ho ((cmpD_over _).2 x), fun ht => Rat.le_trans h2 (s3 ht)⟩
        · exact h3 q hq
      · rcases h4 with h4 | ⟨q, hq, h5⟩
        · rcases s4 with s4 | ⟨s5, s6⟩
          · exact .inl (h4.trans s4)
          · exact .inr ⟨p, List.mem_cons_self, s5, h4.trans s6⟩
        · exact .inr ⟨q, List.mem_cons_of_mem _ hq, h5⟩
end Go.Proofs.YtlepicdpelkmlaaGreatDoor
