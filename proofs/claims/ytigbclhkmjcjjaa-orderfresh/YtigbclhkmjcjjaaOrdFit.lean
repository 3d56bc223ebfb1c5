/-
  What holds of an order at any time: it holds together, no activity is above the top, the rise is above 0 and not above the top.
-/
import Derived.Test.YtigbclhkmjcjjaaOrdNew
import Derived.Test.YtigbclhkmjcjjaaOrdDecay
import Derived.Test.YtigbclhkmjcjjaaOrdSmall
import Derived.Test.YtigbclhkmjcjjaaFltFit
namespace Go.Proofs.Ytigbclhkmjcjjaa
open Go.RowKit
set_option linter.unusedVariables false
structure Fit (s : OS) : Prop where
  act : ∀ j, s.A.getD j 0 ≤ TOPB
  pos : 0 < s.r
  rise : s.r ≤ TOPB
theorem getD_map_fmul (A : List Nat) (j : Nat) : (A.map (FL.fmul · SHR)).getD j 0 = if j < A.length then FL.fmul (A.getD j 0) SHR else 0 := by
  by_cases h : j < A.length
  · rw [if_pos h]
    simp [List.getD_eq_getElem?_getD, List.getElem?_map, List.getElem?_eq_getElem h]
  · rw [if_neg h, List.getD_eq_getElem?_getD, List.getElem?_eq_none (by simpa using h)]
    rfl
theorem top_le2 : TOPB ≤ FL.tTOP2 := by decide
theorem bump_fit {s : OS} {v : Nat} (h : Fit s) (hv : v < s.A.length) : (∀ j, (s.bump v).1.getD j 0 ≤ TOPB) ∧ 0 < (s.bump v).2 ∧ (s.bump v).2 ≤ TOPB := by
  have e1 : (bumpA s v).getD v 0 = FL.fadd (s.A.getD v 0) s.r := by unfold bumpA; rw [O.set_eq hv]
  have le2 := FL.fadd_le (h.act v) h.rise
  have l1 := FL.tTOP2_lt
  have hj : ∀ j, (bumpA s v).getD j 0 ≤ FL.tTOP2 := by
    intro j
    by_cases c : j = v
    · rw [c, e1]; exact le2
    · unfold bumpA; rw [O.set_ne c]; exact Nat.le_trans (h.act j) top_le2
  unfold OS.bump
  by_cases c : TOPB < (bumpA s v).getD v 0
  · rw [if_pos c]
    rw [e1] at c
    refine ⟨fun j => ?_, FL.rise_pos (h.act v) h.rise c, FL.shr_le (Nat.le_trans h.rise top_le2)⟩
    rw [getD_map_fmul]
    split
    · exact FL.shr_le (hj j)
    · exact Nat.zero_le _
  · rw [if_neg c]
    refine ⟨fun j => ?_, h.pos, h.rise⟩
    by_cases d : j = v
    · rw [d]; exact Nat.le_of_not_lt c
    · show (bumpA s v).getD j 0 ≤ _
      unfold bumpA; rw [O.set_ne d]; exact h.act j
theorem decay_fit {s : OS} (h : Fit s) : (∀ j, s.decay.1.getD j 0 ≤ TOPB) ∧ 0 < s.decay.2 ∧ s.decay.2 ≤ TOPB := by
  have l1 := FL.tTOP2_lt
  have lt : TOPB < FL.inf := fin_top
  have le2 := FL.fdiv_le h.pos h.rise
  have ge := (FL.fdiv_bounds (by have := h.rise; omega) h.pos).1
  unfold OS.decay
  by_cases c : TOPB < FL.fdiv s.r DCY
  · rw [if_pos c]
    refine ⟨fun j => ?_, FL.shr_pos c (Nat.lt_of_le_of_lt le2 l1), FL.shr_le le2⟩
    rw [getD_map_fmul]
    split
    · exact FL.shr_le (Nat.le_trans (h.act j) top_le2)
    · exact Nat.zero_le _
  · rw [if_neg c]
    exact ⟨h.act, Nat.lt_of_lt_of_le h.pos ge, Nat.le_of_not_lt c⟩
theorem rep_getD (k j : Nat) : (List.replicate k 0).getD j 0 = 0 := by
  rw [List.getD_eq_getElem?_getD]
  by_cases h : j < k
  · simp [h]
  · rw [List.getElem?_eq_none (by simpa using h)]; rfl
theorem newO_fit (n : Nat) : Fit (newO n) := by
  refine ⟨fun j => ?_, by show 0 < 1065353216; decide, by show 1065353216 ≤ TOPB; decide⟩
  show (List.replicate (n + 1) 0).getD j 0 ≤ _
  rw [rep_getD]
  exact Nat.zero_le _
theorem newZ_at {n i : Nat} (h : i < n) : ((List.range n).map (· + 1)).getD i 0 = i + 1 := by simp [List.getD_eq_getElem?_getD, h]
theorem newP_at {n i : Nat} (h : i < n) : (0 :: (List.range n).map (fun i : Nat => (i : Int))).getD (i + 1) 0 = (i : Int) := by
  rw [List.getD_cons_succ]; simp [List.getD_eq_getElem?_getD, h]
theorem newO_hv (n : Nat) : O.HV n ((newO n).Z.take (newO n).hl) (newO n).pl := by
  have e : (newO n).Z.take (newO n).hl = (List.range n).map (· + 1) := List.take_of_length_le (by simp [newO])
  rw [e]
  have hl : ((List.range n).map (· + 1)).length = n := by simp
  refine ⟨by simp [newO], ?_, fun i hi => ?_, fun v v1 v2 => ?_⟩
  · rw [hl]
    unfold O.cnt newO
    rw [List.drop_succ_cons, List.drop_zero, List.countP_map, List.countP_eq_length.2]
    · simp
    · intro a _
      simp
  · rw [hl] at hi
    rw [newZ_at hi]
    exact ⟨by omega, by omega, newP_at hi⟩
  · obtain ⟨u, rfl⟩ : ∃ u, v = u + 1 := ⟨v - 1, by omega⟩
    exact .inr ⟨u, by rw [hl]; omega, newP_at (by omega), newZ_at (by omega)⟩
theorem newO_heap (n : Nat) : O.Heap (newO n).A ((newO n).Z.take (newO n).hl) := by
  have e : (newO n).Z.take (newO n).hl = (List.range n).map (· + 1) := List.take_of_length_le (by simp [newO])
  rw [e]
  intro i h0 hi _
  simp only [List.length_map, List.length_range] at hi
  unfold O.ok
  rw [newZ_at hi, newZ_at (by unfold O.par; omega)]
  unfold O.ahd
  have z : ∀ j, (newO n).A.getD j 0 = 0 := fun j => rep_getD _ j
  rw [z, z, if_pos rfl]
  unfold O.par
  simp
  omega
theorem newO_good {w : World} {o : Oid} (h : Ord w o (newO o.n)) : Good w o (newO o.n) :=
  ⟨h, newO_hv o.n, newO_heap o.n, fun j => by rw [show (newO o.n).A.getD j 0 = 0 from rep_getD _ j]; exact Nat.zero_le _, by show 1065353216 ≤ FL.inf; rw [FL.inf_eq]; decide⟩
/-- Behind any call the order holds together. -/
def Holds (w w' : World) (o : Oid) : Prop := (∃ s, Good w' o s ∧ Fit s ∧ s.hl ≤ o.n) ∧ Chg (blks o) w w'
theorem holds_same {w : World} {o : Oid} {s : OS} (h : Good w o s) (f : Fit s) : Holds w w o := ⟨⟨s, h, f, h.ord.hhl⟩, Chg.refl _ _⟩
theorem in_or_out (o : Oid) (v : Int) : (∃ n : Nat, v = n ∧ 1 ≤ n ∧ n ≤ o.n) ∨ (v < 1 ∨ (o.n : Int) < v) := by
  by_cases h : v < 1 ∨ (o.n : Int) < v
  · exact .inr h
  · exact .inl ⟨v.toNat, by omega, by omega, by omega⟩
theorem Good.alen {w : World} {o : Oid} {s : OS} (h : Good w o s) : s.A.length = o.n + 1 := h.ord.2.2.2.2.2.1
theorem fit_of {s' : OS} {p : List Nat × Nat} (e : (s'.A, s'.r) = p) (h : (∀ j, p.1.getD j 0 ≤ TOPB) ∧ 0 < p.2 ∧ p.2 ≤ TOPB) : Fit s' := by
  subst e
  exact ⟨h.1, h.2.1, h.2.2⟩
theorem bump_any (w : World) (o : Oid) (s : OS) (h : Good w o s) (f : Fit s) (v : Int) : Calls Try.prog 11 #[optr o, .int .i64 v] w fun e w' => (∃ x, e = .returned (.int .i64 x)) ∧ Holds w w' o := by
  rcases in_or_out o v with ⟨n, rfl, h1, h2⟩ | hv
  · refine (bump_calls w o s h n h1 h2).mono ?_
    rintro e w' ⟨rfl, ⟨s', g, l, e⟩, c⟩
    exact ⟨⟨_, rfl⟩, ⟨s', g, fit_of e (bump_fit f (by rw [h.alen]; omega)), g.ord.hhl⟩, c⟩
  · refine (bump_bad w o s h.ord v hv).mono ?_
    rintro e w' ⟨rfl, rfl⟩
    exact ⟨⟨_, rfl⟩, holds_same h f⟩
theorem decay_any (w : World) (o : Oid) (s : OS) (h : Good w o s) (f : Fit s) : Calls Try.prog 22 #[optr o] w fun e w' => e = .returned (.tuple #[]) ∧ Holds w w' o := by
  refine (decay_calls w o s h).mono ?_
  rintro e w' ⟨rfl, ⟨s', g, l, e⟩, c⟩
  exact ⟨rfl, ⟨s', g, fit_of e (decay_fit f), g.ord.hhl⟩, c⟩
theorem take_any (w : World) (o : Oid) (s : OS) (h : Good w o s) (f : Fit s) : Calls Try.prog 16 #[optr o] w fun e w' => (∃ x, e = .returned (.int .i64 x)) ∧ Holds w w' o := by
  rcases Nat.eq_zero_or_pos s.hl with h0 | h0
  · refine (take_none w o s h.ord h0).mono ?_
    rintro e w' ⟨rfl, rfl⟩
    exact ⟨⟨_, rfl⟩, holds_same h f⟩
  · refine (take_calls w o s h h0).mono ?_
    rintro e w' ⟨rfl, ⟨s', g, e1, e2, _, _, _⟩, c⟩
    exact ⟨⟨_, rfl⟩, ⟨s', g, ⟨by rw [e1]; exact f.act, by rw [e2]; exact f.pos, by rw [e2]; exact f.rise⟩, g.ord.hhl⟩, c⟩
theorem put_any (w : World) (o : Oid) (s : OS) (h : Good w o s) (f : Fit s) (v : Int) : Calls Try.prog 20 #[optr o, .int .i64 v] w fun e w' => (∃ x, e = .returned (.int .i64 x)) ∧ Holds w w' o := by
  rcases in_or_out o v with ⟨n, rfl, h1, h2⟩ | hv
  · by_cases hw : s.pl.getD n 0 = -1
    · refine (put_calls w o s h n h1 h2 hw).mono ?_
      rintro e w' ⟨rfl, ⟨s', g, e1, e2, _, _, _⟩, c⟩
      exact ⟨⟨_, rfl⟩, ⟨s', g, ⟨by rw [e1]; exact f.act, by rw [e2]; exact f.pos, by rw [e2]; exact f.rise⟩, g.ord.hhl⟩, c⟩
    · refine (put_has w o s h.ord n h1 h2 hw).mono ?_
      rintro e w' ⟨rfl, rfl⟩
      exact ⟨⟨_, rfl⟩, holds_same h f⟩
  · refine (put_bad w o s h.ord v hv).mono ?_
    rintro e w' ⟨rfl, rfl⟩
    exact ⟨⟨_, rfl⟩, holds_same h f⟩
theorem save_any (w : World) (o : Oid) (s : OS) (h : Good w o s) (f : Fit s) (v : Int) (b : Bool) : Calls Try.prog 23 #[optr o, .int .i64 v, .bool b] w fun e w' => (∃ x, e = .returned (.int .i64 x)) ∧ Holds w w' o := by
  rcases in_or_out o v with ⟨n, rfl, h1, h2⟩ | hv
  · refine (save_calls w o s h n h1 h2 b).mono ?_
    rintro e w' ⟨rfl, g, c⟩
    exact ⟨⟨_, rfl⟩, ⟨_, g, ⟨f.act, f.pos, f.rise⟩, g.ord.hhl⟩, c⟩
  · refine (save_bad w o s h.ord v hv b).mono ?_
    rintro e w' ⟨rfl, rfl⟩
    exact ⟨⟨_, rfl⟩, holds_same h f⟩
end Go.Proofs.Ytigbclhkmjcjjaa
