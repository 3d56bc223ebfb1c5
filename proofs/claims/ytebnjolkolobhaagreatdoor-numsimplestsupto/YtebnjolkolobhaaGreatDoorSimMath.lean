/-
  The simplest number between two bounds: pairs of numbers alone.
-/
import Derived.Test.YtebnjolkolobhaaGreatDoorAllMath
/- ==== SimMath ==== -/
namespace Go.Proofs.YtebnjolkolobhaaGreatDoor.M
set_option linter.unusedVariables false
/-- With fuel. -/
def smpF : Nat → Nat → Nat → Nat → Nat → Nat × Nat
  | 0, lu, ll, _, _ => (lu / ll + 1, 1)
  | n + 1, lu, ll, hu, hl =>
    if (lu / ll + 1) * hl < hu ∨ ll = 0 then (lu / ll + 1, 1)
    else (lu / ll * (smpF n hl (hu - lu / ll * hl) ll (lu % ll)).1 + (smpF n hl (hu - lu / ll * hl) ll (lu % ll)).2, (smpF n hl (hu - lu / ll * hl) ll (lu % ll)).1)
theorem smpF_eq : ∀ n m lu ll hu hl, ll + hl ≤ n → ll + hl ≤ m → smpF n lu ll hu hl = smpF m lu ll hu hl := by
  intro n
  induction n with
  | zero =>
    intro m lu ll hu hl h1 h2
    have h0 : ll = 0 := by omega
    cases m with
    | zero => rfl
    | succ m =>
      rw [smpF, smpF, if_pos (.inr h0)]
  | succ n ih =>
    intro m lu ll hu hl h1 h2
    by_cases h : (lu / ll + 1) * hl < hu ∨ ll = 0
    · cases m with
      | zero => rw [smpF, smpF, if_pos h]
      | succ m => rw [smpF, smpF, if_pos h, if_pos h]
    · have k1 : ¬ (lu / ll + 1) * hl < hu := fun c => h (.inl c)
      have k2 : lu % ll < ll := Nat.mod_lt _ (Nat.pos_of_ne_zero (fun c => h (.inr c)))
      rw [Nat.add_mul] at k1
      have k3 : (hu - lu / ll * hl) + lu % ll < ll + hl := by omega
      cases m with
      | zero => omega
      | succ m => rw [smpF, smpF, if_neg h, if_neg h, ih m hl (hu - lu / ll * hl) ll (lu % ll) (by omega) (by omega)]
/-- The simplest number strictly between lu/ll and hu/hl (hl = 0: no bound above), upper and lower. -/
def smp (lu ll hu hl : Nat) : Nat × Nat := smpF (ll + hl) lu ll hu hl
/-- Bounds that lie as they should. -/
def Bt (lu ll hu hl : Nat) : Prop := 0 < ll ∧ lu * hl < hu * ll
theorem Bt.hu {lu ll hu hl : Nat} (h : Bt lu ll hu hl) : 0 < hu := by
  rcases Nat.eq_zero_or_pos hu with c | c
  · have := h.2; rw [c] at this; omega
  · exact c
theorem smp_top {lu ll hu hl : Nat} (h : (lu / ll + 1) * hl < hu) : smp lu ll hu hl = (lu / ll + 1, 1) := by
  unfold smp
  cases ll + hl with
  | zero => rfl
  | succ n => rw [smpF, if_pos (.inl h)]
theorem smp_step {lu ll hu hl : Nat} (h0 : 0 < ll) (h : ¬ (lu / ll + 1) * hl < hu) : smp lu ll hu hl = (lu / ll * (smp hl (hu - lu / ll * hl) ll (lu % ll)).1 + (smp hl (hu - lu / ll * hl) ll (lu % ll)).2, (smp hl (hu - lu / ll * hl) ll (lu % ll)).1) := by
  have k1 := h
  have k2 : lu % ll < ll := Nat.mod_lt _ h0
  rw [Nat.add_mul] at k1
  have k3 : (hu - lu / ll * hl) + lu % ll < ll + hl := by omega
  unfold smp
  obtain ⟨n, hn⟩ : ∃ n, ll + hl = n + 1 := ⟨ll + hl - 1, by omega⟩
  rw [hn, smpF, if_neg (fun c => c.elim h (by omega)), smpF_eq n ((hu - lu / ll * hl) + lu % ll) hl (hu - lu / ll * hl) ll (lu % ll) (by omega) (Nat.le_refl _)]
/-- One step, in numbers that need no division: lu = ll * w + r, hu = w * hl + a. -/
theorem step_parts {lu ll hu hl : Nat} (b : Bt lu ll hu hl) (h : ¬ (lu / ll + 1) * hl < hu) : ∃ w r a, lu / ll = w ∧ lu % ll = r ∧ hu - w * hl = a ∧ lu = ll * w + r ∧ hu = w * hl + a ∧ r < ll ∧ a ≤ hl ∧ 0 < a ∧ hl * r < ll * a := by
  obtain ⟨b1, b2⟩ := b
  have e := Nat.div_add_mod lu ll
  have hr := Nat.mod_lt lu b1
  generalize lu / ll = w at *
  generalize lu % ll = r at *
  subst e
  have k : w * hl < hu := by
    refine Nat.lt_of_mul_lt_mul_left (a := ll) ?_
    have h1 : ll * (w * hl) ≤ (ll * w + r) * hl := by
      rw [← Nat.mul_assoc]
      exact Nat.mul_le_mul_right _ (Nat.le_add_right _ _)
    rw [Nat.mul_comm ll hu]
    exact Nat.lt_of_le_of_lt h1 b2
  obtain ⟨a, rfl⟩ : ∃ a, hu = w * hl + a := ⟨hu - w * hl, by omega⟩
  rw [Nat.add_mul] at h
  refine ⟨w, r, a, rfl, rfl, by omega, rfl, rfl, hr, by omega, by omega, ?_⟩
  have e1 : (ll * w + r) * hl = ll * (w * hl) + hl * r := by rw [Nat.add_mul, Nat.mul_assoc, Nat.mul_comm r hl]
  have e2 : (w * hl + a) * ll = ll * (w * hl) + ll * a := by rw [Nat.mul_comm, Nat.mul_add]
  omega
theorem Bt.step {lu ll hu hl : Nat} (b : Bt lu ll hu hl) (h : ¬ (lu / ll + 1) * hl < hu) : Bt hl (hu - lu / ll * hl) ll (lu % ll) := by
  obtain ⟨w, r, a, e1, e2, e3, -, -, h1, h2, h3, h4⟩ := step_parts b h
  rw [e1, e2, e3]
  exact ⟨h3, h4⟩
/-- Way through the steps. -/
theorem smp_ind {P : Nat → Nat → Nat → Nat → Prop} (top : ∀ lu ll hu hl, Bt lu ll hu hl → (lu / ll + 1) * hl < hu → P lu ll hu hl)
    (step : ∀ lu ll hu hl, Bt lu ll hu hl → ¬ (lu / ll + 1) * hl < hu → P hl (hu - lu / ll * hl) ll (lu % ll) → P lu ll hu hl) : ∀ lu ll hu hl, Bt lu ll hu hl → P lu ll hu hl := by
  have key : ∀ n lu ll hu hl, ll + hl ≤ n → Bt lu ll hu hl → P lu ll hu hl := by
    intro n
    induction n with
    | zero => intro lu ll hu hl hn b; have := b.1; omega
    | succ n ih =>
      intro lu ll hu hl hn b
      by_cases h : (lu / ll + 1) * hl < hu
      · exact top _ _ _ _ b h
      · refine step _ _ _ _ b h (ih _ _ _ _ ?_ (b.step h))
        obtain ⟨w, r, a, e1, e2, e3, -, -, h1, h2, h3, h4⟩ := step_parts b h
        rw [e1, e2, e3]
        omega
  exact fun lu ll hu hl b => key _ lu ll hu hl (Nat.le_refl _) b
/-- It lies between. -/
theorem smp_in : ∀ lu ll hu hl, Bt lu ll hu hl → lu * (smp lu ll hu hl).2 < (smp lu ll hu hl).1 * ll ∧ (smp lu ll hu hl).1 * hl < hu * (smp lu ll hu hl).2 := by
  refine smp_ind (fun lu ll hu hl b h => ?_) (fun lu ll hu hl b h ih => ?_)
  · rw [smp_top h]
    refine ⟨?_, by simpa using h⟩
    show lu * 1 < (lu / ll + 1) * ll
    have := Nat.div_add_mod lu ll
    have := Nat.mod_lt lu b.1
    rw [Nat.add_mul, Nat.mul_comm (lu / ll) ll]
    omega
  · rw [smp_step b.1 h]
    obtain ⟨w, r, a, e1, e2, e3, e4, e5, h1, h2, h3, h4⟩ := step_parts b h
    rw [e1, e2, e3] at ih
    rw [e1, e2, e3]
    clear e1 e2 e3 h b
    generalize smp hl a ll r = s at *
    obtain ⟨n, d⟩ := s
    obtain ⟨i1, i2⟩ := ih
    simp only at *
    subst e4 e5
    constructor
    · have x1 : (ll * w + r) * n = ll * w * n + n * r := by rw [Nat.add_mul, Nat.mul_comm r n]
      have x2 : (w * n + d) * ll = ll * w * n + ll * d := by rw [Nat.mul_comm, Nat.mul_add, Nat.mul_assoc]
      omega
    · have x1 : (w * n + d) * hl = w * hl * n + hl * d := by rw [Nat.add_mul, Nat.mul_right_comm, Nat.mul_comm d hl]
      have x2 : (w * hl + a) * n = w * hl * n + n * a := by rw [Nat.add_mul, Nat.mul_comm a n]
      omega
/-- Whatever lies between is no simpler. -/
theorem smp_min : ∀ lu ll hu hl, Bt lu ll hu hl → ∀ p q, lu * q < p * ll → p * hl < hu * q → (smp lu ll hu hl).1 ≤ p ∧ (smp lu ll hu hl).2 ≤ q := by
  refine smp_ind (fun lu ll hu hl b h p q c1 c2 => ?_) (fun lu ll hu hl b h ih p q c1 c2 => ?_)
  · rw [smp_top h]
    have q0 : 0 < q := by
      rcases Nat.eq_zero_or_pos q with z | z
      · rw [z] at c2; omega
      · exact z
    refine ⟨?_, q0⟩
    show lu / ll + 1 ≤ p
    have e := Nat.div_add_mod lu ll
    have e1 : ll * (lu / ll) ≤ lu := by omega
    have : lu / ll < p := by
      refine Nat.lt_of_mul_lt_mul_left (a := ll) ?_
      rw [Nat.mul_comm ll p]
      exact Nat.lt_of_le_of_lt (Nat.le_trans e1 (Nat.le_mul_of_pos_right _ q0)) c1
    omega
  · rw [smp_step b.1 h]
    obtain ⟨w, r, a, e1, e2, e3, e4, e5, h1, h2, h3, h4⟩ := step_parts b h
    rw [e1, e2, e3] at ih
    rw [e1, e2, e3]
    clear e1 e2 e3 h b
    subst e4 e5
    have k : w * q < p := by
      refine Nat.lt_of_mul_lt_mul_left (a := ll) ?_
      have h1 : ll * (w * q) ≤ (ll * w + r) * q := by
        rw [← Nat.mul_assoc]
        exact Nat.mul_le_mul_right _ (Nat.le_add_right _ _)
      rw [Nat.mul_comm ll p]
      exact Nat.lt_of_le_of_lt h1 c1
    obtain ⟨t, rfl⟩ : ∃ t, p = w * q + t := ⟨p - w * q, by omega⟩
    have i := ih q t (by
      have x1 : (w * q + t) * hl = w * hl * q + hl * t := by rw [Nat.add_mul, Nat.mul_right_comm, Nat.mul_comm t hl]
      have x2 : (w * hl + a) * q = w * hl * q + q * a := by rw [Nat.add_mul, Nat.mul_comm a q]
      omega) (by
      have x1 : (ll * w + r) * q = ll * w * q + q * r := by rw [Nat.add_mul, Nat.mul_comm r q]
      have x2 : (w * q + t) * ll = ll * w * q + ll * t := by rw [Nat.mul_comm, Nat.mul_add, Nat.mul_assoc]
      omega)
    generalize smp hl a ll r = s at *
    obtain ⟨n, d⟩ := s
    simp only at *
    exact ⟨Nat.add_le_add (Nat.mul_le_mul_left _ i.1) i.2, i.1⟩
theorem smp_le {lu ll hu hl : Nat} (b : Bt lu ll hu hl) : (smp lu ll hu hl).1 ≤ lu + hu ∧ (smp lu ll hu hl).2 ≤ ll + hl := by
  have h := b.2
  refine smp_min _ _ _ _ b _ _ ?_ ?_
  · have x1 : lu * (ll + hl) = lu * ll + lu * hl := Nat.mul_add _ _ _
    have x2 : (lu + hu) * ll = lu * ll + hu * ll := Nat.add_mul _ _ _
    omega
  · have x1 : (lu + hu) * hl = lu * hl + hu * hl := Nat.add_mul _ _ _
    have x2 : hu * (ll + hl) = hu * ll + hu * hl := Nat.mul_add _ _ _
    omega
theorem smp_cop : ∀ lu ll hu hl, Bt lu ll hu hl → Nat.gcd (smp lu ll hu hl).1 (smp lu ll hu hl).2 = 1 ∧ 0 < (smp lu ll hu hl).1 ∧ 0 < (smp lu ll hu hl).2 := by
  refine smp_ind (fun lu ll hu hl b h => ?_) (fun lu ll hu hl b h ih => ?_)
  · rw [smp_top h]
    exact ⟨Nat.gcd_one_right _, Nat.succ_pos _, Nat.one_pos⟩
  · rw [smp_step b.1 h]
    generalize smp hl (hu - lu / ll * hl) ll (lu % ll) = s at *
    obtain ⟨n, d⟩ := s
    obtain ⟨i1, i2, i3⟩ := ih
    simp only at *
    refine ⟨?_, by omega, i2⟩
    rw [Nat.gcd_comm, Nat.gcd_mul_right_add_right]
    exact i1
/-- The next pairs have no common divisor either. -/
theorem cop_step {lu ll hu hl w r a : Nat} (e4 : lu = ll * w + r) (e5 : hu = w * hl + a) (c1 : Nat.gcd lu ll = 1) (c2 : Nat.gcd hu hl = 1) : Nat.gcd hl a = 1 ∧ Nat.gcd ll r = 1 := by
  subst e4 e5
  constructor
  · rw [Nat.gcd_comm, Nat.gcd_mul_right_add_right] at c2
    exact c2
  · rw [Nat.gcd_comm, Nat.mul_comm, Nat.gcd_mul_right_add_right] at c1
    exact c1
/-- From the last whole part back to the first. -/
def back (qs : List Nat) (p : Nat × Nat) : Nat × Nat := qs.foldr (fun q r => (q * r.1 + r.2, r.1)) p
theorem back_snoc (qs : List Nat) (q n d : Nat) : back (qs ++ [q]) (n, d) = back qs (q * n + d, n) := by
  unfold back
  rw [List.foldr_append]
  rfl
/-- The sizes on the way back stay below the last. -/
theorem back_max (qs : List Nat) (p : Nat × Nat) (B : Nat) (h : (back qs p).1 ≤ B ∧ (back qs p).2 ≤ B) : p.1 ≤ B ∧ p.2 ≤ B := by
  induction qs generalizing B with
  | nil => exact h
  | cons q qs ih =>
    obtain ⟨h1, h2⟩ := h
    replace h1 : q * (back qs p).1 + (back qs p).2 ≤ B := h1
    replace h2 : (back qs p).1 ≤ B := h2
    exact ih B ⟨h2, by omega⟩
/-- How many steps there may be. -/
def St (a b lu ll hl : Nat) : Prop := lu < 2 ^ b ∧ hl < 2 ^ a ∧ ll ≤ lu
theorem St.step {a b lu ll hu hl : Nat} (bt : Bt lu ll hu hl) (h : ¬ (lu / ll + 1) * hl < hu) (s : St a b lu ll hl) : ∃ b', b = b' + 1 ∧ St b' a hl (hu - lu / ll * hl) (lu % ll) := by
  obtain ⟨w, r, x, e1, e2, e3, e4, e5, h1, h2, h3, h4⟩ := step_parts bt h
  obtain ⟨s1, s2, s3⟩ := s
  rw [e1, e2, e3]
  cases b with
  | zero => have := bt.1; simp at s1; omega
  | succ b' =>
    refine ⟨b', rfl, s2, ?_, h2⟩
    rw [Nat.pow_succ] at s1
    have w1 : 1 ≤ w := by
      rcases Nat.eq_zero_or_pos w with c | c
      · subst c; omega
      · exact c
    have : ll * 1 ≤ ll * w := Nat.mul_le_mul_left _ w1
    omega
/-- After the first step the count begins. -/
theorem St.first {K lu ll hu hl : Nat} (bt : Bt lu ll hu hl) (h : ¬ (lu / ll + 1) * hl < hu) (k1 : ll < 2 ^ K) (k2 : hl < 2 ^ K) : St K K hl (hu - lu / ll * hl) (lu % ll) := by
  obtain ⟨w, r, x, e1, e2, e3, e4, e5, h1, h2, h3, h4⟩ := step_parts bt h
  rw [e1, e2, e3]
  exact ⟨k2, by omega, h2⟩
/-- The count of the parts is bounded: where it stands after n steps. -/
def Few (K n lu ll hl : Nat) : Prop := ll < 2 ^ K ∧ hl < 2 ^ K ∧ n = 0 ∨ ∃ a b, St a b lu ll hl ∧ a + b + n = 2 * K + 1
theorem Few.step {K n lu ll hu hl : Nat} (bt : Bt lu ll hu hl) (h : ¬ (lu / ll + 1) * hl < hu) (f : Few K n lu ll hl) : Few K (n + 1) hl (hu - lu / ll * hl) (lu % ll) := by
  rcases f with ⟨f1, f2, rfl⟩ | ⟨a, b, s, e⟩
  · exact .inr ⟨K, K, St.first bt h f1 f2, by omega⟩
  · obtain ⟨b', rfl, s'⟩ := s.step bt h
    exact .inr ⟨b', a, s', by omega⟩
theorem Few.le {K n lu ll hl : Nat} (f : Few K n lu ll hl) : n ≤ 2 * K + 1 := by
  rcases f with ⟨f1, f2, rfl⟩ | ⟨a, b, s, e⟩
  · omega
  · omega
end Go.Proofs.YtebnjolkolobhaaGreatDoor.M
