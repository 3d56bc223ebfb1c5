/-
  The simplest number between two bounds, as a rational: where it lies, and that whatever else lies there is no simpler.
-/
import Derived.Test.YtebnjolkolobhaaGreatDoorQAll
import Derived.Test.YtebnjolkolobhaaGreatDoorSimMath
/- ==== SimQ ==== -/
namespace Go.Proofs.YtebnjolkolobhaaGreatDoor
set_option linter.unusedVariables false
/-- A bound's size as a pair; none is 1/0. -/
def szO : Option Rat → Nat × Nat
  | none => (1, 0)
  | some q => (q.num.natAbs, q.den)
def up0 : Option Rat → Bool
  | none => false
  | some q => decide (0 ≤ q)
def dn0 : Option Rat → Bool
  | none => false
  | some q => decide (q ≤ 0)
def sim2 (a b : Nat × Nat) : Nat × Nat := M.smp a.1 a.2 b.1 b.2
def simQ (lo hi : Option Rat) : Rat :=
  if up0 lo then mkRat ((sim2 (szO lo) (szO hi)).1 : Int) (sim2 (szO lo) (szO hi)).2
  else if dn0 hi then - mkRat ((sim2 (szO hi) (szO lo)).1 : Int) (sim2 (szO hi) (szO lo)).2
  else 0
def OrdO : Option Rat → Option Rat → Prop
  | some x, some y => x < y
  | _, _ => True
def Win (lo : Option Rat) (c : Rat) (hi : Option Rat) : Prop := (∀ x, lo = some x → x < c) ∧ ∀ y, hi = some y → c < y
theorem mk_cop {n d : Nat} (h : Nat.gcd n d = 1) (hd : 0 < d) : (mkRat (n : Int) d).num = n ∧ (mkRat (n : Int) d).den = d := by
  have hd0 : d ≠ 0 := by omega
  constructor
  · rw [Rat.num_mkRat, if_neg hd0, Int.natAbs_natCast, Nat.gcd_comm, h]; simp
  · rw [Rat.den_mkRat, if_neg hd0, Int.natAbs_natCast, Nat.gcd_comm, h, Nat.div_one]
theorem nn_num {q : Rat} (h : 0 ≤ q) : (q.num.natAbs : Int) = q.num := by
  have := Rat.num_nonneg.2 h
  omega
theorem np_num {q : Rat} (h : q ≤ 0) : (q.num.natAbs : Int) = - q.num := by
  have h2 : 0 ≤ -q := by
    have := Rat.neg_le_neg h
    simpa using this
  have := Rat.num_nonneg.2 h2
  rw [Rat.neg_num] at this
  omega
theorem lt_cross {x y : Rat} : x < y ↔ x.num * y.den < y.num * x.den := Rat.lt_iff x y
theorem le_of_up {lo : Option Rat} (h : up0 lo = true) : ∃ x, lo = some x ∧ 0 ≤ x := by
  cases lo with
  | none => cases h
  | some x => exact ⟨x, rfl, of_decide_eq_true h⟩
theorem le_of_dn {hi : Option Rat} (h : dn0 hi = true) : ∃ y, hi = some y ∧ y ≤ 0 := by
  cases hi with
  | none => cases h
  | some x => exact ⟨x, rfl, of_decide_eq_true h⟩
theorem rat_lt_le_trans {a b c : Rat} (h1 : a < b) (h2 : b ≤ c) : a < c := by
  exact Rat.not_le.1 (fun h => Rat.not_le.2 h1 (Rat.le_trans h2 h))
theorem rat_le_lt_trans {a b c : Rat} (h1 : a ≤ b) (h2 : b < c) : a < c := by
  exact Rat.not_le.1 (fun h => Rat.not_le.2 h2 (Rat.le_trans h h1))
theorem cast_lt {a b : Nat} (h : (a : Int) < b) : a < b := by exact_mod_cast h
/-- Between two sizes on one side of 0. -/
theorem size_lt {x y : Rat} (hx : 0 ≤ x) (hy : 0 ≤ y) : x < y ↔ x.num.natAbs * y.den < y.num.natAbs * x.den := by
  rw [lt_cross, ← nn_num hx, ← nn_num hy]
  constructor
  · intro h; exact_mod_cast h
  · intro h; exact_mod_cast h
theorem size_lt' {x y : Rat} (hx : x ≤ 0) (hy : y ≤ 0) : x < y ↔ y.num.natAbs * x.den < x.num.natAbs * y.den := by
  have e1 := np_num hx
  have e2 := np_num hy
  rw [lt_cross]
  obtain ⟨a, ha⟩ : ∃ a, x.num.natAbs = a := ⟨_, rfl⟩
  obtain ⟨b, hb⟩ : ∃ b, y.num.natAbs = b := ⟨_, rfl⟩
  rw [ha] at e1
  rw [hb] at e2
  have f1 : x.num = -(a : Int) := by omega
  have f2 : y.num = -(b : Int) := by omega
  rw [ha, hb, f1, f2]
  clear e1 e2 f1 f2 ha hb
  rw [Int.neg_mul, Int.neg_mul]
  constructor
  · intro h
    have : ((b * x.den : Nat) : Int) < (a * y.den : Nat) := by rw [Int.natCast_mul, Int.natCast_mul]; omega
    exact_mod_cast this
  · intro h
    have : ((b * x.den : Nat) : Int) < (a * y.den : Nat) := by exact_mod_cast h
    rw [Int.natCast_mul, Int.natCast_mul] at this
    omega
theorem bt_up {lo hi : Option Rat} (h : up0 lo = true) (o : OrdO lo hi) : M.Bt (szO lo).1 (szO lo).2 (szO hi).1 (szO hi).2 := by
  obtain ⟨x, rfl, hx⟩ := le_of_up h
  refine ⟨x.den_pos, ?_⟩
  cases hi with
  | none => show _ * 0 < 1 * x.den; have := x.den_pos; omega
  | some y =>
    have hxy : x < y := o
    have hy : 0 ≤ y := Rat.le_of_lt (rat_le_lt_trans hx hxy)
    exact (size_lt hx hy).1 hxy
theorem bt_dn {lo hi : Option Rat} (h : dn0 hi = true) (o : OrdO lo hi) : M.Bt (szO hi).1 (szO hi).2 (szO lo).1 (szO lo).2 := by
  obtain ⟨y, rfl, hy⟩ := le_of_dn h
  refine ⟨y.den_pos, ?_⟩
  cases lo with
  | none => show _ * 0 < 1 * y.den; have := y.den_pos; omega
  | some x =>
    have hxy : x < y := o
    have hx : x ≤ 0 := Rat.le_of_lt (rat_lt_le_trans hxy hy)
    exact (size_lt' hx hy).1 hxy
theorem neg_parts (q : Rat) : (-q).num.natAbs = q.num.natAbs ∧ (-q).den = q.den := by
  exact ⟨by rw [Rat.neg_num, Int.natAbs_neg], Rat.neg_den q⟩
/-- The simplest lies between the bounds. -/
theorem simQ_in {lo hi : Option Rat} (o : OrdO lo hi) : Win lo (simQ lo hi) hi := by
  unfold simQ
  cases hu : up0 lo with
  | true =>
    rw [if_pos rfl]
    have b := bt_up hu o
    obtain ⟨i1, i2⟩ := M.smp_in _ _ _ _ b
    obtain ⟨c1, c2, c3⟩ := M.smp_cop _ _ _ _ b
    change Nat.gcd (sim2 (szO lo) (szO hi)).1 (sim2 (szO lo) (szO hi)).2 = 1 at c1
    change 0 < (sim2 (szO lo) (szO hi)).1 at c2
    change 0 < (sim2 (szO lo) (szO hi)).2 at c3
    change _ * (sim2 (szO lo) (szO hi)).2 < (sim2 (szO lo) (szO hi)).1 * _ at i1
    change (sim2 (szO lo) (szO hi)).1 * _ < _ * (sim2 (szO lo) (szO hi)).2 at i2
    generalize sim2 (szO lo) (szO hi) = s at *
    obtain ⟨e1, e2⟩ := mk_cop c1 c3
    have s0 : 0 ≤ mkRat (s.1 : Int) s.2 := Rat.num_nonneg.1 (by rw [e1]; omega)
    obtain ⟨x, rfl, hx⟩ := le_of_up hu
    refine ⟨fun x' hx' => ?_, fun y hy => ?_⟩
    · cases hx'
      rw [size_lt hx s0, e1, e2, Int.natAbs_natCast]
      exact i1
    · subst hy
      have hxy : x < y := o
      have hy : 0 ≤ y := Rat.le_of_lt (rat_le_lt_trans hx hxy)
      rw [size_lt s0 hy, e1, e2, Int.natAbs_natCast]
      exact i2
  | false =>
    rw [if_neg (by simp)]
    cases hd : dn0 hi with
    | true =>
      rw [if_pos rfl]
      have b := bt_dn hd o
      obtain ⟨i1, i2⟩ := M.smp_in _ _ _ _ b
      obtain ⟨c1, c2, c3⟩ := M.smp_cop _ _ _ _ b
      change Nat.gcd (sim2 (szO hi) (szO lo)).1 (sim2 (szO hi) (szO lo)).2 = 1 at c1
      change 0 < (sim2 (szO hi) (szO lo)).1 at c2
      change 0 < (sim2 (szO hi) (szO lo)).2 at c3
      change _ * (sim2 (szO hi) (szO lo)).2 < (sim2 (szO hi) (szO lo)).1 * _ at i1
      change (sim2 (szO hi) (szO lo)).1 * _ < _ * (sim2 (szO hi) (szO lo)).2 at i2
      generalize sim2 (szO hi) (szO lo) = s at *
      obtain ⟨e1, e2⟩ := mk_cop c1 c3
      have s0 : 0 ≤ mkRat (s.1 : Int) s.2 := Rat.num_nonneg.1 (by rw [e1]; omega)
      have n0 : - mkRat (s.1 : Int) s.2 ≤ 0 := by
        have := Rat.neg_le_neg s0
        simpa using this
      obtain ⟨p1, p2⟩ := neg_parts (mkRat (s.1 : Int) s.2)
      obtain ⟨y, rfl, hy⟩ := le_of_dn hd
      refine ⟨fun x hx => ?_, fun y' hy' => ?_⟩
      · subst hx
        have hxy : x < y := o
        have hx : x ≤ 0 := Rat.le_of_lt (rat_lt_le_trans hxy hy)
        rw [size_lt' hx n0, p1, p2, e1, e2, Int.natAbs_natCast]
        exact i2
      · cases hy'
        rw [size_lt' n0 hy, p1, p2, e1, e2, Int.natAbs_natCast]
        exact i1
    | false =>
      rw [if_neg (by simp)]
      refine ⟨fun x hx => ?_, fun y hy => ?_⟩
      · subst hx
        exact Rat.not_le.1 (of_decide_eq_false hu)
      · subst hy
        exact Rat.not_le.1 (of_decide_eq_false hd)
/-- Whatever else lies there has a greater number under its stroke, or the same one and a greater size. -/
theorem simQ_min {lo hi : Option Rat} (o : OrdO lo hi) {c : Rat} (w : Win lo c hi) (hne : c ≠ simQ lo hi) : (simQ lo hi).den < c.den ∨ ((simQ lo hi).den = c.den ∧ (simQ lo hi).num.natAbs < c.num.natAbs) := by
  have fin : ∀ (s q : Rat), s.num.natAbs ≤ q.num.natAbs → s.den ≤ q.den → (0 ≤ s ∧ 0 ≤ q ∨ s ≤ 0 ∧ q ≤ 0) → q ≠ s → s.den < q.den ∨ (s.den = q.den ∧ s.num.natAbs < q.num.natAbs) := by
    intro s q h1 h2 h3 h4
    rcases Nat.lt_or_eq_of_le h2 with h | h
    · exact .inl h
    · rcases Nat.lt_or_eq_of_le h1 with g | g
      · exact .inr ⟨h, g⟩
      · exfalso
        apply h4
        refine Rat.ext ?_ h.symm
        rcases h3 with ⟨a, b⟩ | ⟨a, b⟩
        · rw [← nn_num a, ← nn_num b, g]
        · have := np_num a
          have := np_num b
          omega
  revert hne
  unfold simQ
  cases hu : up0 lo with
  | true =>
    rw [if_pos rfl]
    intro hne
    have b := bt_up hu o
    obtain ⟨c1, c2, c3⟩ := M.smp_cop _ _ _ _ b
    have mm := M.smp_min _ _ _ _ b c.num.natAbs c.den
    change Nat.gcd (sim2 (szO lo) (szO hi)).1 (sim2 (szO lo) (szO hi)).2 = 1 at c1
    change 0 < (sim2 (szO lo) (szO hi)).1 at c2
    change 0 < (sim2 (szO lo) (szO hi)).2 at c3
    change _ → _ → (sim2 (szO lo) (szO hi)).1 ≤ _ ∧ (sim2 (szO lo) (szO hi)).2 ≤ _ at mm
    generalize sim2 (szO lo) (szO hi) = s at *
    obtain ⟨e1, e2⟩ := mk_cop c1 c3
    have s0 : 0 ≤ mkRat (s.1 : Int) s.2 := Rat.num_nonneg.1 (by rw [e1]; omega)
    obtain ⟨x, rfl, hx⟩ := le_of_up hu
    have hxc := w.1 x rfl
    have c0 : 0 ≤ c := Rat.le_of_lt (rat_le_lt_trans hx hxc)
    obtain ⟨m1, m2⟩ := mm ((size_lt hx c0).1 hxc) (by
      cases hi with
      | none => show _ * 0 < 1 * c.den; have := c.den_pos; omega
      | some y =>
        have hy : 0 ≤ y := Rat.le_of_lt (rat_le_lt_trans c0 (w.2 y rfl))
        exact (size_lt c0 hy).1 (w.2 y rfl))
    refine fin _ _ ?_ ?_ (.inl ⟨s0, c0⟩) hne
    · rw [e1, Int.natAbs_natCast]; exact m1
    · rw [e2]; exact m2
  | false =>
    rw [if_neg (by simp)]
    cases hd : dn0 hi with
    | true =>
      rw [if_pos rfl]
      intro hne
      have b := bt_dn hd o
      obtain ⟨c1, c2, c3⟩ := M.smp_cop _ _ _ _ b
      have mm := M.smp_min _ _ _ _ b c.num.natAbs c.den
      change Nat.gcd (sim2 (szO hi) (szO lo)).1 (sim2 (szO hi) (szO lo)).2 = 1 at c1
      change 0 < (sim2 (szO hi) (szO lo)).1 at c2
      change 0 < (sim2 (szO hi) (szO lo)).2 at c3
      change _ → _ → (sim2 (szO hi) (szO lo)).1 ≤ _ ∧ (sim2 (szO hi) (szO lo)).2 ≤ _ at mm
      generalize sim2 (szO hi) (szO lo) = s at *
      obtain ⟨e1, e2⟩ := mk_cop c1 c3
      have s0 : 0 ≤ mkRat (s.1 : Int) s.2 := Rat.num_nonneg.1 (by rw [e1]; omega)
      have n0 : - mkRat (s.1 : Int) s.2 ≤ 0 := by
        have := Rat.neg_le_neg s0
        simpa using this
      obtain ⟨p1, p2⟩ := neg_parts (mkRat (s.1 : Int) s.2)
      obtain ⟨y, rfl, hy⟩ := le_of_dn hd
      have hcy := w.2 y rfl
      have c0 : c ≤ 0 := Rat.le_of_lt (rat_lt_le_trans hcy hy)
      obtain ⟨m1, m2⟩ := mm ((size_lt' c0 hy).1 hcy) (by
        cases lo with
        | none => show _ * 0 < 1 * c.den; have := c.den_pos; omega
        | some x =>
          have hx : x ≤ 0 := Rat.le_of_lt (rat_lt_le_trans (w.1 x rfl) c0)
          exact (size_lt' hx c0).1 (w.1 x rfl))
      refine fin _ _ ?_ ?_ (.inr ⟨n0, c0⟩) hne
      · rw [p1, e1, Int.natAbs_natCast]; exact m1
      · rw [p2, e2]; exact m2
    | false =>
      rw [if_neg (by simp)]
      intro hne
      show (1 : Nat) < c.den ∨ ((1 : Nat) = c.den ∧ (0 : Nat) < c.num.natAbs)
      have := c.den_pos
      by_cases h : c.den = 1
      · refine .inr ⟨h.symm, Nat.pos_of_ne_zero (fun e => hne ?_)⟩
        exact Rat.ext (by show c.num = 0; omega) h
      · exact .inl (by omega)
end Go.Proofs.YtebnjolkolobhaaGreatDoor
