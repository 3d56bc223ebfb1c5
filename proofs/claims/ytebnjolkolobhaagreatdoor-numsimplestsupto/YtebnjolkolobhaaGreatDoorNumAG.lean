/- Laid together of: QText, NumQ. -/
import Derived.Test.YtebnjolkolobhaaGreatDoorRefE
import Derived.Test.YtebnjolkolobhaaGreatDoorQAll
import Derived.Test.YtebnjolkolobhaaGreatDoorMulBG
import Derived.Test.YtebnjolkolobhaaGreatDoorRefC
/- ==== QText ==== -/
namespace Go.Proofs.YtebnjolkolobhaaGreatDoor
open Go.RowKit
set_option linter.unusedVariables false
/-- The canonical text of a rational. -/
def qT (q : Rat) : List UInt8 := rText (decide (q.num < 0)) q.num.natAbs q.den
/-- The rational of a canonical text. -/
def qV (l : List UInt8) : Rat := mkRat (M.sg (cneg l) (M.dec (cup l))) (M.dec (clow l))
theorem frac_qT (s : Bool) (n d : Nat) (hd : 0 < d) : rText (s && !decide (n = 0)) (n / Nat.gcd n d) (d / Nat.gcd n d) = qT (mkRat (M.sg s n) d) := by
  obtain ⟨a, b, c⟩ := M.mk_parts s n d hd
  unfold qT
  rw [a, b, c]
theorem can_pos {l : List UInt8} (h : CanT l) : 0 < M.dec (clow l) := by
  have hl := can_low h
  exact Nat.pos_of_ne_zero (fun e => hl.2 ((dec_zero hl.1).1 e))
theorem can_qT {l : List UInt8} (h : CanT l) : qT (qV l) = l := by
  unfold qV
  have hl := can_low h
  rw [← frac_qT _ _ _ (can_pos h)]
  exact (can_text l h.1 hl.1 hl.2).2 h
theorem lit_digits (n : Nat) : Lit (Lib.decDigits n) := by
  refine ⟨good_digits n, ?_⟩
  by_cases h : n = 0
  · subst h
    rw [Lib.decDigits_one (by decide)]
    exact .inl rfl
  · obtain ⟨b, l, e⟩ := List.exists_cons_of_ne_nil (M.decDigits_ne n)
    right
    rw [e]
    simpa using M.decDigits_head n h b l e
theorem qT_can (q : Rat) : CanT (qT q) ∧ qV (qT q) = q := by
  have hd : 0 < q.den := q.den_pos
  have e : qT q = ctext (decide (q.num < 0)) (Lib.decDigits q.num.natAbs) (decide (q.den ≠ 1)) (Lib.decDigits q.den) := rText_ctext _ _ _ hd
  obtain ⟨p1, p2, p3, p4⟩ := ctext_parts (decide (q.num < 0)) (decide (q.den ≠ 1)) (Lib.decDigits q.den) (good_digits q.num.natAbs)
  rw [← e] at p1 p2 p3 p4
  have hlow : M.dec (clow (qT q)) = q.den := by
    rw [p4]
    by_cases h : q.den = 1
    · rw [decide_eq_false (by simpa using h), h]; rfl
    · rw [decide_eq_true h, if_pos rfl, M.dec_decDigits]
  have hup : M.dec (cup (qT q)) = q.num.natAbs := by rw [p2, M.dec_decDigits]
  constructor
  · refine ⟨by rw [p2]; exact lit_digits _, fun hn h0 => ?_, fun hs => ?_⟩
    · rw [p1] at hn
      have := of_decide_eq_true hn
      have h1 : M.dec (cup (qT q)) = 0 := by rw [h0]; rfl
      rw [hup] at h1
      omega
    · rw [p3] at hs
      have h1 : q.den ≠ 1 := of_decide_eq_true hs
      have h2 : clow (qT q) = Lib.decDigits q.den := by rw [p4, hs, if_pos rfl]
      have hL : Lit (clow (qT q)) := by rw [h2]; exact lit_digits _
      refine ⟨hL, fun e0 => ?_, fun e1 => ?_, ?_⟩
      · have := (dec_zero hL).2 e0
        omega
      · have := (dec_one hL).2 e1
        omega
      · rw [hup, hlow]
        exact q.reduced
  · unfold qV
    rw [hlow, hup, p1]
    have : M.sg (decide (q.num < 0)) q.num.natAbs = q.num := by
      unfold M.sg
      by_cases h : q.num < 0
      · rw [decide_eq_true h, if_pos rfl]; omega
      · rw [decide_eq_false h, if_neg (by simp)]; omega
    rw [this, Rat.mkRat_self]
theorem qT_inj {p q : Rat} (h : qT p = qT q) : p = q := by rw [← (qT_can p).2, ← (qT_can q).2, h]
theorem qV_zero : qV [48] = 0 := by
  show mkRat _ _ = 0
  exact Rat.zero_mkRat _
end Go.Proofs.YtebnjolkolobhaaGreatDoor
/- ==== NumQ ==== -/
namespace Go.Proofs.YtebnjolkolobhaaGreatDoor
open Go.RowKit
set_option linter.unusedVariables false
/-- Is it a canonical text? -/
def canB (l : List UInt8) : Bool :=
  decide (Lit (cup l)) && (!cneg l || decide (cup l ≠ [48])) && (!cslash l || (decide (Lit (clow l)) && decide (clow l ≠ [48]) && decide (clow l ≠ [49]) && decide (Nat.gcd (M.dec (cup l)) (M.dec (clow l)) = 1)))
theorem canB_iff (l : List UInt8) : canB l = true ↔ CanT l := by
  unfold canB CanT
  rw [Bool.and_eq_true, Bool.and_eq_true, decide_eq_true_eq]
  constructor
  · rintro ⟨⟨h1, h2⟩, h3⟩
    refine ⟨h1, fun hn => ?_, fun hs => ?_⟩
    · rw [hn] at h2
      simpa using h2
    · rw [hs] at h3
      simp only [Bool.not_true, Bool.false_or, Bool.and_eq_true, decide_eq_true_eq] at h3
      exact ⟨h3.1.1.1, h3.1.1.2, h3.1.2, h3.2⟩
  · rintro ⟨h1, h2, h3⟩
    refine ⟨⟨h1, ?_⟩, ?_⟩
    · cases hn : cneg l with
      | false => rfl
      | true => simpa using h2 hn
    · cases hs : cslash l with
      | false => rfl
      | true =>
        obtain ⟨a, b, c, d⟩ := h3 hs
        simp only [Bool.not_true, Bool.false_or, Bool.and_eq_true, decide_eq_true_eq]
        exact ⟨⟨⟨a, b⟩, c⟩, d⟩
/-- The parts of what lowest makes. -/
def lowA (s : Bool) (n d : Nat) : Bool := if n = 0 ∨ d = 1 then (s && !decide (n = 0)) else s
def lowD (n d : Nat) : Nat := if n = 0 ∨ d = 1 then 0 else d
theorem Low.den {w : World} {r : Value} {s : Bool} {n d : Nat} (h : Low w r s n d) : DenR w r (lowA s n d) n (lowD n d) := by
  unfold Low at h
  unfold lowA lowD
  by_cases c : n = 0 ∨ d = 1
  · rw [if_pos c] at h
    rw [if_pos c, if_pos c]
    exact h
  · rw [if_neg c] at h
    rw [if_neg c, if_neg c]
    exact h
theorem lowD_le (n d : Nat) : lowD n d ≤ d := by unfold lowD; split <;> omega
theorem low_text (s : Bool) (n d : Nat) (hd : 0 < d) : ratText (lowA s (n / Nat.gcd n d) (d / Nat.gcd n d)) (n / Nat.gcd n d) (lowD (n / Nat.gcd n d) (d / Nat.gcd n d)) = qT (mkRat (M.sg s n) d) := by
  rw [← frac_qT s n d hd, text_same s n d hd]
  unfold lowText lowA lowD
  split <;> rfl
/-- The number under the stroke, as a rational holds it. -/
abbrev cden (l : List UInt8) : Nat := if cslash l then M.dec (clow l) else 0
theorem lowN_can {l : List UInt8} (h : CanT l) : lowN (cden l) = M.dec (clow l) := by
  unfold lowN cden
  cases hs : cslash l with
  | true =>
    have := can_pos h
    rw [if_pos rfl, if_neg (by omega)]
  | false =>
    simp only [Bool.false_eq_true, if_false, if_true]
    rw [clow_plain hs]
    rfl
theorem cden_one {l : List UInt8} (h : CanT l) : cden l ≠ 1 := by
  unfold cden
  cases hs : cslash l with
  | true =>
    rw [if_pos rfl]
    have := h.2.2 hs
    intro e
    exact this.2.2.1 ((dec_one this.1).1 e)
  | false => simp
theorem cneg_zero {l : List UInt8} (h : CanT l) : M.dec (cup l) = 0 → cneg l = false := by
  intro e
  cases hn : cneg l
  · rfl
  · exact absurd ((dec_zero h.1).1 e) (h.2.1 hn)
theorem gcd_can {l : List UInt8} (h : CanT l) : Nat.gcd (M.dec (cup l)) (M.dec (clow l)) = 1 := by
  cases hs : cslash l with
  | true => exact (h.2.2 hs).2.2.2
  | false => rw [clow_plain hs]; exact Nat.gcd_one_right _
theorem can_BB {l : List UInt8} (h : CanT l) {K : Nat} (hK : l.length + 1 ≤ K) : ((M.dec (cup l) : Nat) : Int) < M.BB ^ K ∧ ((M.dec (clow l) : Nat) : Int) < M.BB ^ K := by
  have ht : (Lib.trimPrefix l [45]).length ≤ l.length := by unfold Lib.trimPrefix; split <;> simp
  have h1 := cut_le1 (Lib.trimPrefix l [45])
  have h2 := cut_le2 (Lib.trimPrefix l [45])
  have h3 : (cup l).length ≤ K := by unfold cup; omega
  have h4 : (clow l).length ≤ K := by
    unfold clow
    split
    · omega
    · simp; omega
  exact ⟨dec_bb h.1.1.2 h3, dec_bb (can_low h).1.1.2 h4⟩
/-- What the calls answer. -/
def mulT (la lb : List UInt8) : List UInt8 × Int := if canB la && canB lb then (qT (qV la * qV lb), 0) else ([], 1)
def addT (la lb : List UInt8) : List UInt8 × Int := if canB la && canB lb then (qT (qV la + qV lb), 0) else ([], 1)
def subT (la lb : List UInt8) : List UInt8 × Int := if canB la && canB lb then (qT (qV la - qV lb), 0) else ([], 1)
def quoT (la lb : List UInt8) : List UInt8 × Int := if canB la && canB lb then (if qV lb = 0 then ([], 2) else (qT (qV la / qV lb), 0)) else ([], 1)
def cmpQ (p q : Rat) : Int := if p < q then -1 else if p = q then 0 else 1
def cmpT (la lb : List UInt8) : Int × Int := if canB la && canB lb then (cmpQ (qV la) (qV lb), 0) else (0, 1)
theorem neg_up {l : List UInt8} (h : CanT l) : cneg l = true → M.dec (cup l) ≠ 0 := fun hn e => h.2.1 hn ((dec_zero h.1).1 e)
theorem cmpR_eq (s1 s2 : Bool) (n1 D1 n2 D2 : Nat) (h1 : 0 < D1) (h2 : 0 < D2) (z1 : s1 = true → n1 ≠ 0) (z2 : s2 = true → n2 ≠ 0) : cmpR s1 n1 D1 s2 n2 D2 = M.cmp (M.sg s1 n1 * D2) (M.sg s2 n2 * D1) := by
  have e1 : 0 < n1 → 0 < n1 * D2 := fun h => Nat.mul_pos h h2
  have e2 : 0 < n2 → 0 < n2 * D1 := fun h => Nat.mul_pos h h1
  unfold cmpR
  rw [M.sg_scale, M.sg_scale]
  have p1 : s1 = true → 0 < n1 * D2 := fun h => e1 (Nat.pos_of_ne_zero (z1 h))
  have p2 : s2 = true → 0 < n2 * D1 := fun h => e2 (Nat.pos_of_ne_zero (z2 h))
  generalize n1 * D2 = x at *
  generalize n2 * D1 = y at *
  cases s1 <;> cases s2
  · rfl
  · have q := p2 rfl
    show (1 : Int) = M.cmp x (-(y : Int))
    unfold M.cmp
    rw [if_neg (by omega), if_neg (by omega)]
  · have q := p1 rfl
    show (-1 : Int) = M.cmp (-(x : Int)) y
    unfold M.cmp
    rw [if_pos (by omega)]
  · show - M.cmp x y = M.cmp (-(x : Int)) (-(y : Int))
    unfold M.cmp
    by_cases h : (x : Int) < y
    · rw [if_pos h, if_neg (by omega), if_neg (by omega)]; rfl
    · by_cases h' : (x : Int) = y
      · rw [if_neg h, if_pos h', if_neg (by omega), if_pos (by omega)]; rfl
      · rw [if_neg h, if_neg h', if_pos (by omega)]
theorem cmp_qV {la lb : List UInt8} (ha : CanT la) (hb : CanT lb) : cmpR (cneg la) (M.dec (cup la)) (M.dec (clow la)) (cneg lb) (M.dec (cup lb)) (M.dec (clow lb)) = cmpQ (qV la) (qV lb) := by
  rw [cmpR_eq _ _ _ _ _ _ (can_pos ha) (can_pos hb) (neg_up ha) (neg_up hb)]
  have num : ∀ {l : List UInt8}, CanT l → (qV l).num = M.sg (cneg l) (M.dec (cup l)) ∧ (qV l).den = M.dec (clow l) := by
    intro l h
    have hg := gcd_can h
    have hp := can_pos h
    unfold qV
    constructor
    · rw [Rat.num_mkRat, if_neg (by omega), M.sg_abs, Nat.gcd_comm, hg]; simp
    · rw [Rat.den_mkRat, if_neg (by omega), M.sg_abs, Nat.gcd_comm, hg, Nat.div_one]
  unfold cmpQ M.cmp
  have e1 : (qV la < qV lb) ↔ M.sg (cneg la) (M.dec (cup la)) * (M.dec (clow lb) : Nat) < M.sg (cneg lb) (M.dec (cup lb)) * (M.dec (clow la) : Nat) := by
    rw [Rat.lt_iff, (num ha).1, (num ha).2, (num hb).1, (num hb).2]
  have e2 : (qV la = qV lb) ↔ M.sg (cneg la) (M.dec (cup la)) * (M.dec (clow lb) : Nat) = M.sg (cneg lb) (M.dec (cup lb)) * (M.dec (clow la) : Nat) := by
    unfold qV
    exact Rat.mkRat_eq_iff (Nat.ne_of_gt (can_pos ha)) (Nat.ne_of_gt (can_pos hb))
  simp only [e1, e2]
theorem qV_zero_iff {l : List UInt8} (h : CanT l) : qV l = 0 ↔ M.dec (cup l) = 0 := by
  unfold qV
  rw [Rat.mkRat_eq_zero (Nat.ne_of_gt (can_pos h))]
  unfold M.sg
  cases cneg l <;> simp
theorem mul_q (la lb : List UInt8) : mkRat (M.sg (cneg la != cneg lb) (M.dec (cup la) * M.dec (cup lb))) (M.dec (clow la) * M.dec (clow lb)) = qV la * qV lb := M.mk_mul _ _ _ _ _ _
theorem quo_q (la lb : List UInt8) : mkRat (M.sg (cneg la != cneg lb) (M.dec (cup la) * M.dec (clow lb))) (M.dec (clow la) * M.dec (cup lb)) = qV la / qV lb := M.mk_div _ _ _ _ _ _
theorem add_q {la lb : List UInt8} (ha : CanT la) (hb : CanT lb) : mkRat (M.sg (M.addS (cneg la) (M.dec (cup la) * M.dec (clow lb)) (cneg lb) (M.dec (cup lb) * M.dec (clow la))).1 (M.addS (cneg la) (M.dec (cup la) * M.dec (clow lb)) (cneg lb) (M.dec (cup lb) * M.dec (clow la))).2) (M.dec (clow la) * M.dec (clow lb)) = qV la + qV lb := M.mk_add _ _ _ _ _ _ (can_pos ha) (can_pos hb)
theorem sub_q {la lb : List UInt8} (ha : CanT la) (hb : CanT lb) : mkRat (M.sg (M.addS (cneg la) (M.dec (cup la) * M.dec (clow lb)) (!cneg lb && !decide (M.dec (cup lb) = 0)) (M.dec (cup lb) * M.dec (clow la))).1 (M.addS (cneg la) (M.dec (cup la) * M.dec (clow lb)) (!cneg lb && !decide (M.dec (cup lb) = 0)) (M.dec (cup lb) * M.dec (clow la))).2) (M.dec (clow la) * M.dec (clow lb)) = qV la - qV lb := by
  rw [M.mk_add _ _ _ _ _ _ (can_pos ha) (can_pos hb), M.mk_neg, ← Rat.sub_eq_add_neg]
  rfl
end Go.Proofs.YtebnjolkolobhaaGreatDoor
