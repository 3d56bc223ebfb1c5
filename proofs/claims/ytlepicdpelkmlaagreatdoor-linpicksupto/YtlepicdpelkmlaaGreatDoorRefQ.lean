/-
  The document's rationals (arbiterref1), told by rationals.
-/
import Derived.Test.YtlepicdpelkmlaaGreatDoorRefH
import Derived.Test.YtlepicdpelkmlaaGreatDoorLinA
namespace Go.Proofs.YtlepicdpelkmlaaGreatDoor
open Go.RowKit
set_option linter.unusedVariables false
/-- The value v is the document's rational q. -/
def RQ (w : World) (v : Value) (q : Rat) : Prop := RR w v (decide (q.num < 0)) q.num.natAbs q.den
theorem RQ.below {w w' : World} {v : Value} {q : Rat} (h : RQ w v q) (b : Below w.heap.size w w') : RQ w' v q := RR.below h b
theorem RQ.shape {w : World} {v : Value} {q : Rat} (h : RQ w v q) : ∃ b na nl nc da dl dc, v = .agg #[.bool b, .slice na nl nc, .slice da dl dc] := by
  obtain ⟨na, nl, nc, da, dl, dc, rfl, -⟩ := h
  exact ⟨_, na, nl, nc, da, dl, dc, rfl⟩
theorem RQ.past {w w' : World} {v : Value} {q : Rat} {g : Nat} {x : Bool} {ya : Option Addr} {yl yc : Nat} {za : Option Addr} {zl zc : Nat} {t : TypeId} (h : RQ w v q) (hg : w.heap[g]? = some (.cells #[.bool x, .slice ya yl yc, .slice za zl zc] t (0, 0))) (qq : w.grownBy w' (some g)) : RQ w' v q := RR.past h hg qq
theorem Sz.le {x : Rat} (h : Sz x) : (tB x).size ≤ 1073741824 := h
theorem cmpQ_zero (x : Rat) : cmpQ x 0 = 0 ↔ x = 0 := by
  unfold cmpQ
  by_cases h : x < 0
  · rw [if_pos h]; refine ⟨fun e => absurd e (by decide), fun e => ?_⟩; subst e; exact absurd h (by decide)
  · rw [if_neg h]
    by_cases h2 : x = 0
    · rw [if_pos h2]; exact ⟨fun _ => h2, fun _ => rfl⟩
    · rw [if_neg h2]; exact ⟨fun e => absurd e (by decide), fun e => absurd e h2⟩
theorem qT_parts (q : Rat) : cneg (qT q) = decide (q.num < 0) ∧ M.dec (cup (qT q)) = q.num.natAbs ∧ M.dec (clow (qT q)) = q.den := by
  have hd : 0 < q.den := q.den_pos
  have e : qT q = ctext (decide (q.num < 0)) (Lib.decDigits q.num.natAbs) (decide (q.den ≠ 1)) (Lib.decDigits q.den) := rText_ctext _ _ _ hd
  obtain ⟨p1, p2, p3, p4⟩ := ctext_parts (decide (q.num < 0)) (decide (q.den ≠ 1)) (Lib.decDigits q.den) (good_digits q.num.natAbs)
  rw [← e] at p1 p2 p3 p4
  refine ⟨p1, by rw [p2, M.dec_decDigits], ?_⟩
  rw [p4]
  by_cases h : q.den = 1
  · rw [decide_eq_false (by simpa using h), h]; rfl
  · rw [decide_eq_true h, if_pos rfl, M.dec_decDigits]
theorem rq_of {w : World} {v : Value} (s : Bool) (n d : Nat) (hd : 0 < d) {q : Rat} (e : mkRat (M.sg s n) d = q) (h : RR w v (s && !decide (n = 0)) (n / Nat.gcd n d) (d / Nat.gcd n d)) : RQ w v q := by
  obtain ⟨a, b, c⟩ := M.mk_parts s n d hd
  subst e
  unfold RQ
  rw [a, b, c]
  exact h
/-- Of, of any text. -/
theorem rqof (w : World) (s : ByteArray) (hs : s.size ≤ 1073741824) :
    Calls Tryz.prog 50 #[.string s] w fun e w' => (∃ b na nl nc da dl dc, e = .returned (.tuple #[.agg #[.bool b, .slice na nl nc, .slice da dl dc], .bool (canB s.data.toList)]) ∧ (canB s.data.toList = true → RQ w' (.agg #[.bool b, .slice na nl nc, .slice da dl dc]) (qV s.data.toList))) ∧ Below w.heap.size w w' := by
  refine (rof_one w s _ rfl (by rw [slen]; exact hs) _ (canB_iff _)).mono ?_
  rintro e w' ⟨⟨b, na, nl, nc, da, dl, dc, e1, h⟩, bw⟩
  refine ⟨⟨b, na, nl, nc, da, dl, dc, e1, fun hc => ?_⟩, bw⟩
  have hr := h ((canB_iff _).1 hc)
  obtain ⟨a, b, c⟩ := qT_parts (qV s.data.toList)
  rw [can_qT ((canB_iff _).1 hc)] at a b c
  unfold RQ
  rw [← a, ← b, ← c]
  exact hr
/-- How great what is reckoned with may be. -/
def Lo (x : Rat) : Prop := Bd 4194306 x
theorem Lo.nb {x : Rat} (h : Lo x) : ((x.num.natAbs : Nat) : Int) < M.NB ^ 4194306 ∧ ((x.den : Nat) : Int) < M.NB ^ 4194306 := by
  obtain ⟨a, b⟩ := h
  rw [M.NB_pow]
  generalize 4194306 = k at *
  have e : 10 ^ k ≤ 10 ^ (9 * k) := Nat.pow_le_pow_right (by decide) (by omega)
  exact ⟨by exact_mod_cast Nat.lt_of_lt_of_le a e, by exact_mod_cast Nat.lt_of_lt_of_le b e⟩
theorem Lo.up {x : Rat} {k : Nat} (hk : k ≤ 4194306) (h : Bd k x) : Lo x := by
  obtain ⟨a, b⟩ := h
  unfold Lo Bd
  generalize 4194306 = m at *
  have e : 10 ^ k ≤ 10 ^ m := Nat.pow_le_pow_right (by decide) hk
  exact ⟨Nat.lt_of_lt_of_le a e, Nat.lt_of_lt_of_le b e⟩
theorem rqless (w : World) (va vb : Value) (x y : Rat) (ha : RQ w va x) (hb : RQ w vb y) (bx : Lo x) (by_ : Lo y) :
    Calls Tryz.prog 31 #[va, vb] w fun e w' => (∃ v, e = .returned v ∧ RQ w' v (x - y)) ∧ Below w.heap.size w w' := by
  refine (rless_calls w va vb _ _ _ _ _ _ 4194306 ha hb x.den_pos y.den_pos bx.nb.1 bx.nb.2 by_.nb.1 by_.nb.2 (by decide) (by decide)).mono ?_
  rintro e w' ⟨⟨v, e1, h⟩, bw⟩
  refine ⟨⟨v, e1, rq_of _ _ _ (Nat.mul_pos x.den_pos y.den_pos) ?_ h⟩, bw⟩
  have := sub_q (qT_can x).1 (qT_can y).1
  obtain ⟨a1, a2, a3⟩ := qT_parts x
  obtain ⟨b1, b2, b3⟩ := qT_parts y
  rw [a1, a2, a3, b1, b2, b3, (qT_can x).2, (qT_can y).2] at this
  exact this
theorem rqover (w : World) (va vb : Value) (x y : Rat) (ha : RQ w va x) (hb : RQ w vb y) (hy : y ≠ 0) (bx : Lo x) (by_ : Lo y) :
    Calls Tryz.prog 34 #[va, vb] w fun e w' => (∃ v, e = .returned v ∧ RQ w' v (x / y)) ∧ Below w.heap.size w w' := by
  have hn : 0 < y.num.natAbs := Nat.pos_of_ne_zero (fun h => hy (Rat.num_eq_zero.1 (by omega)))
  refine (rover_calls w va vb _ _ _ _ _ _ 4194306 ha hb x.den_pos hn bx.nb.1 bx.nb.2 by_.nb.1 by_.nb.2 (by decide) (by decide)).mono ?_
  rintro e w' ⟨⟨v, e1, h⟩, bw⟩
  refine ⟨⟨v, e1, rq_of _ _ _ (Nat.mul_pos x.den_pos hn) ?_ h⟩, bw⟩
  have := quo_q (qT x) (qT y)
  obtain ⟨a1, a2, a3⟩ := qT_parts x
  obtain ⟨b1, b2, b3⟩ := qT_parts y
  rw [a1, a2, a3, b1, b2, b3, (qT_can x).2, (qT_can y).2] at this
  exact this
theorem rqcompare (w : World) (va vb : Value) (x y : Rat) (ha : RQ w va x) (hb : RQ w vb y) (bx : Lo x) (by_ : Lo y) :
    Calls Tryz.prog 35 #[va, vb] w fun e w' => e = .returned (.int .i64 (cmpQ x y)) ∧ Below w.heap.size w w' := by
  refine rcompare_calls w va vb _ _ _ _ _ _ 4194306 ha hb x.den_pos y.den_pos bx.nb.1 bx.nb.2 by_.nb.1 by_.nb.2 (by decide) (by decide) _ ?_
  rw [sgn_frac _ _ _ (Nat.mul_pos x.den_pos y.den_pos)]
  have := sub_q (qT_can x).1 (qT_can y).1
  obtain ⟨a1, a2, a3⟩ := qT_parts x
  obtain ⟨b1, b2, b3⟩ := qT_parts y
  rw [a1, a2, a3, b1, b2, b3, (qT_can x).2, (qT_can y).2] at this
  rw [this, cmpQ_sub]
theorem rqsign (w : World) (v : Value) (x : Rat) (h : RQ w v x) :
    Calls Tryz.prog 33 #[v] w fun e w' => e = .returned (.int .i64 (cmpQ x 0)) ∧ Below w.heap.size w w' := by
  rw [← sgn_q]
  exact rsign_calls w v _ _ _ h
/-- A number that can be written. -/
def Wide (x : Rat) : Prop := ∃ k, k ≤ 1073741824 ∧ Bd k x
theorem Lo.wide_sub {x y : Rat} (hx : Lo x) (hy : Lo y) : Wide (x - y) := ⟨_, by decide, Bd.sub hx hy⟩
theorem Lo.wide_div {x y : Rat} (hx : Lo x) (hy : Lo y) : Wide (x / y) := ⟨_, by decide, Bd.div hx hy⟩
theorem rqtext (w : World) (v : Value) (x : Rat) (h : RQ w v x) (bx : Wide x) :
    Calls Tryz.prog 30 #[v] w fun e w' => e = .returned (.string (tB x)) ∧ Below w.heap.size w w' := by
  obtain ⟨k, hk, a, b⟩ := bx
  have e : 10 ^ k ≤ 10 ^ (9 * k) := Nat.pow_le_pow_right (by decide) (by omega)
  refine rtext_calls w v _ _ _ k h x.den_pos ?_ ?_ (by omega)
  · rw [M.NB_pow]; exact_mod_cast Nat.lt_of_lt_of_le a e
  · rw [M.NB_pow]; exact_mod_cast Nat.lt_of_lt_of_le b e
end Go.Proofs.YtlepicdpelkmlaaGreatDoor
