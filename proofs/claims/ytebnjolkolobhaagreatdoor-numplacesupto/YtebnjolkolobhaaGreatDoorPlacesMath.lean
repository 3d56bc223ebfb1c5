/-
  A decimal read, and written again: in plain words.
-/
import Derived.Test.YtebnjolkolobhaaGreatDoorReadA
import Derived.Test.YtebnjolkolobhaaGreatDoorRefD
import Derived.Test.YtebnjolkolobhaaGreatDoorFieldA
import Derived.Test.YtebnjolkolobhaaGreatDoorDecPure
import Derived.Test.YtebnjolkolobhaaGreatDoorNumDecimal
/- ==== PlacesMath ==== -/
namespace Go.Proofs.YtebnjolkolobhaaGreatDoor
open Go.RowKit
set_option linter.unusedVariables false
/-- A text without its zeros ahead; one digit stays. -/
def bareL : List UInt8 → List UInt8
  | a :: b :: l => if a = 48 then bareL (b :: l) else a :: b :: l
  | l => l
theorem bareL_dec : ∀ l : List UInt8, M.dec (bareL l) = M.dec l
  | [] => rfl
  | [a] => rfl
  | a :: b :: l => by
    unfold bareL
    split
    · rename_i h
      rw [bareL_dec (b :: l), M.dec_cons a, h]
      simp
    · rfl
theorem bareL_len : ∀ l : List UInt8, (bareL l).length ≤ l.length
  | [] => Nat.le_refl _
  | [a] => Nat.le_refl _
  | a :: b :: l => by
    unfold bareL
    split
    · have := bareL_len (b :: l)
      simp at this ⊢
      omega
    · exact Nat.le_refl _
theorem bareL_lit : ∀ l : List UInt8, Good l → Lit (bareL l)
  | [], h => absurd rfl h.1
  | [a], h => ⟨h, .inl rfl⟩
  | a :: b :: l, h => by
    unfold bareL
    split
    · exact bareL_lit (b :: l) ⟨by simp, fun x hx => h.2 x (List.mem_cons_of_mem _ hx)⟩
    · rename_i h0
      exact ⟨h, .inr (by simpa using h0)⟩
theorem bareL_same : ∀ l : List UInt8, Good l → (bareL l = l ↔ Lit l) := fun l h => by
  constructor
  · intro e
    rw [← e]
    exact bareL_lit l h
  · intro hl
    match l, h, hl with
    | [], h, _ => rfl
    | [a], h, _ => rfl
    | a :: b :: l, h, hl =>
      unfold bareL
      rcases hl.2 with h1 | h1
      · simp at h1
      · rw [if_neg (by simpa using h1)]
/-- The rational of a decimal. -/
def pQ (head tail : List UInt8) : Rat := mkRat (M.dec (head ++ tail) : Int) (10 ^ tail.length)
theorem read_lit {u t : List UInt8} {b : Bool} (h : Lit u ∧ (b = true → Good t)) : readParts u t b = (qT (mkRat (M.dec (u ++ t) : Int) (10 ^ t.length)), 0) := by
  have hd : 0 < 10 ^ t.length := Nat.pow_pos (by decide)
  rw [read_yes h]
  have e : qT (mkRat (M.dec (u ++ t) : Int) (10 ^ t.length)) = lowText false (M.dec (u ++ t) / Nat.gcd (M.dec (u ++ t)) (10 ^ t.length)) (10 ^ t.length / Nat.gcd (M.dec (u ++ t)) (10 ^ t.length)) := by
    have h1 := frac_qT false (M.dec (u ++ t)) (10 ^ t.length) hd
    have h2 := text_same false (M.dec (u ++ t)) (10 ^ t.length) hd
    rw [show M.sg false (M.dec (u ++ t)) = ((M.dec (u ++ t) : Nat) : Int) from rfl] at h1
    rw [← h1]
    exact h2
  rw [e]
theorem read_point (head tail : List UInt8) : readText (head ++ 46 :: tail) = if Lit head ∧ Good tail then (qT (pQ head tail), 0) else ([], 1) := by
  rcases first_at 46 (head ++ 46 :: tail) with h | ⟨q, hq, hb, hn⟩
  · exact absurd (by simp [List.getD_eq_getElem?_getD]) (h head.length (by simp))
  · have hc := cutp_at _ q hn hq hb
    unfold readText
    rw [hc]
    by_cases hqe : q = head.length
    · subst hqe
      rw [List.take_left' rfl, show (head ++ 46 :: tail).drop (head.length + 1) = tail by simp]
      by_cases hL : Lit head ∧ Good tail
      · rw [if_pos hL, read_lit ⟨hL.1, fun _ => hL.2⟩]
        rfl
      · rw [if_neg hL, read_no (fun h => hL ⟨h.1, h.2 rfl⟩)]
    · have hlt : q < head.length := by
        rcases Nat.lt_trichotomy q head.length with h | h | h
        · exact h
        · exact absurd h hqe
        · exact absurd (by simp [List.getD_eq_getElem?_getD]) (hn head.length h)
      have hmem : (46 : UInt8) ∈ head := by
        have e1 : (head ++ 46 :: tail).getD q 0 = head.getD q 0 := by
          rw [List.getD_eq_getElem?_getD, List.getD_eq_getElem?_getD, List.getElem?_append_left hlt]
        rw [e1] at hb
        rw [← hb, List.getD_eq_getElem?_getD, List.getElem?_eq_getElem hlt]
        exact List.getElem_mem _
      have hno : ¬ Lit head := fun h => absurd (h.1.2 46 hmem).1 (by decide)
      rw [if_neg (fun h => hno h.1)]
      refine read_no (fun h => ?_)
      have h2 := h.2 rfl
      have hm2 : (46 : UInt8) ∈ (head ++ 46 :: tail).drop (q + 1) := by
        rw [List.drop_append_of_le_length (by omega)]
        simp
      exact absurd (h2.2 46 hm2).1 (by decide)
/-- A text without a point. -/
theorem read_whole {u : List UInt8} (h : Lit u) : readText u = (qT (mkRat (M.dec u : Int) 1), 0) := by
  unfold readText
  rw [cutp_none u (fun j hj e => by
    have hm : (46 : UInt8) ∈ u := by
      rw [← e, List.getD_eq_getElem?_getD, List.getElem?_eq_getElem hj]
      exact List.getElem_mem _
    exact absurd (h.1.2 46 hm).1 (by decide))]
  rw [read_lit ⟨h, fun h => by cases h⟩]
  simp
theorem mk_nat_scale (n d k : Nat) (hk : 0 < k) : mkRat ((n * k : Nat) : Int) (d * k) = mkRat (n : Int) d := by
  rw [Int.natCast_mul, Rat.mkRat_mul_right (by omega)]
theorem pQ_zero (head tail : List UInt8) (j : Nat) : pQ head (tail ++ List.replicate j 48) = pQ head tail := by
  have h0 : ∀ j, M.dec (List.replicate j (48 : UInt8)) = 0 := by
    intro j
    induction j with
    | zero => rfl
    | succ j ih => rw [List.replicate_succ, M.dec_cons, ih]; simp
  unfold pQ
  rw [← List.append_assoc, M.dec_append (head ++ tail), h0, List.length_append, Nat.add_zero, Nat.pow_add, List.length_replicate]
  exact mk_nat_scale _ _ _ (Nat.pow_pos (by decide))
/-- A decimal is its whole part and its other digits, by the power of ten. -/
theorem pQ_sum (head tail : List UInt8) : mkRat (M.dec head : Int) 1 + mkRat (M.dec tail : Int) 1 / mkRat ((10 ^ tail.length : Nat) : Int) 1 = pQ head tail := by
  have hp : 0 < 10 ^ tail.length := Nat.pow_pos (by decide)
  have h1 := M.mk_div false false (M.dec tail) 1 (10 ^ tail.length) 1
  have h2 : mkRat (M.dec tail : Int) 1 / mkRat ((10 ^ tail.length : Nat) : Int) 1 = mkRat (M.dec tail : Int) (10 ^ tail.length) := by
    have e : ∀ n : Nat, M.sg false n = (n : Int) := fun n => rfl
    rw [show (false != false) = false from rfl, e, e, e, Nat.mul_one, Nat.one_mul] at h1
    exact h1.symm
  rw [h2, Rat.mkRat_add_mkRat _ _ (by decide) (by omega)]
  unfold pQ
  rw [M.dec_append, Nat.one_mul]
  congr 1
  push_cast
  omega
theorem ten_text (k : Nat) : (49 :: List.replicate k (48 : UInt8)) = Lib.decDigits (10 ^ k) := by
  have h0 : ∀ j, M.dec (List.replicate j (48 : UInt8)) = 0 := by
    intro j
    induction j with
    | zero => rfl
    | succ j ih => rw [List.replicate_succ, M.dec_cons, ih]; simp
  have hd : M.Digs (49 :: List.replicate k (48 : UInt8)) := by
    intro b hb
    rcases List.mem_cons.1 hb with rfl | hb
    · decide
    · rw [List.eq_of_mem_replicate hb]; decide
  have := M.numeral hd (by simp) (fun x l e hx => by
    injection e with e1 e2
    rw [← e1] at hx
    exact absurd hx (by decide))
  rw [this, M.dec_cons, h0, List.length_replicate]
  simp
theorem ten_q (k : Nat) : Lib.decDigits (10 ^ k) = qT (mkRat ((10 ^ k : Nat) : Int) 1) := by
  have h := frac_qT false (10 ^ k) 1 (by decide)
  rw [show M.sg false (10 ^ k) = ((10 ^ k : Nat) : Int) from rfl] at h
  rw [← h, Nat.gcd_one_right]
  unfold rText
  rw [if_pos (Nat.div_one 1), ratText_whole _ _ _ rfl, Nat.div_one]
  rfl
theorem qT_parts (q : Rat) : cneg (qT q) = decide (q.num < 0) ∧ M.dec (cup (qT q)) = q.num.natAbs ∧ M.dec (clow (qT q)) = q.den := by
  have hd : 0 < q.den := q.den_pos
  have e : qT q = ctext (decide (q.num < 0)) (Lib.decDigits q.num.natAbs) (decide (q.den ≠ 1)) (Lib.decDigits q.den) := rText_ctext _ _ _ hd
  obtain ⟨p1, p2, p3, p4⟩ := ctext_parts (decide (q.num < 0)) (decide (q.den ≠ 1)) (Lib.decDigits q.den) (good_digits q.num.natAbs)
  rw [← e] at p1 p2 p3 p4
  refine ⟨p1, by rw [p2, M.dec_decDigits], ?_⟩
  rw [p4]
  by_cases h : q.den = 1
  · rw [decide_eq_false (by simpa using h), h]; rfl
  · rw [decide_eq_true h, if_pos rfl, M.dec_decDigits]
theorem copr2 {r : Nat} (h : ¬ 2 ∣ r) : Nat.Coprime r 2 := by
  have h1 : Nat.gcd r 2 ∣ 2 := Nat.gcd_dvd_right r 2
  have h2 := Nat.le_of_dvd (by decide) h1
  have h3 : 0 < Nat.gcd r 2 := Nat.gcd_pos_of_pos_right r (by decide)
  have h4 := Nat.gcd_dvd_left r 2
  show Nat.gcd r 2 = 1
  generalize Nat.gcd r 2 = g at *
  match g, h2, h3 with
  | 1, _, _ => rfl
  | 2, _, _ => exact absurd h4 h
theorem copr5 {r : Nat} (h : ¬ 5 ∣ r) : Nat.Coprime r 5 := by
  have h1 : Nat.gcd r 5 ∣ 5 := Nat.gcd_dvd_right r 5
  have h2 := Nat.le_of_dvd (by decide) h1
  have h3 : 0 < Nat.gcd r 5 := Nat.gcd_pos_of_pos_right r (by decide)
  have h4 := Nat.gcd_dvd_left r 5
  show Nat.gcd r 5 = 1
  generalize Nat.gcd r 5 = g at *
  match g, h2, h3 with
  | 1, _, _ => rfl
  | 2, _, _ => exact absurd h1 (by decide)
  | 3, _, _ => exact absurd h1 (by decide)
  | 4, _, _ => exact absurd h1 (by decide)
  | 5, _, _ => exact absurd h4 h
/-- What is left of a divisor of a power of ten. -/
theorem strip_ten {k d g t f r1 r2 : Nat} (hd : d * g = 10 ^ k) (h1 : M.IsStrip 2 d t r1) (h2 : M.IsStrip 5 r1 f r2) : r2 = 1 ∧ t ≤ k ∧ f ≤ k ∧ g = 2 ^ (k - t) * 5 ^ (k - f) := by
  obtain ⟨e1, n1⟩ := h1
  obtain ⟨e2, n2⟩ := h2
  have e10 : (10 : Nat) ^ k = 2 ^ k * 5 ^ k := by rw [← Nat.mul_pow]
  have n12 : ¬ 2 ∣ r2 := fun h => n1 (by rw [e2]; exact Nat.dvd_trans h (Nat.dvd_mul_left _ _))
  have ed : 2 ^ t * (5 ^ f * r2) * g = 2 ^ k * 5 ^ k := by rw [← e2, ← e1, hd, e10]
  have hr : r2 = 1 := by
    have hc : Nat.Coprime r2 (2 ^ k * 5 ^ k) := Nat.Coprime.mul_right ((copr2 n12).pow_right k) ((copr5 n2).pow_right k)
    refine hc.eq_one_of_dvd ?_
    rw [← ed]
    exact Nat.dvd_trans (Nat.dvd_trans (Nat.dvd_mul_left r2 (5 ^ f)) (Nat.dvd_mul_left _ (2 ^ t))) (Nat.dvd_mul_right _ g)
  subst hr
  rw [Nat.mul_one] at ed
  have ht : t ≤ k := by
    have hv : 2 ^ t ∣ 2 ^ k * 5 ^ k := by rw [← ed, Nat.mul_assoc]; exact Nat.dvd_mul_right _ _
    have hc : Nat.Coprime (2 ^ t) (5 ^ k) := Nat.Coprime.pow t k (by decide)
    have := hc.dvd_of_dvd_mul_right hv
    exact (Nat.pow_le_pow_iff_right (by decide)).1 (Nat.le_of_dvd (Nat.pow_pos (by decide)) this)
  have hf : f ≤ k := by
    have hv : 5 ^ f ∣ 2 ^ k * 5 ^ k := by rw [← ed, Nat.mul_comm (2 ^ t), Nat.mul_assoc]; exact Nat.dvd_mul_right _ _
    have hc : Nat.Coprime (5 ^ f) (2 ^ k) := Nat.Coprime.pow f k (by decide)
    have := hc.dvd_of_dvd_mul_left hv
    exact (Nat.pow_le_pow_iff_right (by decide)).1 (Nat.le_of_dvd (Nat.pow_pos (by decide)) this)
  refine ⟨rfl, ht, hf, ?_⟩
  have e3 : (2 : Nat) ^ k * 5 ^ k = 2 ^ t * 5 ^ f * (2 ^ (k - t) * 5 ^ (k - f)) := by
    have a1 : (2 : Nat) ^ k = 2 ^ t * 2 ^ (k - t) := by rw [← Nat.pow_add]; congr 1; omega
    have a2 : (5 : Nat) ^ k = 5 ^ f * 5 ^ (k - f) := by rw [← Nat.pow_add]; congr 1; omega
    rw [a1, a2]
    ac_rfl
  rw [e3] at ed
  exact Nat.eq_of_mul_eq_mul_left (Nat.mul_pos (Nat.pow_pos (by decide)) (Nat.pow_pos (by decide))) ed
/-- What is written, by the power of ten that is left. -/
theorem strip_num {k n0 g d n t f r1 r2 : Nat} (hd : d * g = 10 ^ k) (hn : n * g = n0) (h1 : M.IsStrip 2 d t r1) (h2 : M.IsStrip 5 r1 f r2) : r2 = 1 ∧ max t f ≤ k ∧ n * (2 ^ (max t f - t) * 5 ^ (max t f - f)) * 10 ^ (k - max t f) = n0 := by
  obtain ⟨hr, ht, hf, hg⟩ := strip_ten hd h1 h2
  obtain ⟨P, hP⟩ : ∃ P, max t f = P := ⟨_, rfl⟩
  rw [hP]
  have hp : t ≤ P ∧ f ≤ P ∧ P ≤ k := by omega
  refine ⟨hr, by omega, ?_⟩
  rw [← hn, hg]
  have e : (10 : Nat) ^ (k - P) = 2 ^ (k - P) * 5 ^ (k - P) := by rw [← Nat.mul_pow]
  have a1 : (2 : Nat) ^ (k - t) = 2 ^ (P - t) * 2 ^ (k - P) := by rw [← Nat.pow_add]; congr 1; omega
  have a2 : (5 : Nat) ^ (k - f) = 5 ^ (P - f) * 5 ^ (k - P) := by rw [← Nat.pow_add]; congr 1; omega
  rw [e, a1, a2]
  ac_rfl
theorem pad_digits (head S : List UInt8) (hH : Lit head) (hS : M.Digs S) (h0 : 0 < S.length) : padB (Lib.decDigits (M.dec (head ++ S))) S.length = head ++ S := by
  have hD : M.Digs (head ++ S) := M.Digs.append hH.1.2 hS
  have hl : 0 < head.length := List.length_pos_iff.2 hH.1.1
  by_cases hz : head = [48]
  · subst hz
    have e : M.dec ([48] ++ S) = M.dec S := by rw [M.dec_append]; simp [M.dec]
    have hlt : M.dec S < 10 ^ S.length := M.dec_lt hS
    have hlen := M.decDigits_len_le hlt h0
    rw [e]
    unfold padB
    rw [if_pos hlen]
    refine M.dec_inj (M.Digs.append (fun b hb => by rw [List.eq_of_mem_replicate hb]; decide) (M.Digs.decDigits _)) hD ?_ ?_
    · simp
      omega
    · have hr : ∀ j, M.dec (List.replicate j (48 : UInt8)) = 0 := by
        intro j
        induction j with
        | zero => rfl
        | succ j ih => rw [List.replicate_succ, M.dec_cons, ih]; simp
      rw [M.dec_append, hr, Nat.zero_mul, Nat.zero_add, M.dec_decDigits, e]
  · have hn : head ++ S = Lib.decDigits (M.dec (head ++ S)) := by
      refine M.numeral hD (by simp [hH.1.1]) (fun x l ex hx => ?_)
      exfalso
      obtain ⟨a, u, rfl⟩ := List.exists_cons_of_ne_nil hH.1.1
      rw [List.cons_append] at ex
      injection ex with e1 e2
      rw [← e1] at hx
      subst hx
      rcases hH.2 with h | h
      · have : u = [] := by simpa using h
        subst this
        exact hz rfl
      · simp at h
    rw [← hn]
    unfold padB
    rw [if_neg (by rw [List.length_append]; omega)]
theorem point_digits (head S : List UInt8) (hH : Lit head) (hS : M.Digs S) (h0 : 0 < S.length) : pointB (Lib.decDigits (M.dec (head ++ S))) S.length = head ++ 46 :: S := by
  unfold pointB
  rw [if_neg (by omega), pad_digits head S hH hS h0, List.length_append, Nat.add_sub_cancel, List.take_left' rfl, List.drop_left' rfl]
  simp
/-- A decimal, read and written again: without the zeros at its end; one digit stays. -/
theorem places (head S : List UInt8) (hH : Lit head) (hS : Good S) (hend : S.length = 1 ∨ S.getD (S.length - 1) 0 ≠ 48) (t f r1 r2 : Nat)
    (h1 : M.IsStrip 2 (M.dec (clow (qT (pQ head S)))) t r1) (h2 : M.IsStrip 5 r1 f r2) : decT (qT (pQ head S)) t f r2 = (head ++ 46 :: S, 0) := by
  obtain ⟨hc, hv⟩ := qT_can (pQ head S)
  have h0 : 0 < S.length := List.length_pos_iff.2 hS.1
  obtain ⟨k, hk⟩ : ∃ k, S.length = k := ⟨_, rfl⟩
  obtain ⟨n0, hn0⟩ : ∃ n, M.dec (head ++ S) = n := ⟨_, rfl⟩
  have hq : pQ head S = mkRat (M.sg false n0) (10 ^ k) := by unfold pQ; rw [hn0, hk]; rfl
  have hp : 0 < 10 ^ k := Nat.pow_pos (by decide)
  obtain ⟨m1, m2, m3⟩ := M.mk_parts false n0 (10 ^ k) hp
  rw [← hq] at m1 m2 m3
  obtain ⟨v1, v2, v3⟩ := qT_parts (pQ head S)
  rw [v3, m3] at h1
  have hg : 0 < Nat.gcd n0 (10 ^ k) := Nat.gcd_pos_of_pos_right _ hp
  have hgd : 10 ^ k / Nat.gcd n0 (10 ^ k) * Nat.gcd n0 (10 ^ k) = 10 ^ k := Nat.div_mul_cancel (Nat.gcd_dvd_right _ _)
  have hgn : n0 / Nat.gcd n0 (10 ^ k) * Nat.gcd n0 (10 ^ k) = n0 := Nat.div_mul_cancel (Nat.gcd_dvd_left _ _)
  obtain ⟨hr, hP, hx⟩ := strip_num hgd hgn h1 h2
  unfold decT
  rw [(canB_iff _).2 hc, if_pos rfl, v1, v2, m1, m2]
  unfold decO
  rw [if_pos hr]
  show (negB (false && !decide (n0 = 0)) ++ _, (0 : Int)) = _
  have hneg : negB (false && !decide (n0 = 0)) = [] := rfl
  rw [hneg, List.nil_append]
  generalize n0 / Nat.gcd n0 (10 ^ k) * (2 ^ (max t f - t) * 5 ^ (max t f - f)) = x at *
  by_cases hl : S.getD (S.length - 1) 0 = 48
  · have hk1 : S.length = 1 := by
      rcases hend with h | h
      · exact h
      · exact absurd hl h
    obtain ⟨c, rfl⟩ := List.length_eq_one_iff.1 hk1
    obtain rfl : c = 48 := by simpa using hl
    obtain rfl : k = 1 := by rw [← hk]; rfl
    have hn : n0 = M.dec head * 10 := by rw [← hn0, M.dec_snoc]; simp; omega
    have hgg : Nat.gcd n0 (10 ^ 1) = 10 := by rw [hn]; show Nat.gcd (M.dec head * 10) 10 = 10; exact Nat.gcd_mul_left_left _ _
    rw [hgg] at h1
    have hd1 : (10 : Nat) ^ 1 / 10 = 1 := by decide
    rw [hd1] at h1
    have ht : t = 0 ∧ f = 0 := by
      have e1 := h1.1
      have hr1 : r1 = 1 := by
        have : r1 ∣ 1 := by rw [e1]; exact Nat.dvd_mul_left _ _
        exact Nat.dvd_one.1 this
      have ht : 2 ^ t ∣ 1 := by rw [e1]; exact Nat.dvd_mul_right _ _
      have hf : 5 ^ f ∣ 1 := by rw [← hr1, h2.1]; exact Nat.dvd_mul_right _ _
      constructor
      · rcases Nat.eq_zero_or_pos t with h | h
        · exact h
        · have := Nat.one_lt_two_pow (n := t) (by omega)
          have := Nat.dvd_one.1 ht
          omega
      · rcases Nat.eq_zero_or_pos f with h | h
        · exact h
        · have := Nat.one_lt_pow (n := f) (by omega) (show 1 < 5 by decide)
          have := Nat.dvd_one.1 hf
          omega
    obtain ⟨rfl, rfl⟩ := ht
    have hxx : x = M.dec head := by
      rw [show max 0 0 = 0 from rfl] at hx
      have : x * 10 = M.dec head * 10 := by rw [← hn, ← hx]
      omega
    rw [hxx]
    show (pointB (Lib.decDigits (M.dec head)) 0, (0 : Int)) = _
    unfold pointB
    rw [if_pos rfl, ← lit_numeral hH]
  · have hPk : max t f = k := by
      rcases Nat.lt_or_ge (max t f) k with h | h
      · exfalso
        have h10 : 10 ∣ n0 := by
          rw [← hx]
          refine Nat.dvd_trans ?_ (Nat.dvd_mul_left _ _)
          have : 10 ^ 1 ∣ 10 ^ (k - max t f) := Nat.pow_dvd_pow 10 (by omega)
          simpa using this
        have hsp : S = S.take (S.length - 1) ++ [S.getD (S.length - 1) 0] := by
          conv => lhs; rw [← List.take_append_drop (S.length - 1) S]
          congr 1
          rw [List.drop_eq_getElem_cons (by omega), List.getD_eq_getElem?_getD, List.getElem?_eq_getElem (by omega), List.drop_eq_nil_of_le (by omega)]
          rfl
        have hmem : S.getD (S.length - 1) 0 ∈ S := by
          rw [List.getD_eq_getElem?_getD, List.getElem?_eq_getElem (by omega)]
          exact List.getElem_mem _
        have hdg := hS.2 _ hmem
        rw [← hn0, hsp, ← List.append_assoc, M.dec_snoc] at h10
        have hne : (S.getD (S.length - 1) 0).toNat ≠ 48 := fun e => hl (UInt8.toNat_inj.1 (by rw [e]; rfl))
        omega
      · omega
    rw [hPk, Nat.sub_self, Nat.pow_zero, Nat.mul_one] at hx
    rw [hx, hPk, ← hn0, ← hk, point_digits head S hH hS.2 h0]
end Go.Proofs.YtebnjolkolobhaaGreatDoor
