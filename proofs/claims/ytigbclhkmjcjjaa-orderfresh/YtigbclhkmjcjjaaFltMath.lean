/-
  Sums, products, quotients and the order of float32 words that are not below 0 (no NaN), as whole numbers: a word stands for V units of 2^-149.
-/
import Ieee.Arith
namespace Go.Proofs.Ytigbclhkmjcjjaa.FL
set_option linter.unusedVariables false
open Ieee
def inf : Nat := 2139095040
theorem inf_eq : inf = 2139095040 := rfl
theorem inf_is : single.infRung = inf := by decide
theorem word_false (r : Nat) : single.word false r = r := by
  unfold Format.word
  rw [if_neg (by decide)]
/-- The whole number nearest to n / 2^k, of two equally near ones the even one. -/
def rne (n k : Nat) : Nat := n / 2 ^ k + if 2 ^ k < 2 * (n % 2 ^ k) ∨ (2 ^ k = 2 * (n % 2 ^ k) ∧ n / 2 ^ k % 2 = 1) then 1 else 0
theorem pow2 (k : Nat) : 0 < 2 ^ k := Nat.pos_of_ne_zero (by simp)
theorem rne_mono {n m k : Nat} (h : n ≤ m) : rne n k ≤ rne m k := by
  unfold rne
  have h1 := Nat.div_le_div_right (c := 2 ^ k) h
  have dn := Nat.div_add_mod n (2 ^ k)
  have dm := Nat.div_add_mod m (2 ^ k)
  by_cases e : n / 2 ^ k = m / 2 ^ k
  · rw [e] at dn ⊢
    generalize m / 2 ^ k = q at *
    generalize 2 ^ k * q = z at *
    generalize n % 2 ^ k = a at *
    generalize m % 2 ^ k = b at *
    generalize 2 ^ k = c at *
    split <;> split <;> omega
  · split <;> split <;> omega
theorem rne_zero (n : Nat) : rne n 0 = n := by
  unfold rne
  simp [Nat.mod_one]
theorem rne_exact (m k : Nat) : rne (m * 2 ^ k) k = m := by
  unfold rne
  have := pow2 k
  rw [Nat.mul_div_cancel _ this, Nat.mul_mod_left, if_neg (by omega)]
  omega
theorem rne_scale (m d k : Nat) : rne (m * 2 ^ d) (k + d) = rne m k := by
  unfold rne
  have hd := pow2 d
  have hk := pow2 k
  have e1 : 2 ^ (k + d) = 2 ^ k * 2 ^ d := Nat.pow_add 2 k d
  rw [e1, Nat.mul_div_mul_right _ _ hd, Nat.mul_mod_mul_right]
  have e2 : 2 ^ k * 2 ^ d < 2 * (m % 2 ^ k * 2 ^ d) ↔ 2 ^ k < 2 * (m % 2 ^ k) := by
    rw [← Nat.mul_assoc]
    exact Nat.mul_lt_mul_right hd
  have e3 : 2 ^ k * 2 ^ d = 2 * (m % 2 ^ k * 2 ^ d) ↔ 2 ^ k = 2 * (m % 2 ^ k) := by
    rw [← Nat.mul_assoc]
    exact Nat.mul_left_inj (by omega)
  simp only [e2, e3]
theorem log2_lt (n : Nat) : n < 2 ^ (n.log2 + 1) := Nat.lt_log2_self
theorem cut_is (n k : Nat) : Toward.even.cut false n k = rne n k := by
  unfold Toward.cut
  simp only [Nat.one_shiftLeft]
  by_cases h : k ≤ n.log2 + 2
  · rw [Nat.min_eq_left h]
    unfold rne
    generalize 2 ^ k = c
    by_cases c1 : c < 2 * (n % c)
    · rw [if_pos (.inl c1)]; simp [c1]
    · by_cases c2 : c = 2 * (n % c) ∧ n / c % 2 = 1
      · rw [if_pos (.inr c2)]
        have hb : (c == 2 * (n % c)) = true := by rw [beq_iff_eq]; exact c2.1
        have hb2 : (n / c % 2 == 1) = true := by rw [beq_iff_eq]; exact c2.2
        rw [hb, hb2]
        simp
      · rw [if_neg (fun x => x.elim c1 c2)]
        have hb : (decide (c < 2 * (n % c)) || (c == 2 * (n % c) && n / c % 2 == 1)) = false := by
          rw [Bool.or_eq_false_iff]
          refine ⟨by simpa using c1, ?_⟩
          rw [Bool.and_eq_false_iff]
          by_cases c3 : c = 2 * (n % c)
          · right
            rw [beq_eq_false_iff_ne]
            exact fun x => c2 ⟨c3, x⟩
          · left
            rw [beq_eq_false_iff_ne]
            exact c3
        rw [hb]
        rfl
  · rw [Nat.min_eq_right (by omega)]
    have hn := log2_lt n
    have hp : 2 ^ (n.log2 + 2) = 2 * 2 ^ (n.log2 + 1) := by rw [Nat.pow_succ]; omega
    have hk : 2 ^ (n.log2 + 2) ≤ 2 ^ k := Nat.pow_le_pow_right (by omega) (by omega)
    unfold rne
    rw [Nat.div_eq_of_lt (by omega), Nat.mod_eq_of_lt (by omega), Nat.div_eq_of_lt (by omega : n < 2 ^ k), Nat.mod_eq_of_lt (by omega : n < 2 ^ k), if_neg (by omega)]
    have hb : (decide (2 ^ (n.log2 + 2) < 2 * n) || (2 ^ (n.log2 + 2) == 2 * n && 0 % 2 == 1)) = false := by
      have : ¬ 2 ^ (n.log2 + 2) < 2 * n := by omega
      simp [this]
    rw [hb]
    rfl
/-- The rung nearest to m / 2^d units. -/
def rq (m d : Nat) : Nat := if m = 0 then 0 else min ((m.log2 - d - 23) * 8388608 + rne m (m.log2 - d - 23 + d)) inf
theorem rq_le (m d : Nat) : rq m d ≤ inf := by
  unfold rq
  split
  · exact Nat.zero_le _
  · exact Nat.min_le_right _ _
theorem nearest_down (m d : Nat) : single.nearest false m (-149 - (d : Int)) = rq m d := by
  unfold Format.nearest rq
  by_cases h0 : m = 0
  · rw [if_pos h0, if_pos h0, word_false]
  · rw [if_neg h0, if_neg h0]
    have hl : single.leastPlace = -149 := by decide
    have hb : single.binade = 8388608 := by decide
    have hf : (single.fractionBits : Int) = 23 := by decide
    simp only [hl, hb, hf, inf_is]
    have e1 : max (-149 - (d : Int) + (m.log2 : Int) - 23) (-149) = -149 + ((m.log2 - d - 23 : Nat) : Int) := by omega
    rw [e1]
    have e2 : (-149 - (d : Int) - (-149 + ((m.log2 - d - 23 : Nat) : Int))).toNat = 0 := by omega
    have e3 : (-149 + ((m.log2 - d - 23 : Nat) : Int) - (-149 - (d : Int))).toNat = m.log2 - d - 23 + d := by omega
    have e4 : (-149 + ((m.log2 - d - 23 : Nat) : Int) - -149).toNat = m.log2 - d - 23 := by omega
    rw [e2, e3, e4, Nat.shiftLeft_zero, cut_is, word_false]
theorem log2_mul (m p : Nat) (h : m ≠ 0) : (m * 2 ^ p).log2 = m.log2 + p := by
  have a1 := Nat.log2_self_le h
  have a2 := log2_lt m
  have hp := pow2 p
  have h' : m * 2 ^ p ≠ 0 := Nat.mul_ne_zero h (by omega)
  have b1 : m.log2 + p ≤ (m * 2 ^ p).log2 := (Nat.le_log2 h').2 (by rw [Nat.pow_add]; exact Nat.mul_le_mul_right _ a1)
  have b2 : (m * 2 ^ p).log2 < m.log2 + p + 1 := (Nat.log2_lt h').2 (by
    rw [show m.log2 + p + 1 = m.log2 + 1 + p by omega, Nat.pow_add]
    exact Nat.mul_lt_mul_of_pos_right a2 hp)
  omega
theorem rne_up (m p E : Nat) (h : E ≤ p) : rne (m * 2 ^ p) E = m * 2 ^ (p - E) := by
  have : m * 2 ^ p = m * 2 ^ (p - E) * 2 ^ E := by rw [Nat.mul_assoc, ← Nat.pow_add, Nat.sub_add_cancel h]
  rw [this, rne_exact]
theorem nearest_up (m p : Nat) : single.nearest false m (-149 + (p : Int)) = rq (m * 2 ^ p) 0 := by
  unfold Format.nearest rq
  by_cases h0 : m = 0
  · subst h0
    rw [if_pos rfl, if_pos (by simp), word_false]
  · have hp := pow2 p
    have h' : m * 2 ^ p ≠ 0 := Nat.mul_ne_zero h0 (by omega)
    rw [if_neg h0, if_neg h']
    have hl : single.leastPlace = -149 := by decide
    have hb : single.binade = 8388608 := by decide
    have hf : (single.fractionBits : Int) = 23 := by decide
    simp only [hl, hb, hf, inf_is]
    rw [log2_mul m p h0]
    obtain ⟨E, hE⟩ : ∃ E, m.log2 + p - 0 - 23 = E := ⟨_, rfl⟩
    have e1 : max (-149 + (p : Int) + (m.log2 : Int) - 23) (-149) = -149 + (E : Int) := by omega
    rw [e1, hE]
    have e4 : (-149 + (E : Int) - -149).toNat = E := by omega
    rw [e4, Nat.add_zero, word_false]
    congr 2
    by_cases hEp : E ≤ p
    · have e2 : (-149 + (p : Int) - (-149 + (E : Int))).toNat = p - E := by omega
      have e3 : (-149 + (E : Int) - (-149 + (p : Int))).toNat = 0 := by omega
      rw [e2, e3, cut_is, rne_zero, rne_up m p E hEp, Nat.shiftLeft_eq]
    · have e2 : (-149 + (p : Int) - (-149 + (E : Int))).toNat = 0 := by omega
      have e3 : (-149 + (E : Int) - (-149 + (p : Int))).toNat = E - p := by omega
      rw [e2, e3, cut_is, Nat.shiftLeft_zero]
      have := rne_scale m p (E - p)
      rw [Nat.sub_add_cancel (by omega)] at this
      exact this.symm
/-- What rounds down to less rounds to less. -/
theorem rq_mono {m m' : Nat} (d : Nat) (h : m ≤ m') : rq m d ≤ rq m' d := by
  unfold rq
  by_cases h0 : m = 0
  · rw [if_pos h0]; exact Nat.zero_le _
  · rw [if_neg h0, if_neg (by omega)]
    have hl : m.log2 ≤ m'.log2 := by
      have := Nat.log2_self_le h0
      exact (Nat.le_log2 (by omega)).2 (Nat.le_trans this h)
    obtain ⟨E, hE⟩ : ∃ E, m.log2 - d - 23 = E := ⟨_, rfl⟩
    obtain ⟨E', hE'⟩ : ∃ E, m'.log2 - d - 23 = E := ⟨_, rfl⟩
    rw [hE, hE']
    have hm : E * 8388608 + rne m (E + d) ≤ E' * 8388608 + rne m' (E' + d) := by
      by_cases e : E = E'
      · subst e
        have := rne_mono (k := E + d) h
        omega
      · have a1 : m ≤ 2 ^ 24 * 2 ^ (E + d) := by
          have h1 := log2_lt m
          have h2 : 2 ^ (m.log2 + 1) ≤ 2 ^ (24 + (E + d)) := Nat.pow_le_pow_right (by omega) (by omega)
          rw [Nat.pow_add 2 24 (E + d)] at h2
          exact Nat.le_trans (Nat.le_of_lt h1) h2
        have a2 : 2 ^ 23 * 2 ^ (E' + d) ≤ m' := by
          have h1 := Nat.log2_self_le (n := m') (by omega)
          have h2 : 2 ^ (23 + (E' + d)) ≤ 2 ^ m'.log2 := Nat.pow_le_pow_right (by omega) (by omega)
          rw [Nat.pow_add 2 23 (E' + d)] at h2
          exact Nat.le_trans h2 h1
        have b1 := rne_mono (k := E + d) a1
        have b2 := rne_mono (k := E' + d) a2
        rw [rne_exact] at b1 b2
        have p1 : (2 : Nat) ^ 24 = 16777216 := by decide
        have p2 : (2 : Nat) ^ 23 = 8388608 := by decide
        rw [p1] at b1
        rw [p2] at b2
        clear a1 a2
        omega
    exact Nat.le_min.2 ⟨Nat.le_trans (Nat.min_le_left _ _) hm, Nat.min_le_right _ _⟩
/- Words. -/
def mg (w : Nat) : Nat := if w < 8388608 then w else 8388608 + w % 8388608
def ex (w : Nat) : Nat := w / 8388608 - 1
def V (w : Nat) : Nat := mg w * 2 ^ ex w
theorem read_fin {w : Nat} (h : w < inf) : single.read w = .number false (mg w) (-149 + (ex w : Int)) := by
  have hinf := inf_eq
  unfold Format.read mg ex
  have h1 : single.signWeight = 2147483648 := by decide
  have h2 : single.binade = 8388608 := by decide
  have h3 : single.leastPlace = -149 := by decide
  simp only [h1, h2, h3, inf_is]
  have e1 : w % 2147483648 = w := Nat.mod_eq_of_lt (by omega)
  have e2 : w / 2147483648 = 0 := Nat.div_eq_of_lt (by omega)
  have hsg : ((0 : Nat) % 2 == 1) = false := rfl
  rw [e1, e2]
  by_cases c : w < 8388608
  · rw [if_pos c, if_pos c, Nat.div_eq_of_lt c, hsg]
    congr 1
  · rw [if_neg c, if_neg c, if_pos h, hsg]
theorem read_inf : single.read inf = .infinity false := by decide
/-- A word's number rounds to the word. -/
theorem rq_V {w : Nat} (h : w ≤ inf) : rq (V w) 0 = w := by
  have hinf := inf_eq
  unfold V mg ex rq
  by_cases c : w < 8388608
  · rw [if_pos c, Nat.div_eq_of_lt c]
    simp only [Nat.zero_sub, Nat.pow_zero, Nat.mul_one]
    by_cases h0 : w = 0
    · rw [if_pos h0, h0]
    · rw [if_neg h0]
      have hl : w.log2 < 23 := (Nat.log2_lt h0).2 (by omega)
      rw [show w.log2 - 0 - 23 = 0 by omega, Nat.zero_mul, Nat.zero_add, Nat.zero_add, rne_zero]
      omega
  · rw [if_neg c]
    have hm := Nat.mod_lt w (by decide : 0 < 8388608)
    have hd := Nat.div_add_mod w 8388608
    have hge : 1 ≤ w / 8388608 := by omega
    obtain ⟨e, he⟩ : ∃ e, w / 8388608 = e + 1 := ⟨w / 8388608 - 1, by omega⟩
    rw [he] at hd ⊢
    rw [Nat.add_sub_cancel]
    obtain ⟨m, hmm⟩ : ∃ m, 8388608 + w % 8388608 = m := ⟨_, rfl⟩
    rw [hmm]
    have hp := pow2 e
    have hlm : m.log2 = 23 := by
      have a : 23 ≤ m.log2 := (Nat.le_log2 (by omega)).2 (by omega)
      have b : m.log2 < 24 := (Nat.log2_lt (by omega)).2 (by omega)
      omega
    rw [if_neg (Nat.mul_ne_zero (by omega) (by omega)), log2_mul m e (by omega), hlm, show 23 + e - 0 - 23 = e by omega, Nat.add_zero, rne_exact]
    omega
theorem V_mono {x y : Nat} (hx : x ≤ inf) (hy : y ≤ inf) : V x ≤ V y ↔ x ≤ y := by
  constructor
  · intro h
    have := rq_mono 0 h
    rw [rq_V hx, rq_V hy] at this
    exact this
  · intro h
    rcases Nat.lt_or_ge (V y) (V x) with c | c
    · have := rq_mono 0 (Nat.le_of_lt c)
      rw [rq_V hx, rq_V hy] at this
      obtain rfl : x = y := by omega
      omega
    · exact c
theorem V_lt {x y : Nat} (hx : x ≤ inf) (hy : y ≤ inf) : V x < V y ↔ x < y := by
  have := V_mono hy hx
  omega
theorem sh_cast (m k : Nat) : Ieee.signed false m k = ((m * 2 ^ k : Nat) : Int) := by
  unfold Ieee.signed
  simp [Nat.shiftLeft_eq]
/-- The sum. -/
theorem add_fin {x y : Nat} (hx : x < inf) (hy : y < inf) : single.add x y = some (rq (V x + V y) 0) := by
  unfold Format.add
  rw [read_fin hx, read_fin hy]
  simp only [Datum.sum, Option.map_some, Format.write]
  obtain ⟨b, hb⟩ : ∃ b : Nat, min (ex x) (ex y) = b := ⟨_, rfl⟩
  have e1 : min (-149 + (ex x : Int)) (-149 + (ex y : Int)) = -149 + (b : Int) := by omega
  rw [e1]
  have e2 : (-149 + (ex x : Int) - (-149 + (b : Int))).toNat = ex x - b := by omega
  have e3 : (-149 + (ex y : Int) - (-149 + (b : Int))).toNat = ex y - b := by omega
  rw [e2, e3, sh_cast, sh_cast]
  have hneg : (if ((mg x * 2 ^ (ex x - b) : Nat) : Int) + ((mg y * 2 ^ (ex y - b) : Nat) : Int) = 0 then false && false else decide (((mg x * 2 ^ (ex x - b) : Nat) : Int) + ((mg y * 2 ^ (ex y - b) : Nat) : Int) < 0)) = false := by
    generalize mg x * 2 ^ (ex x - b) = p
    generalize mg y * 2 ^ (ex y - b) = q
    split
    · rfl
    · simp
      omega
  have habs : (((mg x * 2 ^ (ex x - b) : Nat) : Int) + ((mg y * 2 ^ (ex y - b) : Nat) : Int)).natAbs = mg x * 2 ^ (ex x - b) + mg y * 2 ^ (ex y - b) := by
    generalize mg x * 2 ^ (ex x - b) = p
    generalize mg y * 2 ^ (ex y - b) = q
    omega
  rw [habs]
  have hv : (mg x * 2 ^ (ex x - b) + mg y * 2 ^ (ex y - b)) * 2 ^ b = V x + V y := by
    unfold V
    rw [Nat.add_mul, Nat.mul_assoc, Nat.mul_assoc, ← Nat.pow_add, ← Nat.pow_add, Nat.sub_add_cancel (by omega), Nat.sub_add_cancel (by omega)]
  rw [hneg, nearest_up, hv]
/-- The product. -/
theorem mul_fin {x y : Nat} (hx : x < inf) (hy : y < inf) : single.mul x y = some (rq (V x * V y) 149) := by
  unfold Format.mul
  rw [read_fin hx, read_fin hy]
  simp only [Datum.product, Option.map_some, Format.write]
  have hs : (false ^^ false) = false := rfl
  rw [hs]
  congr 1
  have hv : V x * V y = mg x * mg y * 2 ^ (ex x + ex y) := by
    unfold V
    rw [Nat.pow_add]
    grind
  rw [hv]
  by_cases c : 149 ≤ ex x + ex y
  · have e1 : -149 + (ex x : Int) + (-149 + (ex y : Int)) = -149 + ((ex x + ex y - 149 : Nat) : Int) := by omega
    rw [e1, nearest_up]
    have e2 : 2 ^ (ex x + ex y) = 2 ^ (ex x + ex y - 149) * 2 ^ 149 := by rw [← Nat.pow_add, Nat.sub_add_cancel c]
    rw [e2, ← Nat.mul_assoc]
    generalize mg x * mg y * 2 ^ (ex x + ex y - 149) = m
    unfold rq
    by_cases h0 : m = 0
    · subst h0; simp
    · have := pow2 149
      rw [if_neg h0, if_neg (Nat.mul_ne_zero h0 (by omega)), log2_mul m 149 h0, show m.log2 + 149 - 149 - 23 = m.log2 - 0 - 23 by omega, Nat.add_zero, rne_scale]
  · have e1 : -149 + (ex x : Int) + (-149 + (ex y : Int)) = -149 - ((149 - (ex x + ex y) : Nat) : Int) := by omega
    rw [e1, nearest_down]
    generalize mg x * mg y = m
    obtain ⟨k, hk⟩ : ∃ k, 149 - (ex x + ex y) = k := ⟨_, rfl⟩
    have hk2 : (149 : Nat) = k + (ex x + ex y) := by omega
    rw [hk]
    generalize ex x + ex y = j at *
    unfold rq
    by_cases h0 : m = 0
    · subst h0; simp
    · have := pow2 j
      rw [if_neg h0, if_neg (Nat.mul_ne_zero h0 (by omega)), log2_mul m j h0, show m.log2 + j - 149 - 23 = m.log2 - k - 23 by omega]
      have := rne_scale m j (m.log2 - k - 23 + k)
      rw [show m.log2 - k - 23 + k + j = m.log2 - k - 23 + 149 by omega] at this
      rw [this]
/-- The order. -/
theorem order_is {x y : Nat} (hx : x ≤ inf) (hy : y ≤ inf) : single.order x y = some (compare x y) := by
  unfold Format.order
  by_cases ex1 : x = inf
  · subst ex1
    rw [read_inf]
    by_cases ey1 : y = inf
    · subst ey1
      rw [read_inf]
      decide
    · rw [read_fin (by omega : y < inf)]
      simp only [Datum.order]
      have : compare inf y = .gt := by
        rw [Nat.compare_eq_gt]
        omega
      rw [this]
      rfl
  · rw [read_fin (by omega : x < inf)]
    by_cases ey1 : y = inf
    · subst ey1
      rw [read_inf]
      simp only [Datum.order]
      have : compare x inf = .lt := by
        rw [Nat.compare_eq_lt]
        omega
      rw [this]
      rfl
    · rw [read_fin (by omega : y < inf)]
      simp only [Datum.order]
      obtain ⟨b, hb⟩ : ∃ b : Nat, min (ex x) (ex y) = b := ⟨_, rfl⟩
      have e1 : min (-149 + (ex x : Int)) (-149 + (ex y : Int)) = -149 + (b : Int) := by omega
      rw [e1]
      have e2 : (-149 + (ex x : Int) - (-149 + (b : Int))).toNat = ex x - b := by omega
      have e3 : (-149 + (ex y : Int) - (-149 + (b : Int))).toNat = ex y - b := by omega
      rw [e2, e3, sh_cast, sh_cast]
      have hvx : mg x * 2 ^ (ex x - b) * 2 ^ b = V x := by unfold V; rw [Nat.mul_assoc, ← Nat.pow_add, Nat.sub_add_cancel (by omega)]
      have hvy : mg y * 2 ^ (ex y - b) * 2 ^ b = V y := by unfold V; rw [Nat.mul_assoc, ← Nat.pow_add, Nat.sub_add_cancel (by omega)]
      have hp := pow2 b
      have l1 := V_lt hx hy
      have l2 := V_lt hy hx
      rw [← hvx, ← hvy] at l1 l2
      generalize mg x * 2 ^ (ex x - b) = p at *
      generalize mg y * 2 ^ (ex y - b) = q at *
      have m1 : p < q ↔ x < y := by rw [← l1]; exact (Nat.mul_lt_mul_right hp).symm
      have m2 : q < p ↔ y < x := by rw [← l2]; exact (Nat.mul_lt_mul_right hp).symm
      congr 1
      rcases Nat.lt_trichotomy x y with c | c | c
      · rw [Nat.compare_eq_lt.2 c, Int.compare_eq_lt]
        have := m1.2 c
        omega
      · subst c
        have : p = q := by omega
        rw [this]
        simp
      · rw [Nat.compare_eq_gt.2 c, Int.compare_eq_gt]
        have := m2.2 c
        omega
theorem nearest_le (m : Nat) (p : Int) : single.nearest false m p ≤ inf := by
  unfold Format.nearest
  split
  · rw [word_false]; exact Nat.zero_le _
  · simp only [word_false, inf_is]
    exact Nat.min_le_right _ _
def fadd (x y : Nat) : Nat := (single.add x y).getD 0
def fmul (x y : Nat) : Nat := (single.mul x y).getD 0
def fdiv (x y : Nat) : Nat := (single.div x y).getD 0
theorem write_inf : single.write (.infinity false) = inf := by
  show single.word false single.infRung = inf
  rw [word_false, inf_is]
theorem add_ok {x y : Nat} (hx : x ≤ inf) (hy : y ≤ inf) : single.add x y = some (fadd x y) ∧ fadd x y ≤ inf ∧ x ≤ fadd x y := by
  unfold fadd
  by_cases cx : x = inf
  · subst cx
    have : single.add inf y = some inf := by
      unfold Format.add
      rw [read_inf]
      by_cases cy : y = inf
      · subst cy
        rw [read_inf]
        simp only [Datum.sum, if_true, Option.map_some, write_inf]
      · rw [read_fin (by omega)]
        simp only [Datum.sum, Option.map_some, write_inf]
    rw [this]
    exact ⟨rfl, Nat.le_refl _, Nat.le_refl _⟩
  · by_cases cy : y = inf
    · subst cy
      have : single.add x inf = some inf := by
        unfold Format.add
        rw [read_inf, read_fin (by omega)]
        simp only [Datum.sum, Option.map_some, write_inf]
      rw [this]
      exact ⟨rfl, Nat.le_refl _, hx⟩
    · rw [add_fin (by omega) (by omega)]
      refine ⟨rfl, rq_le _ _, ?_⟩
      have := rq_mono 0 (Nat.le_add_right (V x) (V y))
      rw [rq_V hx] at this
      exact this
theorem mul_ok {x s : Nat} (hx : x ≤ inf) (hs : s < inf) (h0 : mg s ≠ 0) : single.mul x s = some (fmul x s) ∧ fmul x s ≤ inf := by
  unfold fmul
  by_cases cx : x = inf
  · subst cx
    have : single.mul inf s = some inf := by
      unfold Format.mul
      rw [read_inf, read_fin hs]
      simp only [Datum.product, if_neg h0, Option.map_some]
      exact congrArg some write_inf
    rw [this]
    exact ⟨rfl, Nat.le_refl _⟩
  · rw [mul_fin (by omega) hs]
    exact ⟨rfl, rq_le _ _⟩
theorem div_ok {x s : Nat} (hx : x ≤ inf) (hs : s < inf) (h0 : mg s ≠ 0) : single.div x s = some (fdiv x s) ∧ fdiv x s ≤ inf := by
  unfold fdiv
  by_cases cx : x = inf
  · subst cx
    have : single.div inf s = some inf := by
      unfold Format.div
      rw [read_inf, read_fin hs]
      simp only [Datum.quotient, Option.map_some]
      exact congrArg some write_inf
    rw [this]
    exact ⟨rfl, Nat.le_refl _⟩
  · have : ∃ m p, single.div x s = some (single.nearest false m p) := by
      unfold Format.div
      rw [read_fin (by omega : x < inf), read_fin hs]
      simp only [Datum.quotient, if_neg h0, Option.map_some, Format.write]
      exact ⟨_, _, rfl⟩
    obtain ⟨m, p, e⟩ := this
    rw [e]
    exact ⟨rfl, nearest_le m p⟩
end Go.Proofs.Ytigbclhkmjcjjaa.FL
