/- Laid together of: MulMath, AddMath, QMath. -/
import Derived.Test.YtlepicdpelkmlaaGreatDoorAllMath
/- ==== MulMath ==== -/
namespace Go.Proofs.YtlepicdpelkmlaaGreatDoor.M
theorem gcd_cross {na da nb db : Nat} (h1 : Nat.gcd na da = 1) (h2 : Nat.gcd nb db = 1) : Nat.gcd (na * nb) (da * db) = Nat.gcd na db * Nat.gcd nb da := by
  have c1 : Nat.Coprime na da := h1
  have c2 : Nat.Coprime nb db := h2
  have hda : Nat.gcd (na * nb) da = Nat.gcd nb da := Nat.Coprime.gcd_mul_left_cancel nb c1
  have hdb : Nat.gcd (na * nb) db = Nat.gcd na db := Nat.Coprime.gcd_mul_right_cancel na c2
  apply Nat.dvd_antisymm
  · have := Nat.gcd_mul_right_dvd_mul_gcd (na * nb) da db
    rw [hda, hdb] at this
    rwa [Nat.mul_comm (Nat.gcd nb da)] at this
  · refine Nat.dvd_gcd ?_ ?_
    · exact Nat.mul_dvd_mul (Nat.gcd_dvd_left _ _) (Nat.gcd_dvd_left _ _)
    · rw [Nat.mul_comm da db]
      exact Nat.mul_dvd_mul (Nat.gcd_dvd_right _ _) (Nat.gcd_dvd_right _ _)
theorem mul_cross {na da nb db : Nat} (h1 : Nat.gcd na da = 1) (h2 : Nat.gcd nb db = 1) :
    na / Nat.gcd na db * (nb / Nat.gcd nb da) = na * nb / Nat.gcd (na * nb) (da * db) ∧ da / Nat.gcd nb da * (db / Nat.gcd na db) = da * db / Nat.gcd (na * nb) (da * db) := by
  rw [gcd_cross h1 h2]
  refine ⟨Nat.div_mul_div_comm (Nat.gcd_dvd_left _ _) (Nat.gcd_dvd_left _ _), ?_⟩
  rw [Nat.mul_comm (Nat.gcd na db)]
  exact Nat.div_mul_div_comm (Nat.gcd_dvd_right _ _) (Nat.gcd_dvd_right _ _)
end Go.Proofs.YtlepicdpelkmlaaGreatDoor.M
/- ==== AddMath ==== -/
namespace Go.Proofs.YtlepicdpelkmlaaGreatDoor.M
/-- The sum of two sizes with signs: its sign (of 0 either) and its size. -/
def addS (na : Bool) (a : Nat) (nb : Bool) (b : Nat) : Bool × Nat :=
  if na = nb then (na, a + b) else if b ≤ a then (na, a - b) else (nb, b - a)
theorem addS_scale (na nb : Bool) (a b g : Nat) (hg : 0 < g) : addS na (a * g) nb (b * g) = ((addS na a nb b).1, (addS na a nb b).2 * g) := by
  unfold addS
  by_cases h : na = nb
  · simp [h, Nat.add_mul]
  · rw [if_neg h, if_neg h]
    by_cases h2 : b ≤ a
    · rw [if_pos h2, if_pos (Nat.mul_le_mul_right g h2)]; simp [Nat.sub_mul]
    · rw [if_neg h2, if_neg (by intro h3; exact h2 (Nat.le_of_mul_le_mul_right h3 hg))]; simp [Nat.sub_mul]
theorem addS_dvd {na nb : Bool} {a b k : Nat} (h : k ∣ (addS na a nb b).2) (hb : k ∣ b) : k ∣ a := by
  unfold addS at h
  split at h
  · exact (Nat.dvd_add_left hb).1 h
  · split at h
    · rename_i h2
      have := Nat.dvd_add h hb
      rwa [Nat.sub_add_cancel h2] at this
    · rename_i h2
      have := Nat.dvd_sub hb h
      rwa [show b - (b - a) = a from by omega] at this
theorem addS_swap (na nb : Bool) (a b : Nat) : (addS na a nb b).2 = (addS nb b na a).2 := by
  unfold addS
  by_cases h : na = nb
  · subst h; simp [Nat.add_comm]
  · have h' : ¬ nb = na := fun e => h e.symm
    simp only [h, h', if_false]
    by_cases h2 : b ≤ a <;> by_cases h3 : a ≤ b <;> simp [h2, h3] <;> omega
theorem addS_le (na nb : Bool) (a b : Nat) : (addS na a nb b).2 ≤ a + b := by
  unfold addS
  split
  · exact Nat.le_refl _
  · split <;> (show _ - _ ≤ _; omega)
/-- What Add makes of two rationals in lowest terms is their sum in lowest terms. -/
theorem add_cross {sa sb : Bool} {na da nb db : Nat} (ha : 0 < da) (hb : 0 < db) (h1 : Nat.gcd na da = 1) (h2 : Nat.gcd nb db = 1)
    (g s t : Nat) (hg : g = Nat.gcd da db) (hs : s = (addS sa (na * (db / g)) sb (nb * (da / g))).2) (ht : t = Nat.gcd s g) :
    (addS sa (na * (db / g)) sb (nb * (da / g))).1 = (addS sa (na * db) sb (nb * da)).1 ∧
    s / t = (addS sa (na * db) sb (nb * da)).2 / Nat.gcd (addS sa (na * db) sb (nb * da)).2 (da * db) ∧
    da / g * (db / t) = da * db / Nat.gcd (addS sa (na * db) sb (nb * da)).2 (da * db) := by
  have hgp : 0 < g := by rw [hg]; exact Nat.gcd_pos_of_pos_left _ ha
  have ga : g ∣ da := by rw [hg]; exact Nat.gcd_dvd_left _ _
  have gb : g ∣ db := by rw [hg]; exact Nat.gcd_dvd_right _ _
  obtain ⟨ra, rfl⟩ := ga
  obtain ⟨rb, rfl⟩ := gb
  rw [Nat.mul_div_cancel_left _ hgp, Nat.mul_div_cancel_left _ hgp] at *
  have hrr : Nat.gcd ra rb = 1 := by
    rw [Nat.gcd_mul_left] at hg
    exact Nat.eq_of_mul_eq_mul_left hgp (by omega)
  have hsc : addS sa (na * (g * rb)) sb (nb * (g * ra)) = ((addS sa (na * rb) sb (nb * ra)).1, s * g) := by
    rw [hs, ← addS_scale sa sb (na * rb) (nb * ra) g hgp]
    congr 1
    · rw [Nat.mul_assoc, Nat.mul_comm g rb]
    · rw [Nat.mul_assoc, Nat.mul_comm g ra]
  rw [hsc]
  have c1 : Nat.Coprime s ra := by
    have q1 : Nat.gcd s ra ∣ na * rb := addS_dvd (by rw [← hs]; exact Nat.gcd_dvd_left _ _) (Nat.dvd_trans (Nat.gcd_dvd_right s ra) (Nat.dvd_mul_left _ _))
    have c2 : Nat.Coprime (Nat.gcd s ra) rb := Nat.Coprime.coprime_dvd_left (Nat.gcd_dvd_right _ _) hrr
    have q2 := c2.dvd_of_dvd_mul_right q1
    have q3 : Nat.gcd s ra ∣ Nat.gcd na (g * ra) := Nat.dvd_gcd q2 (Nat.dvd_trans (Nat.gcd_dvd_right _ _) (Nat.dvd_mul_left _ _))
    rw [h1] at q3
    exact Nat.dvd_one.1 q3
  have c2 : Nat.Coprime s rb := by
    have hs2 : s = (addS sb (nb * ra) sa (na * rb)).2 := by rw [hs]; exact addS_swap _ _ _ _
    have q1 : Nat.gcd s rb ∣ nb * ra := addS_dvd (by rw [← hs2]; exact Nat.gcd_dvd_left _ _) (Nat.dvd_trans (Nat.gcd_dvd_right s rb) (Nat.dvd_mul_left _ _))
    have c2 : Nat.Coprime (Nat.gcd s rb) ra := Nat.Coprime.coprime_dvd_left (Nat.gcd_dvd_right _ _) (Nat.Coprime.symm hrr)
    have q2 := c2.dvd_of_dvd_mul_right q1
    have q3 : Nat.gcd s rb ∣ Nat.gcd nb (g * rb) := Nat.dvd_gcd q2 (Nat.dvd_trans (Nat.gcd_dvd_right _ _) (Nat.dvd_mul_left _ _))
    rw [h2] at q3
    exact Nat.dvd_one.1 q3
  have hG : Nat.gcd (s * g) (g * ra * (g * rb)) = t * g := by
    have e : g * ra * (g * rb) = (ra * (rb * g)) * g := by
      rw [Nat.mul_comm g ra, Nat.mul_assoc, Nat.mul_assoc, Nat.mul_comm g (g * rb), Nat.mul_comm g rb]
    rw [e, Nat.gcd_mul_right, Nat.Coprime.gcd_mul_left_cancel_right _ c1.symm, Nat.Coprime.gcd_mul_left_cancel_right _ c2.symm, ht]
  have htg : t ∣ g := by rw [ht]; exact Nat.gcd_dvd_right _ _
  have htp : 0 < t := Nat.pos_of_dvd_of_pos htg hgp
  refine ⟨rfl, ?_, ?_⟩
  · show s / t = s * g / Nat.gcd (s * g) _
    rw [hG, Nat.mul_div_mul_right _ _ hgp]
  · show ra * (g * rb / t) = g * ra * (g * rb) / Nat.gcd (s * g) _
    rw [hG]
    obtain ⟨k, rfl⟩ := htg
    have e1 : t * k * rb / t = k * rb := by rw [Nat.mul_assoc, Nat.mul_div_cancel_left _ htp]
    rw [e1]
    have e2 : t * k * ra * (t * k * rb) = (ra * (k * rb)) * (t * (t * k)) := by
      rw [Nat.mul_assoc, Nat.mul_comm (t * k)]
      ac_rfl
    rw [e2, Nat.mul_div_cancel _ (Nat.mul_pos htp hgp)]
end Go.Proofs.YtlepicdpelkmlaaGreatDoor.M
/- ==== QMath ==== -/
namespace Go.Proofs.YtlepicdpelkmlaaGreatDoor.M
/-- A size with its sign. -/
def sg (neg : Bool) (n : Nat) : Int := if neg then -(n : Int) else n
theorem sg_abs (s : Bool) (n : Nat) : (sg s n).natAbs = n := by cases s <;> simp [sg]
theorem sg_addS (sa sb : Bool) (a b : Nat) : sg (addS sa a sb b).1 (addS sa a sb b).2 = sg sa a + sg sb b := by
  unfold addS sg
  cases sa <;> cases sb
  · simp
  · by_cases h : b ≤ a
    · simp [h]; omega
    · simp [h]; omega
  · by_cases h : b ≤ a
    · simp [h]; omega
    · simp [h]; omega
  · simp; omega
theorem sg_mul (sa sb : Bool) (a b : Nat) : sg (sa != sb) (a * b) = sg sa a * sg sb b := by
  unfold sg
  cases sa <;> cases sb <;> simp [Int.neg_mul, Int.mul_neg]
theorem sg_neg_not (s : Bool) (n : Nat) : sg (!s && !decide (n = 0)) n = - sg s n := by
  unfold sg
  cases s <;> by_cases h : n = 0 <;> simp [h]
theorem sg_keep (s : Bool) (n : Nat) : sg (s && !decide (n = 0)) n = sg s n := by
  unfold sg
  cases s <;> by_cases h : n = 0 <;> simp [h]
theorem sg_scale (s : Bool) (n k : Nat) : sg s n * k = sg s (n * k) := by
  unfold sg
  cases s <;> simp [Int.neg_mul]
/-- The parts of a rational that a sign and two numbers make. -/
theorem mk_parts (s : Bool) (n d : Nat) (hd : 0 < d) : (decide ((mkRat (sg s n) d).num < 0) = (s && !decide (n = 0))) ∧ (mkRat (sg s n) d).num.natAbs = n / Nat.gcd n d ∧ (mkRat (sg s n) d).den = d / Nat.gcd n d := by
  have hd0 : d ≠ 0 := by omega
  have hg : 0 < Nat.gcd n d := Nat.gcd_pos_of_pos_right _ hd
  have hn : (mkRat (sg s n) d).num = sg s (n / Nat.gcd n d) := by
    rw [Rat.num_mkRat, if_neg hd0, sg_abs, Nat.gcd_comm d n]
    have hdv : n / Nat.gcd n d * Nat.gcd n d = n := Nat.div_mul_cancel (Nat.gcd_dvd_left _ _)
    conv => lhs; rw [← hdv, ← sg_scale]
    rw [hdv, Int.mul_ediv_cancel _ (by omega)]
  refine ⟨?_, ?_, ?_⟩
  · rw [hn, Bool.eq_iff_iff]
    have h0 : n / Nat.gcd n d = 0 ↔ n = 0 := by
      constructor
      · intro e
        have : n / Nat.gcd n d * Nat.gcd n d = n := Nat.div_mul_cancel (Nat.gcd_dvd_left _ _)
        rw [e] at this; omega
      · intro e; subst e; simp
    generalize n / Nat.gcd n d = q at *
    unfold sg
    cases s <;> simp <;> omega
  · rw [hn, sg_abs]
  · rw [Rat.den_mkRat, if_neg hd0, sg_abs, Nat.gcd_comm]
theorem mk_add (sa sb : Bool) (na da nb db : Nat) (ha : 0 < da) (hb : 0 < db) : mkRat (sg (addS sa (na * db) sb (nb * da)).1 (addS sa (na * db) sb (nb * da)).2) (da * db) = mkRat (sg sa na) da + mkRat (sg sb nb) db := by
  rw [sg_addS, Rat.mkRat_add_mkRat _ _ (by omega) (by omega), sg_scale, sg_scale]
theorem mk_mul (sa sb : Bool) (na da nb db : Nat) : mkRat (sg (sa != sb) (na * nb)) (da * db) = mkRat (sg sa na) da * mkRat (sg sb nb) db := by
  rw [sg_mul, Rat.mkRat_mul_mkRat]
theorem mk_inv (s : Bool) (n d : Nat) : (mkRat (sg s n) d)⁻¹ = mkRat (sg s d) n := by
  rw [← Rat.divInt_ofNat, Rat.inv_divInt, ← Rat.divInt_ofNat]
  unfold sg
  cases s
  · rfl
  · simp only [if_true]; rw [Rat.divInt_neg']
theorem mk_div (sa sb : Bool) (na da nb db : Nat) : mkRat (sg (sa != sb) (na * db)) (da * nb) = mkRat (sg sa na) da / mkRat (sg sb nb) db := by
  rw [Rat.div_def, mk_inv _ _ _, ← mk_mul]
theorem mk_neg (s : Bool) (n d : Nat) : mkRat (sg (!s && !decide (n = 0)) n) d = - mkRat (sg s n) d := by
  rw [sg_neg_not, Rat.neg_mkRat]
end Go.Proofs.YtlepicdpelkmlaaGreatDoor.M
