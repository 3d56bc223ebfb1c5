/-
  NumOrder, of canonical texts.
-/
import Derived.Test.YteghlbhpaaocmaaGreatDoorFieldA
/- ==== OrderLaw ==== -/
namespace Go.Proofs.YteghlbhpaaocmaaGreatDoor
open Go.RowKit
set_option linter.unusedVariables false
theorem cmpQ_range (p q : Rat) : -1 ≤ cmpQ p q ∧ cmpQ p q ≤ 1 := by unfold cmpQ; split <;> (try split) <;> decide
theorem cmpQ_swap (p q : Rat) : cmpQ q p = - cmpQ p q := by
  unfold cmpQ
  by_cases h : p < q
  · have h1 : ¬ q < p := by grind
    have h2 : ¬ q = p := by grind
    simp [h, h1, h2]
  · by_cases h2 : p = q
    · subst h2; simp
    · have h3 : q < p := by grind
      simp [h, h2, h3]
theorem cmpQ_zero (p q : Rat) : cmpQ p q = 0 ↔ p = q := by
  unfold cmpQ
  by_cases h : p < q
  · have h2 : ¬ p = q := by grind
    simp [h, h2]
  · by_cases h2 : p = q <;> simp [h, h2]
theorem cmpQ_sub (p q : Rat) : cmpQ (p - q) 0 = cmpQ p q := by
  unfold cmpQ
  have e1 : (p - q < 0) ↔ (p < q) := by grind
  have e2 : (p - q = 0) ↔ (p = q) := by grind
  simp only [e1, e2]
theorem cmpQ_le (p q : Rat) : cmpQ p q ≤ 0 ↔ p ≤ q := by
  unfold cmpQ
  by_cases h : p < q
  · have : p ≤ q := by grind
    simp [h, this]
  · by_cases h2 : p = q
    · subst h2; simp; try grind
    · have : ¬ p ≤ q := by grind
      simp [h, h2, this]
theorem cmpQ_trans (p q r : Rat) (h1 : cmpQ p q ≤ 0) (h2 : cmpQ q r ≤ 0) : cmpQ p r ≤ 0 := by
  rw [cmpQ_le] at *
  grind
theorem cmpQ_add (p q r : Rat) : cmpQ (p + r) (q + r) = cmpQ p q := by
  unfold cmpQ
  have e1 : (p + r < q + r) ↔ (p < q) := by grind
  have e2 : (p + r = q + r) ↔ (p = q) := by grind
  simp only [e1, e2]
theorem cmpQ_mul (p q r : Rat) : cmpQ (p * r) (q * r) = cmpQ p q * cmpQ r 0 := by
  have e : cmpQ (p * r) (q * r) = cmpQ ((p - q) * r) 0 := by
    rw [← cmpQ_sub (p * r) (q * r)]
    congr 1
    grind
  rw [e, ← cmpQ_sub p q]
  generalize p - q = d
  have pos : ∀ a b : Rat, 0 < a → 0 < b → 0 < a * b := fun a b ha hb => Rat.mul_pos ha hb
  unfold cmpQ
  rcases (by grind : d < 0 ∨ d = 0 ∨ 0 < d) with h | h | h
  · rcases (by grind : r < 0 ∨ r = 0 ∨ 0 < r) with g | g | g
    · have := pos (-d) (-r) (by grind) (by grind)
      have h1 : ¬ d * r < 0 := by grind
      have h2 : ¬ d * r = 0 := by grind
      simp [h, g, h1, h2]
    · subst g; simp [h]
    · have := pos (-d) r (by grind) g
      have h1 : d * r < 0 := by grind
      have g1 : ¬ r < 0 := by grind
      have g2 : ¬ r = 0 := by grind
      simp [h, g1, g2, h1]
  · subst h; simp
  · have k1 : ¬ d < 0 := by grind
    have k2 : ¬ d = 0 := by grind
    rcases (by grind : r < 0 ∨ r = 0 ∨ 0 < r) with g | g | g
    · have := pos d (-r) h (by grind)
      have h1 : d * r < 0 := by grind
      simp [k1, k2, g, h1]
    · subst g; simp [k1, k2]
    · have := pos d r h g
      have h1 : ¬ d * r < 0 := by grind
      have h2 : ¬ d * r = 0 := by grind
      have g1 : ¬ r < 0 := by grind
      have g2 : ¬ r = 0 := by grind
      simp [k1, k2, g1, g2, h1, h2]
theorem cmp_c (w : World) (s t : ByteArray) (x y : Rat) (c : Int) (hs : s = tB x) (ht : t = tB y) (hc : cmpQ x y = c) (zs : Sz x) (zt : Sz y) (env : Env w) :
    Calls Tryz.prog 28 #[.string s, .string t] w fun e w' => e = .returned (.int .i64 c) ∧ Below w.heap.size w w' := by
  rw [← hc]
  exact cmp_t w s t x y hs ht zs zt env
set_option maxRecDepth 100000 in
set_option maxHeartbeats 16000000 in
theorem order_ne (w : World) (x y z : Rat) (hne : x ≠ y) (X Y Z U : Int) (c1 : cmpQ x y = X) (c2 : cmpQ y z = Y) (c5 : cmpQ x z = U) (c8 : cmpQ z 0 = Z) (hX : X = -1 ∨ X = 1) (hY1 : -1 ≤ Y) (hY2 : Y ≤ 1) (hZ : Z = -1 ∨ Z = 0 ∨ Z = 1) (hU1 : -1 ≤ U) (hU2 : U ≤ 1) (hU : X ≤ 0 → Y ≤ 0 → U ≤ 0) (z1 : Sz x) (z2 : Sz y) (z3 : Sz z) (z4 : Sz 0) (z5 : Sz (x - y)) (z6 : Sz (x + z)) (z7 : Sz (y + z)) (z8 : Sz (x * z)) (z9 : Sz (y * z)) (env : Env w) :
    Calls Tryz.prog 8 #[.string (tB x), .string (tB y), .string (tB z)] w fun e w' => e = .returned (.bool true) ∧ Below w.heap.size w w' := by
  have c3 : Hid (cmpQ y x = -X) := by show _ = _; rw [cmpQ_swap, c1]
  have c4 : Hid (cmpQ (x - y) 0 = X) := by show _ = _; rw [cmpQ_sub, c1]
  have c6 : Hid (cmpQ (x + z) (y + z) = X) := by show _ = _; rw [cmpQ_add, c1]
  have c7 : Hid (cmpQ (x * z) (y * z) = X * Z) := by show _ = _; rw [cmpQ_mul, c1, c8]
  replace c1 := hide c1
  replace c2 := hide c2
  replace c5 := hide c5
  replace c8 := hide c8
  have h0 := hide t_zero
  have bw : Hid (Below w.heap.size w w) := Below.refl _ _
  have EE := hide env
  clear env
  obtain ⟨o2, o3, o4, o5, o6⟩ := str_ne2 (tB_ne hne)
  clear hne
  rcases hX with rfl | rfl
  · rcases hZ with rfl | rfl | rfl
    · by_cases hY : Y ≤ 0
      · have hU3 := hU (by decide) hY
        clear hU
        go_enter Tryz.func8, Tryz.ntmps8
        go_wp2_with (first
            | (go_at_call 26; refine (heads_b _ (EE.out.below bw.out)).mono ?_; rintro e w1 ⟨rfl, b1⟩; replace bw := hide (bw.out.then_below b1); clear b1)
            | (go_at_call 27; refine (canon_t _ _ _ (by first | with_reducible rfl | with_reducible exact h0.out) (by with_reducible assumption) (EE.out.below bw.out)).mono ?_; rintro e w1 ⟨rfl, b1⟩; replace bw := hide (bw.out.then_below b1); clear b1)
            | (go_at_call 28; refine (cmp_c _ _ _ _ _ _ (by first | with_reducible rfl | with_reducible exact h0.out) (by first | with_reducible rfl | with_reducible exact h0.out) (by first | with_reducible exact c1.out | with_reducible exact c2.out | with_reducible exact c3.out | with_reducible exact c4.out | with_reducible exact c5.out | with_reducible exact c6.out | with_reducible exact c7.out | with_reducible exact c8.out) (by with_reducible assumption) (by with_reducible assumption) (EE.out.below bw.out)).mono ?_; rintro e w1 ⟨rfl, b1⟩; replace bw := hide (bw.out.then_below b1); clear b1)
            | (go_at_call 30; refine (add_t _ _ _ _ _ (by first | with_reducible rfl | with_reducible exact h0.out) (by first | with_reducible rfl | with_reducible exact h0.out) (by with_reducible assumption) (by with_reducible assumption) (EE.out.below bw.out)).mono ?_; rintro e w1 ⟨rfl, b1⟩; replace bw := hide (bw.out.then_below b1); clear b1)
            | (go_at_call 29; refine (sub_t _ _ _ _ _ (by first | with_reducible rfl | with_reducible exact h0.out) (by first | with_reducible rfl | with_reducible exact h0.out) (by with_reducible assumption) (by with_reducible assumption) (EE.out.below bw.out)).mono ?_; rintro e w1 ⟨rfl, b1⟩; replace bw := hide (bw.out.then_below b1); clear b1)
            | (go_at_call 31; refine (mul_t _ _ _ _ _ (by first | with_reducible rfl | with_reducible exact h0.out) (by first | with_reducible rfl | with_reducible exact h0.out) (by with_reducible assumption) (by with_reducible assumption) (EE.out.below bw.out)).mono ?_; rintro e w1 ⟨rfl, b1⟩; replace bw := hide (bw.out.then_below b1); clear b1))
        go_ret
        exact ⟨rfl, bw.out⟩
      · clear hU
        go_enter Tryz.func8, Tryz.ntmps8
        go_wp2_with (first
            | (go_at_call 26; refine (heads_b _ (EE.out.below bw.out)).mono ?_; rintro e w1 ⟨rfl, b1⟩; replace bw := hide (bw.out.then_below b1); clear b1)
            | (go_at_call 27; refine (canon_t _ _ _ (by first | with_reducible rfl | with_reducible exact h0.out) (by with_reducible assumption) (EE.out.below bw.out)).mono ?_; rintro e w1 ⟨rfl, b1⟩; replace bw := hide (bw.out.then_below b1); clear b1)
            | (go_at_call 28; refine (cmp_c _ _ _ _ _ _ (by first | with_reducible rfl | with_reducible exact h0.out) (by first | with_reducible rfl | with_reducible exact h0.out) (by first | with_reducible exact c1.out | with_reducible exact c2.out | with_reducible exact c3.out | with_reducible exact c4.out | with_reducible exact c5.out | with_reducible exact c6.out | with_reducible exact c7.out | with_reducible exact c8.out) (by with_reducible assumption) (by with_reducible assumption) (EE.out.below bw.out)).mono ?_; rintro e w1 ⟨rfl, b1⟩; replace bw := hide (bw.out.then_below b1); clear b1)
            | (go_at_call 30; refine (add_t _ _ _ _ _ (by first | with_reducible rfl | with_reducible exact h0.out) (by first | with_reducible rfl | with_reducible exact h0.out) (by with_reducible assumption) (by with_reducible assumption) (EE.out.below bw.out)).mono ?_; rintro e w1 ⟨rfl, b1⟩; replace bw := hide (bw.out.then_below b1); clear b1)
            | (go_at_call 29; refine (sub_t _ _ _ _ _ (by first | with_reducible rfl | with_reducible exact h0.out) (by first | with_reducible rfl | with_reducible exact h0.out) (by with_reducible assumption) (by with_reducible assumption) (EE.out.below bw.out)).mono ?_; rintro e w1 ⟨rfl, b1⟩; replace bw := hide (bw.out.then_below b1); clear b1)
            | (go_at_call 31; refine (mul_t _ _ _ _ _ (by first | with_reducible rfl | with_reducible exact h0.out) (by first | with_reducible rfl | with_reducible exact h0.out) (by with_reducible assumption) (by with_reducible assumption) (EE.out.below bw.out)).mono ?_; rintro e w1 ⟨rfl, b1⟩; replace bw := hide (bw.out.then_below b1); clear b1))
        go_ret
        exact ⟨rfl, bw.out⟩
    · by_cases hY : Y ≤ 0
      · have hU3 := hU (by decide) hY
        clear hU
        go_enter Tryz.func8, Tryz.ntmps8
        go_wp2_with (first
            | (go_at_call 26; refine (heads_b _ (EE.out.below bw.out)).mono ?_; rintro e w1 ⟨rfl, b1⟩; replace bw := hide (bw.out.then_below b1); clear b1)
            | (go_at_call 27; refine (canon_t _ _ _ (by first | with_reducible rfl | with_reducible exact h0.out) (by with_reducible assumption) (EE.out.below bw.out)).mono ?_; rintro e w1 ⟨rfl, b1⟩; replace bw := hide (bw.out.then_below b1); clear b1)
            | (go_at_call 28; refine (cmp_c _ _ _ _ _ _ (by first | with_reducible rfl | with_reducible exact h0.out) (by first | with_reducible rfl | with_reducible exact h0.out) (by first | with_reducible exact c1.out | with_reducible exact c2.out | with_reducible exact c3.out | with_reducible exact c4.out | with_reducible exact c5.out | with_reducible exact c6.out | with_reducible exact c7.out | with_reducible exact c8.out) (by with_reducible assumption) (by with_reducible assumption) (EE.out.below bw.out)).mono ?_; rintro e w1 ⟨rfl, b1⟩; replace bw := hide (bw.out.then_below b1); clear b1)
            | (go_at_call 30; refine (add_t _ _ _ _ _ (by first | with_reducible rfl | with_reducible exact h0.out) (by first | with_reducible rfl | with_reducible exact h0.out) (by with_reducible assumption) (by with_reducible assumption) (EE.out.below bw.out)).mono ?_; rintro e w1 ⟨rfl, b1⟩; replace bw := hide (bw.out.then_below b1); clear b1)
            | (go_at_call 29; refine (sub_t _ _ _ _ _ (by first | with_reducible rfl | with_reducible exact h0.out) (by first | with_reducible rfl | with_reducible exact h0.out) (by with_reducible assumption) (by with_reducible assumption) (EE.out.below bw.out)).mono ?_; rintro e w1 ⟨rfl, b1⟩; replace bw := hide (bw.out.then_below b1); clear b1)
            | (go_at_call 31; refine (mul_t _ _ _ _ _ (by first | with_reducible rfl | with_reducible exact h0.out) (by first | with_reducible rfl | with_reducible exact h0.out) (by with_reducible assumption) (by with_reducible assumption) (EE.out.below bw.out)).mono ?_; rintro e w1 ⟨rfl, b1⟩; replace bw := hide (bw.out.then_below b1); clear b1))
        go_ret
        exact ⟨rfl, bw.out⟩
      · clear hU
        go_enter Tryz.func8, Tryz.ntmps8
        go_wp2_with (first
            | (go_at_call 26; refine (heads_b _ (EE.out.below bw.out)).mono ?_; rintro e w1 ⟨rfl, b1⟩; replace bw := hide (bw.out.then_below b1); clear b1)
            | (go_at_call 27; refine (canon_t _ _ _ (by first | with_reducible rfl | with_reducible exact h0.out) (by with_reducible assumption) (EE.out.below bw.out)).mono ?_; rintro e w1 ⟨rfl, b1⟩; replace bw := hide (bw.out.then_below b1); clear b1)
            | (go_at_call 28; refine (cmp_c _ _ _ _ _ _ (by first | with_reducible rfl | with_reducible exact h0.out) (by first | with_reducible rfl | with_reducible exact h0.out) (by first | with_reducible exact c1.out | with_reducible exact c2.out | with_reducible exact c3.out | with_reducible exact c4.out | with_reducible exact c5.out | with_reducible exact c6.out | with_reducible exact c7.out | with_reducible exact c8.out) (by with_reducible assumption) (by with_reducible assumption) (EE.out.below bw.out)).mono ?_; rintro e w1 ⟨rfl, b1⟩; replace bw := hide (bw.out.then_below b1); clear b1)
            | (go_at_call 30; refine (add_t _ _ _ _ _ (by first | with_reducible rfl | with_reducible exact h0.out) (by first | with_reducible rfl | with_reducible exact h0.out) (by with_reducible assumption) (by with_reducible assumption) (EE.out.below bw.out)).mono ?_; rintro e w1 ⟨rfl, b1⟩; replace bw := hide (bw.out.then_below b1); clear b1)
            | (go_at_call 29; refine (sub_t _ _ _ _ _ (by first | with_reducible rfl | with_reducible exact h0.out) (by first | with_reducible rfl | with_reducible exact h0.out) (by with_reducible assumption) (by with_reducible assumption) (EE.out.below bw.out)).mono ?_; rintro e w1 ⟨rfl, b1⟩; replace bw := hide (bw.out.then_below b1); clear b1)
            | (go_at_call 31; refine (mul_t _ _ _ _ _ (by first | with_reducible rfl | with_reducible exact h0.out) (by first | with_reducible rfl | with_reducible exact h0.out) (by with_reducible assumption) (by with_reducible assumption) (EE.out.below bw.out)).mono ?_; rintro e w1 ⟨rfl, b1⟩; replace bw := hide (bw.out.then_below b1); clear b1))
        go_ret
        exact ⟨rfl, bw.out⟩
    · by_cases hY : Y ≤ 0
      · have hU3 := hU (by decide) hY
        clear hU
        go_enter Tryz.func8, Tryz.ntmps8
        go_wp2_with (first
            | (go_at_call 26; refine (heads_b _ (EE.out.below bw.out)).mono ?_; rintro e w1 ⟨rfl, b1⟩; replace bw := hide (bw.out.then_below b1); clear b1)
            | (go_at_call 27; refine (canon_t _ _ _ (by first | with_reducible rfl | with_reducible exact h0.out) (by with_reducible assumption) (EE.out.below bw.out)).mono ?_; rintro e w1 ⟨rfl, b1⟩; replace bw := hide (bw.out.then_below b1); clear b1)
            | (go_at_call 28; refine (cmp_c _ _ _ _ _ _ (by first | with_reducible rfl | with_reducible exact h0.out) (by first | with_reducible rfl | with_reducible exact h0.out) (by first | with_reducible exact c1.out | with_reducible exact c2.out | with_reducible exact c3.out | with_reducible exact c4.out | with_reducible exact c5.out | with_reducible exact c6.out | with_reducible exact c7.out | with_reducible exact c8.out) (by with_reducible assumption) (by with_reducible assumption) (EE.out.below bw.out)).mono ?_; rintro e w1 ⟨rfl, b1⟩; replace bw := hide (bw.out.then_below b1); clear b1)
            | (go_at_call 30; refine (add_t _ _ _ _ _ (by first | with_reducible rfl | with_reducible exact h0.out) (by first | with_reducible rfl | with_reducible exact h0.out) (by with_reducible assumption) (by with_reducible assumption) (EE.out.below bw.out)).mono ?_; rintro e w1 ⟨rfl, b1⟩; replace bw := hide (bw.out.then_below b1); clear b1)
            | (go_at_call 29; refine (sub_t _ _ _ _ _ (by first | with_reducible rfl | with_reducible exact h0.out) (by first | with_reducible rfl | with_reducible exact h0.out) (by with_reducible assumption) (by with_reducible assumption) (EE.out.below bw.out)).mono ?_; rintro e w1 ⟨rfl, b1⟩; replace bw := hide (bw.out.then_below b1); clear b1)
            | (go_at_call 31; refine (mul_t _ _ _ _ _ (by first | with_reducible rfl | with_reducible exact h0.out) (by first | with_reducible rfl | with_reducible exact h0.out) (by with_reducible assumption) (by with_reducible assumption) (EE.out.below bw.out)).mono ?_; rintro e w1 ⟨rfl, b1⟩; replace bw := hide (bw.out.then_below b1); clear b1))
        go_ret
        exact ⟨rfl, bw.out⟩
      · clear hU
        go_enter Tryz.func8, Tryz.ntmps8
        go_wp2_with (first
            | (go_at_call 26; refine (heads_b _ (EE.out.below bw.out)).mono ?_; rintro e w1 ⟨rfl, b1⟩; replace bw := hide (bw.out.then_below b1); clear b1)
            | (go_at_call 27; refine (canon_t _ _ _ (by first | with_reducible rfl | with_reducible exact h0.out) (by with_reducible assumption) (EE.out.below bw.out)).mono ?_; rintro e w1 ⟨rfl, b1⟩; replace bw := hide (bw.out.then_below b1); clear b1)
            | (go_at_call 28; refine (cmp_c _ _ _ _ _ _ (by first | with_reducible rfl | with_reducible exact h0.out) (by first | with_reducible rfl | with_reducible exact h0.out) (by first | with_reducible exact c1.out | with_reducible exact c2.out | with_reducible exact c3.out | with_reducible exact c4.out | with_reducible exact c5.out | with_reducible exact c6.out | with_reducible exact c7.out | with_reducible exact c8.out) (by with_reducible assumption) (by with_reducible assumption) (EE.out.below bw.out)).mono ?_; rintro e w1 ⟨rfl, b1⟩; replace bw := hide (bw.out.then_below b1); clear b1)
            | (go_at_call 30; refine (add_t _ _ _ _ _ (by first | with_reducible rfl | with_reducible exact h0.out) (by first | with_reducible rfl | with_reducible exact h0.out) (by with_reducible assumption) (by with_reducible assumption) (EE.out.below bw.out)).mono ?_; rintro e w1 ⟨rfl, b1⟩; replace bw := hide (bw.out.then_below b1); clear b1)
            | (go_at_call 29; refine (sub_t _ _ _ _ _ (by first | with_reducible rfl | with_reducible exact h0.out) (by first | with_reducible rfl | with_reducible exact h0.out) (by with_reducible assumption) (by with_reducible assumption) (EE.out.below bw.out)).mono ?_; rintro e w1 ⟨rfl, b1⟩; replace bw := hide (bw.out.then_below b1); clear b1)
            | (go_at_call 31; refine (mul_t _ _ _ _ _ (by first | with_reducible rfl | with_reducible exact h0.out) (by first | with_reducible rfl | with_reducible exact h0.out) (by with_reducible assumption) (by with_reducible assumption) (EE.out.below bw.out)).mono ?_; rintro e w1 ⟨rfl, b1⟩; replace bw := hide (bw.out.then_below b1); clear b1))
        go_ret
        exact ⟨rfl, bw.out⟩
  · rcases hZ with rfl | rfl | rfl
    · clear hU
      go_enter Tryz.func8, Tryz.ntmps8
      go_wp2_with (first
          | (go_at_call 26; refine (heads_b _ (EE.out.below bw.out)).mono ?_; rintro e w1 ⟨rfl, b1⟩; replace bw := hide (bw.out.then_below b1); clear b1)
          | (go_at_call 27; refine (canon_t _ _ _ (by first | with_reducible rfl | with_reducible exact h0.out) (by with_reducible assumption) (EE.out.below bw.out)).mono ?_; rintro e w1 ⟨rfl, b1⟩; replace bw := hide (bw.out.then_below b1); clear b1)
          | (go_at_call 28; refine (cmp_c _ _ _ _ _ _ (by first | with_reducible rfl | with_reducible exact h0.out) (by first | with_reducible rfl | with_reducible exact h0.out) (by first | with_reducible exact c1.out | with_reducible exact c2.out | with_reducible exact c3.out | with_reducible exact c4.out | with_reducible exact c5.out | with_reducible exact c6.out | with_reducible exact c7.out | with_reducible exact c8.out) (by with_reducible assumption) (by with_reducible assumption) (EE.out.below bw.out)).mono ?_; rintro e w1 ⟨rfl, b1⟩; replace bw := hide (bw.out.then_below b1); clear b1)
          | (go_at_call 30; refine (add_t _ _ _ _ _ (by first | with_reducible rfl | with_reducible exact h0.out) (by first | with_reducible rfl | with_reducible exact h0.out) (by with_reducible assumption) (by with_reducible assumption) (EE.out.below bw.out)).mono ?_; rintro e w1 ⟨rfl, b1⟩; replace bw := hide (bw.out.then_below b1); clear b1)
          | (go_at_call 29; refine (sub_t _ _ _ _ _ (by first | with_reducible rfl | with_reducible exact h0.out) (by first | with_reducible rfl | with_reducible exact h0.out) (by with_reducible assumption) (by with_reducible assumption) (EE.out.below bw.out)).mono ?_; rintro e w1 ⟨rfl, b1⟩; replace bw := hide (bw.out.then_below b1); clear b1)
          | (go_at_call 31; refine (mul_t _ _ _ _ _ (by first | with_reducible rfl | with_reducible exact h0.out) (by first | with_reducible rfl | with_reducible exact h0.out) (by with_reducible assumption) (by with_reducible assumption) (EE.out.below bw.out)).mono ?_; rintro e w1 ⟨rfl, b1⟩; replace bw := hide (bw.out.then_below b1); clear b1))
      go_ret
      exact ⟨rfl, bw.out⟩
    · clear hU
      go_enter Tryz.func8, Tryz.ntmps8
      go_wp2_with (first
          | (go_at_call 26; refine (heads_b _ (EE.out.below bw.out)).mono ?_; rintro e w1 ⟨rfl, b1⟩; replace bw := hide (bw.out.then_below b1); clear b1)
          | (go_at_call 27; refine (canon_t _ _ _ (by first | with_reducible rfl | with_reducible exact h0.out) (by with_reducible assumption) (EE.out.below bw.out)).mono ?_; rintro e w1 ⟨rfl, b1⟩; replace bw := hide (bw.out.then_below b1); clear b1)
          | (go_at_call 28; refine (cmp_c _ _ _ _ _ _ (by first | with_reducible rfl | with_reducible exact h0.out) (by first | with_reducible rfl | with_reducible exact h0.out) (by first | with_reducible exact c1.out | with_reducible exact c2.out | with_reducible exact c3.out | with_reducible exact c4.out | with_reducible exact c5.out | with_reducible exact c6.out | with_reducible exact c7.out | with_reducible exact c8.out) (by with_reducible assumption) (by with_reducible assumption) (EE.out.below bw.out)).mono ?_; rintro e w1 ⟨rfl, b1⟩; replace bw := hide (bw.out.then_below b1); clear b1)
          | (go_at_call 30; refine (add_t _ _ _ _ _ (by first | with_reducible rfl | with_reducible exact h0.out) (by first | with_reducible rfl | with_reducible exact h0.out) (by with_reducible assumption) (by with_reducible assumption) (EE.out.below bw.out)).mono ?_; rintro e w1 ⟨rfl, b1⟩; replace bw := hide (bw.out.then_below b1); clear b1)
          | (go_at_call 29; refine (sub_t _ _ _ _ _ (by first | with_reducible rfl | with_reducible exact h0.out) (by first | with_reducible rfl | with_reducible exact h0.out) (by with_reducible assumption) (by with_reducible assumption) (EE.out.below bw.out)).mono ?_; rintro e w1 ⟨rfl, b1⟩; replace bw := hide (bw.out.then_below b1); clear b1)
          | (go_at_call 31; refine (mul_t _ _ _ _ _ (by first | with_reducible rfl | with_reducible exact h0.out) (by first | with_reducible rfl | with_reducible exact h0.out) (by with_reducible assumption) (by with_reducible assumption) (EE.out.below bw.out)).mono ?_; rintro e w1 ⟨rfl, b1⟩; replace bw := hide (bw.out.then_below b1); clear b1))
      go_ret
      exact ⟨rfl, bw.out⟩
    · clear hU
      go_enter Tryz.func8, Tryz.ntmps8
      go_wp2_with (first
          | (go_at_call 26; refine (heads_b _ (EE.out.below bw.out)).mono ?_; rintro e w1 ⟨rfl, b1⟩; replace bw := hide (bw.out.then_below b1); clear b1)
          | (go_at_call 27; refine (canon_t _ _ _ (by first | with_reducible rfl | with_reducible exact h0.out) (by with_reducible assumption) (EE.out.below bw.out)).mono ?_; rintro e w1 ⟨rfl, b1⟩; replace bw := hide (bw.out.then_below b1); clear b1)
          | (go_at_call 28; refine (cmp_c _ _ _ _ _ _ (by first | with_reducible rfl | with_reducible exact h0.out) (by first | with_reducible rfl | with_reducible exact h0.out) (by first | with_reducible exact c1.out | with_reducible exact c2.out | with_reducible exact c3.out | with_reducible exact c4.out | with_reducible exact c5.out | with_reducible exact c6.out | with_reducible exact c7.out | with_reducible exact c8.out) (by with_reducible assumption) (by with_reducible assumption) (EE.out.below bw.out)).mono ?_; rintro e w1 ⟨rfl, b1⟩; replace bw := hide (bw.out.then_below b1); clear b1)
          | (go_at_call 30; refine (add_t _ _ _ _ _ (by first | with_reducible rfl | with_reducible exact h0.out) (by first | with_reducible rfl | with_reducible exact h0.out) (by with_reducible assumption) (by with_reducible assumption) (EE.out.below bw.out)).mono ?_; rintro e w1 ⟨rfl, b1⟩; replace bw := hide (bw.out.then_below b1); clear b1)
          | (go_at_call 29; refine (sub_t _ _ _ _ _ (by first | with_reducible rfl | with_reducible exact h0.out) (by first | with_reducible rfl | with_reducible exact h0.out) (by with_reducible assumption) (by with_reducible assumption) (EE.out.below bw.out)).mono ?_; rintro e w1 ⟨rfl, b1⟩; replace bw := hide (bw.out.then_below b1); clear b1)
          | (go_at_call 31; refine (mul_t _ _ _ _ _ (by first | with_reducible rfl | with_reducible exact h0.out) (by first | with_reducible rfl | with_reducible exact h0.out) (by with_reducible assumption) (by with_reducible assumption) (EE.out.below bw.out)).mono ?_; rintro e w1 ⟨rfl, b1⟩; replace bw := hide (bw.out.then_below b1); clear b1))
      go_ret
      exact ⟨rfl, bw.out⟩

set_option maxRecDepth 100000 in
set_option maxHeartbeats 16000000 in
theorem order_eq (w : World) (x y z : Rat) (heq : x = y) (X Y Z U : Int) (c1 : cmpQ x y = X) (c2 : cmpQ y z = Y) (c5 : cmpQ x z = U) (c8 : cmpQ z 0 = Z) (hX : X = 0) (hY1 : -1 ≤ Y) (hY2 : Y ≤ 1) (hZ : Z = -1 ∨ Z = 0 ∨ Z = 1) (hU1 : -1 ≤ U) (hU2 : U ≤ 1) (hU : X ≤ 0 → Y ≤ 0 → U ≤ 0) (z1 : Sz x) (z2 : Sz y) (z3 : Sz z) (z4 : Sz 0) (z5 : Sz (x - y)) (z6 : Sz (x + z)) (z7 : Sz (y + z)) (z8 : Sz (x * z)) (z9 : Sz (y * z)) (env : Env w) :
    Calls Tryz.prog 8 #[.string (tB x), .string (tB y), .string (tB z)] w fun e w' => e = .returned (.bool true) ∧ Below w.heap.size w w' := by
  have c3 : Hid (cmpQ y x = -X) := by show _ = _; rw [cmpQ_swap, c1]
  have c4 : Hid (cmpQ (x - y) 0 = X) := by show _ = _; rw [cmpQ_sub, c1]
  have c6 : Hid (cmpQ (x + z) (y + z) = X) := by show _ = _; rw [cmpQ_add, c1]
  have c7 : Hid (cmpQ (x * z) (y * z) = X * Z) := by show _ = _; rw [cmpQ_mul, c1, c8]
  replace c1 := hide c1
  replace c2 := hide c2
  replace c5 := hide c5
  replace c8 := hide c8
  have h0 := hide t_zero
  have bw : Hid (Below w.heap.size w w) := Below.refl _ _
  have EE := hide env
  clear env
  subst hX
  subst heq
  rcases hZ with rfl | rfl | rfl
  · by_cases hY : Y ≤ 0
    · have hU3 := hU (by decide) hY
      clear hU
      go_enter Tryz.func8, Tryz.ntmps8
      go_wp2_with (first
          | (go_at_call 26; refine (heads_b _ (EE.out.below bw.out)).mono ?_; rintro e w1 ⟨rfl, b1⟩; replace bw := hide (bw.out.then_below b1); clear b1)
          | (go_at_call 27; refine (canon_t _ _ _ (by first | with_reducible rfl | with_reducible exact h0.out) (by with_reducible assumption) (EE.out.below bw.out)).mono ?_; rintro e w1 ⟨rfl, b1⟩; replace bw := hide (bw.out.then_below b1); clear b1)
          | (go_at_call 28; refine (cmp_c _ _ _ _ _ _ (by first | with_reducible rfl | with_reducible exact h0.out) (by first | with_reducible rfl | with_reducible exact h0.out) (by first | with_reducible exact c1.out | with_reducible exact c2.out | with_reducible exact c3.out | with_reducible exact c4.out | with_reducible exact c5.out | with_reducible exact c6.out | with_reducible exact c7.out | with_reducible exact c8.out) (by with_reducible assumption) (by with_reducible assumption) (EE.out.below bw.out)).mono ?_; rintro e w1 ⟨rfl, b1⟩; replace bw := hide (bw.out.then_below b1); clear b1)
          | (go_at_call 30; refine (add_t _ _ _ _ _ (by first | with_reducible rfl | with_reducible exact h0.out) (by first | with_reducible rfl | with_reducible exact h0.out) (by with_reducible assumption) (by with_reducible assumption) (EE.out.below bw.out)).mono ?_; rintro e w1 ⟨rfl, b1⟩; replace bw := hide (bw.out.then_below b1); clear b1)
          | (go_at_call 29; refine (sub_t _ _ _ _ _ (by first | with_reducible rfl | with_reducible exact h0.out) (by first | with_reducible rfl | with_reducible exact h0.out) (by with_reducible assumption) (by with_reducible assumption) (EE.out.below bw.out)).mono ?_; rintro e w1 ⟨rfl, b1⟩; replace bw := hide (bw.out.then_below b1); clear b1)
          | (go_at_call 31; refine (mul_t _ _ _ _ _ (by first | with_reducible rfl | with_reducible exact h0.out) (by first | with_reducible rfl | with_reducible exact h0.out) (by with_reducible assumption) (by with_reducible assumption) (EE.out.below bw.out)).mono ?_; rintro e w1 ⟨rfl, b1⟩; replace bw := hide (bw.out.then_below b1); clear b1))
      go_ret
      exact ⟨rfl, bw.out⟩
    · clear hU
      go_enter Tryz.func8, Tryz.ntmps8
      go_wp2_with (first
          | (go_at_call 26; refine (heads_b _ (EE.out.below bw.out)).mono ?_; rintro e w1 ⟨rfl, b1⟩; replace bw := hide (bw.out.then_below b1); clear b1)
          | (go_at_call 27; refine (canon_t _ _ _ (by first | with_reducible rfl | with_reducible exact h0.out) (by with_reducible assumption) (EE.out.below bw.out)).mono ?_; rintro e w1 ⟨rfl, b1⟩; replace bw := hide (bw.out.then_below b1); clear b1)
          | (go_at_call 28; refine (cmp_c _ _ _ _ _ _ (by first | with_reducible rfl | with_reducible exact h0.out) (by first | with_reducible rfl | with_reducible exact h0.out) (by first | with_reducible exact c1.out | with_reducible exact c2.out | with_reducible exact c3.out | with_reducible exact c4.out | with_reducible exact c5.out | with_reducible exact c6.out | with_reducible exact c7.out | with_reducible exact c8.out) (by with_reducible assumption) (by with_reducible assumption) (EE.out.below bw.out)).mono ?_; rintro e w1 ⟨rfl, b1⟩; replace bw := hide (bw.out.then_below b1); clear b1)
          | (go_at_call 30; refine (add_t _ _ _ _ _ (by first | with_reducible rfl | with_reducible exact h0.out) (by first | with_reducible rfl | with_reducible exact h0.out) (by with_reducible assumption) (by with_reducible assumption) (EE.out.below bw.out)).mono ?_; rintro e w1 ⟨rfl, b1⟩; replace bw := hide (bw.out.then_below b1); clear b1)
          | (go_at_call 29; refine (sub_t _ _ _ _ _ (by first | with_reducible rfl | with_reducible exact h0.out) (by first | with_reducible rfl | with_reducible exact h0.out) (by with_reducible assumption) (by with_reducible assumption) (EE.out.below bw.out)).mono ?_; rintro e w1 ⟨rfl, b1⟩; replace bw := hide (bw.out.then_below b1); clear b1)
          | (go_at_call 31; refine (mul_t _ _ _ _ _ (by first | with_reducible rfl | with_reducible exact h0.out) (by first | with_reducible rfl | with_reducible exact h0.out) (by with_reducible assumption) (by with_reducible assumption) (EE.out.below bw.out)).mono ?_; rintro e w1 ⟨rfl, b1⟩; replace bw := hide (bw.out.then_below b1); clear b1))
      go_ret
      exact ⟨rfl, bw.out⟩
  · by_cases hY : Y ≤ 0
    · have hU3 := hU (by decide) hY
      clear hU
      go_enter Tryz.func8, Tryz.ntmps8
      go_wp2_with (first
          | (go_at_call 26; refine (heads_b _ (EE.out.below bw.out)).mono ?_; rintro e w1 ⟨rfl, b1⟩; replace bw := hide (bw.out.then_below b1); clear b1)
          | (go_at_call 27; refine (canon_t _ _ _ (by first | with_reducible rfl | with_reducible exact h0.out) (by with_reducible assumption) (EE.out.below bw.out)).mono ?_; rintro e w1 ⟨rfl, b1⟩; replace bw := hide (bw.out.then_below b1); clear b1)
          | (go_at_call 28; refine (cmp_c _ _ _ _ _ _ (by first | with_reducible rfl | with_reducible exact h0.out) (by first | with_reducible rfl | with_reducible exact h0.out) (by first | with_reducible exact c1.out | with_reducible exact c2.out | with_reducible exact c3.out | with_reducible exact c4.out | with_reducible exact c5.out | with_reducible exact c6.out | with_reducible exact c7.out | with_reducible exact c8.out) (by with_reducible assumption) (by with_reducible assumption) (EE.out.below bw.out)).mono ?_; rintro e w1 ⟨rfl, b1⟩; replace bw := hide (bw.out.then_below b1); clear b1)
          | (go_at_call 30; refine (add_t _ _ _ _ _ (by first | with_reducible rfl | with_reducible exact h0.out) (by first | with_reducible rfl | with_reducible exact h0.out) (by with_reducible assumption) (by with_reducible assumption) (EE.out.below bw.out)).mono ?_; rintro e w1 ⟨rfl, b1⟩; replace bw := hide (bw.out.then_below b1); clear b1)
          | (go_at_call 29; refine (sub_t _ _ _ _ _ (by first | with_reducible rfl | with_reducible exact h0.out) (by first | with_reducible rfl | with_reducible exact h0.out) (by with_reducible assumption) (by with_reducible assumption) (EE.out.below bw.out)).mono ?_; rintro e w1 ⟨rfl, b1⟩; replace bw := hide (bw.out.then_below b1); clear b1)
          | (go_at_call 31; refine (mul_t _ _ _ _ _ (by first | with_reducible rfl | with_reducible exact h0.out) (by first | with_reducible rfl | with_reducible exact h0.out) (by with_reducible assumption) (by with_reducible assumption) (EE.out.below bw.out)).mono ?_; rintro e w1 ⟨rfl, b1⟩; replace bw := hide (bw.out.then_below b1); clear b1))
      go_ret
      exact ⟨rfl, bw.out⟩
    · clear hU
      go_enter Tryz.func8, Tryz.ntmps8
      go_wp2_with (first
          | (go_at_call 26; refine (heads_b _ (EE.out.below bw.out)).mono ?_; rintro e w1 ⟨rfl, b1⟩; replace bw := hide (bw.out.then_below b1); clear b1)
          | (go_at_call 27; refine (canon_t _ _ _ (by first | with_reducible rfl | with_reducible exact h0.out) (by with_reducible assumption) (EE.out.below bw.out)).mono ?_; rintro e w1 ⟨rfl, b1⟩; replace bw := hide (bw.out.then_below b1); clear b1)
          | (go_at_call 28; refine (cmp_c _ _ _ _ _ _ (by first | with_reducible rfl | with_reducible exact h0.out) (by first | with_reducible rfl | with_reducible exact h0.out) (by first | with_reducible exact c1.out | with_reducible exact c2.out | with_reducible exact c3.out | with_reducible exact c4.out | with_reducible exact c5.out | with_reducible exact c6.out | with_reducible exact c7.out | with_reducible exact c8.out) (by with_reducible assumption) (by with_reducible assumption) (EE.out.below bw.out)).mono ?_; rintro e w1 ⟨rfl, b1⟩; replace bw := hide (bw.out.then_below b1); clear b1)
          | (go_at_call 30; refine (add_t _ _ _ _ _ (by first | with_reducible rfl | with_reducible exact h0.out) (by first | with_reducible rfl | with_reducible exact h0.out) (by with_reducible assumption) (by with_reducible assumption) (EE.out.below bw.out)).mono ?_; rintro e w1 ⟨rfl, b1⟩; replace bw := hide (bw.out.then_below b1); clear b1)
          | (go_at_call 29; refine (sub_t _ _ _ _ _ (by first | with_reducible rfl | with_reducible exact h0.out) (by first | with_reducible rfl | with_reducible exact h0.out) (by with_reducible assumption) (by with_reducible assumption) (EE.out.below bw.out)).mono ?_; rintro e w1 ⟨rfl, b1⟩; replace bw := hide (bw.out.then_below b1); clear b1)
          | (go_at_call 31; refine (mul_t _ _ _ _ _ (by first | with_reducible rfl | with_reducible exact h0.out) (by first | with_reducible rfl | with_reducible exact h0.out) (by with_reducible assumption) (by with_reducible assumption) (EE.out.below bw.out)).mono ?_; rintro e w1 ⟨rfl, b1⟩; replace bw := hide (bw.out.then_below b1); clear b1))
      go_ret
      exact ⟨rfl, bw.out⟩
  · by_cases hY : Y ≤ 0
    · have hU3 := hU (by decide) hY
      clear hU
      go_enter Tryz.func8, Tryz.ntmps8
      go_wp2_with (first
          | (go_at_call 26; refine (heads_b _ (EE.out.below bw.out)).mono ?_; rintro e w1 ⟨rfl, b1⟩; replace bw := hide (bw.out.then_below b1); clear b1)
          | (go_at_call 27; refine (canon_t _ _ _ (by first | with_reducible rfl | with_reducible exact h0.out) (by with_reducible assumption) (EE.out.below bw.out)).mono ?_; rintro e w1 ⟨rfl, b1⟩; replace bw := hide (bw.out.then_below b1); clear b1)
          | (go_at_call 28; refine (cmp_c _ _ _ _ _ _ (by first | with_reducible rfl | with_reducible exact h0.out) (by first | with_reducible rfl | with_reducible exact h0.out) (by first | with_reducible exact c1.out | with_reducible exact c2.out | with_reducible exact c3.out | with_reducible exact c4.out | with_reducible exact c5.out | with_reducible exact c6.out | with_reducible exact c7.out | with_reducible exact c8.out) (by with_reducible assumption) (by with_reducible assumption) (EE.out.below bw.out)).mono ?_; rintro e w1 ⟨rfl, b1⟩; replace bw := hide (bw.out.then_below b1); clear b1)
          | (go_at_call 30; refine (add_t _ _ _ _ _ (by first | with_reducible rfl | with_reducible exact h0.out) (by first | with_reducible rfl | with_reducible exact h0.out) (by with_reducible assumption) (by with_reducible assumption) (EE.out.below bw.out)).mono ?_; rintro e w1 ⟨rfl, b1⟩; replace bw := hide (bw.out.then_below b1); clear b1)
          | (go_at_call 29; refine (sub_t _ _ _ _ _ (by first | with_reducible rfl | with_reducible exact h0.out) (by first | with_reducible rfl | with_reducible exact h0.out) (by with_reducible assumption) (by with_reducible assumption) (EE.out.below bw.out)).mono ?_; rintro e w1 ⟨rfl, b1⟩; replace bw := hide (bw.out.then_below b1); clear b1)
          | (go_at_call 31; refine (mul_t _ _ _ _ _ (by first | with_reducible rfl | with_reducible exact h0.out) (by first | with_reducible rfl | with_reducible exact h0.out) (by with_reducible assumption) (by with_reducible assumption) (EE.out.below bw.out)).mono ?_; rintro e w1 ⟨rfl, b1⟩; replace bw := hide (bw.out.then_below b1); clear b1))
      go_ret
      exact ⟨rfl, bw.out⟩
    · clear hU
      go_enter Tryz.func8, Tryz.ntmps8
      go_wp2_with (first
          | (go_at_call 26; refine (heads_b _ (EE.out.below bw.out)).mono ?_; rintro e w1 ⟨rfl, b1⟩; replace bw := hide (bw.out.then_below b1); clear b1)
          | (go_at_call 27; refine (canon_t _ _ _ (by first | with_reducible rfl | with_reducible exact h0.out) (by with_reducible assumption) (EE.out.below bw.out)).mono ?_; rintro e w1 ⟨rfl, b1⟩; replace bw := hide (bw.out.then_below b1); clear b1)
          | (go_at_call 28; refine (cmp_c _ _ _ _ _ _ (by first | with_reducible rfl | with_reducible exact h0.out) (by first | with_reducible rfl | with_reducible exact h0.out) (by first | with_reducible exact c1.out | with_reducible exact c2.out | with_reducible exact c3.out | with_reducible exact c4.out | with_reducible exact c5.out | with_reducible exact c6.out | with_reducible exact c7.out | with_reducible exact c8.out) (by with_reducible assumption) (by with_reducible assumption) (EE.out.below bw.out)).mono ?_; rintro e w1 ⟨rfl, b1⟩; replace bw := hide (bw.out.then_below b1); clear b1)
          | (go_at_call 30; refine (add_t _ _ _ _ _ (by first | with_reducible rfl | with_reducible exact h0.out) (by first | with_reducible rfl | with_reducible exact h0.out) (by with_reducible assumption) (by with_reducible assumption) (EE.out.below bw.out)).mono ?_; rintro e w1 ⟨rfl, b1⟩; replace bw := hide (bw.out.then_below b1); clear b1)
          | (go_at_call 29; refine (sub_t _ _ _ _ _ (by first | with_reducible rfl | with_reducible exact h0.out) (by first | with_reducible rfl | with_reducible exact h0.out) (by with_reducible assumption) (by with_reducible assumption) (EE.out.below bw.out)).mono ?_; rintro e w1 ⟨rfl, b1⟩; replace bw := hide (bw.out.then_below b1); clear b1)
          | (go_at_call 31; refine (mul_t _ _ _ _ _ (by first | with_reducible rfl | with_reducible exact h0.out) (by first | with_reducible rfl | with_reducible exact h0.out) (by with_reducible assumption) (by with_reducible assumption) (EE.out.below bw.out)).mono ?_; rintro e w1 ⟨rfl, b1⟩; replace bw := hide (bw.out.then_below b1); clear b1))
      go_ret
      exact ⟨rfl, bw.out⟩

theorem order_yes (w : World) (x y z : Rat) (b1 : Bd 1048576 x) (b2 : Bd 1048576 y) (b3 : Bd 1048576 z) (env : Env w) :
    Calls Tryz.prog 8 #[.string (tB x), .string (tB y), .string (tB z)] w fun e w' => e = .returned (.bool true) ∧ Below w.heap.size w w' := by
  have z4 : Sz 0 := Bd.sz (k := 1) (by decide) (by decide) ⟨by decide, by decide⟩
  have z1 := b1.sz (by decide) (by decide)
  have z2 := b2.sz (by decide) (by decide)
  have z3 := b3.sz (by decide) (by decide)
  have z5 := (b1.sub b2).sz (by decide) (by decide)
  have z6 := (b1.add b3).sz (by decide) (by decide)
  have z7 := (b2.add b3).sz (by decide) (by decide)
  have z8 := (b1.mul b3).sz (by decide) (by decide)
  have z9 := (b2.mul b3).sz (by decide) (by decide)
  obtain ⟨x1, x2⟩ := cmpQ_range x y
  obtain ⟨y1, y2⟩ := cmpQ_range y z
  obtain ⟨u1, u2⟩ := cmpQ_range x z
  obtain ⟨v1, v2⟩ := cmpQ_range z 0
  have hZ : cmpQ z 0 = -1 ∨ cmpQ z 0 = 0 ∨ cmpQ z 0 = 1 := by omega
  by_cases h : x = y
  · exact order_eq w x y z h _ _ _ _ rfl rfl rfl rfl ((cmpQ_zero x y).2 h) y1 y2 hZ u1 u2 (fun a b => cmpQ_trans x y z a b) z1 z2 z3 z4 z5 z6 z7 z8 z9 env
  · have hX : cmpQ x y = -1 ∨ cmpQ x y = 1 := by
      have : cmpQ x y ≠ 0 := fun e => h ((cmpQ_zero x y).1 e)
      omega
    exact order_ne w x y z h _ _ _ _ rfl rfl rfl rfl hX y1 y2 hZ u1 u2 (fun a b => cmpQ_trans x y z a b) z1 z2 z3 z4 z5 z6 z7 z8 z9 env
end Go.Proofs.YteghlbhpaaocmaaGreatDoor
