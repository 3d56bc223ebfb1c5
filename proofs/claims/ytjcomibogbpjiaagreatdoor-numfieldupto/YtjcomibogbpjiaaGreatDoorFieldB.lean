/-
  The laws of sums and of products, of canonical texts.
-/
import Derived.Test.YtjcomibogbpjiaaGreatDoorFieldA
/- ==== FieldLaw ==== -/
namespace Go.Proofs.YtjcomibogbpjiaaGreatDoor
open Go.RowKit
set_option linter.unusedVariables false
theorem add_c (w : World) (s t : ByteArray) (x y r : Rat) (hs : s = tB x) (ht : t = tB y) (hr : x + y = r) (zs : Sz x) (zt : Sz y) (env : Env w) :
    Calls Tryz.prog 6 #[.string s, .string t] w fun e w' => e = .returned (.string (tB r)) ∧ Below w.heap.size w w' := by
  rw [← hr]
  exact add_t w s t x y hs ht zs zt env
theorem sub_c (w : World) (s t : ByteArray) (x y r : Rat) (hs : s = tB x) (ht : t = tB y) (hr : x - y = r) (zs : Sz x) (zt : Sz y) (env : Env w) :
    Calls Tryz.prog 16 #[.string s, .string t] w fun e w' => e = .returned (.string (tB r)) ∧ Below w.heap.size w w' := by
  rw [← hr]
  exact sub_t w s t x y hs ht zs zt env
theorem mul_c (w : World) (s t : ByteArray) (x y r : Rat) (hs : s = tB x) (ht : t = tB y) (hr : x * y = r) (zs : Sz x) (zt : Sz y) (env : Env w) :
    Calls Tryz.prog 9 #[.string s, .string t] w fun e w' => e = .returned (.string (tB r)) ∧ Below w.heap.size w w' := by
  rw [← hr]
  exact mul_t w s t x y hs ht zs zt env
theorem quo_c (w : World) (s t : ByteArray) (x y r : Rat) (hs : s = tB x) (ht : t = tB y) (hr : x / y = r ∧ y ≠ 0) (zs : Sz x) (zt : Sz y) (env : Env w) :
    Calls Tryz.prog 10 #[.string s, .string t] w fun e w' => e = .returned (.string (tB r)) ∧ Below w.heap.size w w' := by
  rw [← hr.1]
  exact quo_t w s t x y hs ht hr.2 zs zt env
set_option maxRecDepth 100000 in
set_option maxHeartbeats 8000000 in
theorem sums_t (w : World) (x y z : Rat) (z1 : Sz x) (z2 : Sz y) (z3 : Sz z) (z4 : Sz 0) (z5 : Sz (x + y)) (z6 : Sz (y + z)) (z7 : Sz (x + y + z)) (z8 : Sz (x - y)) (env : Env w) :
    Calls Tryz.prog 7 #[.string (tB x), .string (tB y), .string (tB z)] w fun e w' => e = .returned (.bool true) ∧ Below w.heap.size w w' := by
  have e1 : Hid (y + x = x + y) := Rat.add_comm _ _
  have e2 : Hid (x + (y + z) = x + y + z) := (Rat.add_assoc _ _ _).symm
  have e3 : Hid (x + 0 = x) := by show _ = _; grind
  have e4 : Hid (x + y - y = x) := by show _ = _; grind
  have e5 : Hid (x - y + y = x) := by show _ = _; grind
  have e6 : Hid (x - x = 0) := by show _ = _; grind
  have h0 := hide t_zero
  have h1 := hide t_one
  have e0 : tB 0 = ⟨#[48]⟩ := t_zero.symm
  have bw : Hid (Below w.heap.size w w) := Below.refl _ _
  have EE := hide env
  clear env
  go_enter Tryz.func7, Tryz.ntmps7
  go_wp2_with (first
    | (go_at_call 5; refine (canon_t _ _ _ (by first | with_reducible rfl | with_reducible exact h0.out | with_reducible exact h1.out) (by with_reducible assumption) (EE.out.below bw.out)).mono ?_; rintro e w1 ⟨rfl, b1⟩; replace bw := hide (bw.out.then_below b1); clear b1)
    | (go_at_call 6; refine (add_c _ _ _ _ _ _ (by first | with_reducible rfl | with_reducible exact h0.out | with_reducible exact h1.out) (by first | with_reducible rfl | with_reducible exact h0.out | with_reducible exact h1.out) (by first | with_reducible exact e1.out | with_reducible exact e2.out | with_reducible exact e3.out | with_reducible exact e5.out | with_reducible rfl) (by with_reducible assumption) (by with_reducible assumption) (EE.out.below bw.out)).mono ?_; rintro e w1 ⟨rfl, b1⟩; replace bw := hide (bw.out.then_below b1); clear b1)
    | (go_at_call 16; refine (sub_c _ _ _ _ _ _ (by first | with_reducible rfl | with_reducible exact h0.out | with_reducible exact h1.out) (by first | with_reducible rfl | with_reducible exact h0.out | with_reducible exact h1.out) (by first | with_reducible exact e4.out | with_reducible exact e6.out | with_reducible rfl) (by with_reducible assumption) (by with_reducible assumption) (EE.out.below bw.out)).mono ?_; rintro e w1 ⟨rfl, b1⟩; replace bw := hide (bw.out.then_below b1); clear b1))
  go_ret
  exact ⟨rfl, bw.out⟩
set_option maxRecDepth 100000 in
set_option maxHeartbeats 8000000 in
theorem products_t (w : World) (x y z : Rat) (hy : y ≠ 0) (z1 : Sz x) (z2 : Sz y) (z3 : Sz z) (z4 : Sz 0) (z5 : Sz 1) (z6 : Sz (x * y)) (z7 : Sz (y * z)) (z8 : Sz (x * y * z)) (z9 : Sz (y + z)) (z10 : Sz (x * z)) (z11 : Sz (x * (y + z))) (z12 : Sz (x / y)) (env : Env w) :
    Calls Tryz.prog 8 #[.string (tB x), .string (tB y), .string (tB z)] w fun e w' => e = .returned (.bool true) ∧ Below w.heap.size w w' := by
  have f1 : Hid (y * x = x * y) := Rat.mul_comm _ _
  have f2 : Hid (x * (y * z) = x * y * z) := (Rat.mul_assoc _ _ _).symm
  have f3 : Hid (x * 1 = x) := Rat.mul_one _
  have f4 : Hid (x * y + x * z = x * (y + z)) := (Rat.mul_add _ _ _).symm
  have f5 : Hid (x * y / y = x ∧ y ≠ 0) := ⟨by grind, hy⟩
  have f6 : Hid (x / y * y = x) := by show _ = _; grind
  have f7 : Hid (y ≠ 0) := hy
  have h0 := hide t_zero
  have h1 := hide t_one
  have bw : Hid (Below w.heap.size w w) := Below.refl _ _
  have EE := hide env
  clear env
  have hne : tB y ≠ ⟨#[48]⟩ := by rw [t_zero]; exact tB_ne hy
  obtain ⟨o2, o3, o4, o5, o6⟩ := str_ne2 hne
  obtain ⟨i1, i2, i3, i4⟩ := str_ne (S := tB y) (v := [48]) rfl (fun e => hne (by
    have := str_is e
    exact this))
  clear hne hy
  go_enter Tryz.func8, Tryz.ntmps8
  go_wp2_with (first
    | (go_at_call 5; refine (canon_t _ _ _ (by first | with_reducible rfl | with_reducible exact h0.out | with_reducible exact h1.out) (by with_reducible assumption) (EE.out.below bw.out)).mono ?_; rintro e w1 ⟨rfl, b1⟩; replace bw := hide (bw.out.then_below b1); clear b1)
    | (go_at_call 6; refine (add_c _ _ _ _ _ _ (by first | with_reducible rfl | with_reducible exact h0.out | with_reducible exact h1.out) (by first | with_reducible rfl | with_reducible exact h0.out | with_reducible exact h1.out) (by first | with_reducible exact f4.out | with_reducible rfl) (by with_reducible assumption) (by with_reducible assumption) (EE.out.below bw.out)).mono ?_; rintro e w1 ⟨rfl, b1⟩; replace bw := hide (bw.out.then_below b1); clear b1)
    | (go_at_call 9; refine (mul_c _ _ _ _ _ _ (by first | with_reducible rfl | with_reducible exact h0.out | with_reducible exact h1.out) (by first | with_reducible rfl | with_reducible exact h0.out | with_reducible exact h1.out) (by first | with_reducible exact f1.out | with_reducible exact f2.out | with_reducible exact f3.out | with_reducible exact f6.out | with_reducible rfl) (by with_reducible assumption) (by with_reducible assumption) (EE.out.below bw.out)).mono ?_; rintro e w1 ⟨rfl, b1⟩; replace bw := hide (bw.out.then_below b1); clear b1)
    | (go_at_call 10; refine (quo_c _ _ _ _ _ _ (by first | with_reducible rfl | with_reducible exact h0.out | with_reducible exact h1.out) (by first | with_reducible rfl | with_reducible exact h0.out | with_reducible exact h1.out) (by first | with_reducible exact f5.out | exact ⟨rfl, f7.out⟩) (by with_reducible assumption) (by with_reducible assumption) (EE.out.below bw.out)).mono ?_; rintro e w1 ⟨rfl, b1⟩; replace bw := hide (bw.out.then_below b1); clear b1))
  go_ret
  exact ⟨rfl, bw.out⟩
set_option maxRecDepth 100000 in
set_option maxHeartbeats 8000000 in
theorem products_zero (w : World) (x y z : Rat) (hy : y = 0) (z1 : Sz x) (z2 : Sz y) (z3 : Sz z) (z4 : Sz 0) (z5 : Sz 1) (z6 : Sz (x * y)) (z7 : Sz (y * z)) (z8 : Sz (x * y * z)) (z9 : Sz (y + z)) (z10 : Sz (x * z)) (z11 : Sz (x * (y + z))) (env : Env w) :
    Calls Tryz.prog 8 #[.string (tB x), .string ⟨#[48]⟩, .string (tB z)] w fun e w' => e = .returned (.bool true) ∧ Below w.heap.size w w' := by
  have f1 : Hid (y * x = x * y) := Rat.mul_comm _ _
  have f2 : Hid (x * (y * z) = x * y * z) := (Rat.mul_assoc _ _ _).symm
  have f3 : Hid (x * 1 = x) := Rat.mul_one _
  have f4 : Hid (x * y + x * z = x * (y + z)) := (Rat.mul_add _ _ _).symm
  have h0 : Hid ((⟨#[48]⟩ : ByteArray) = tB y) := by show _ = _; rw [hy]; exact t_zero
  have h1 := hide t_one
  have bw : Hid (Below w.heap.size w w) := Below.refl _ _
  have EE := hide env
  clear env
  have q0 : Hid (∀ W, Env W → Calls Tryz.prog 17 #[.string (tB x), .string ⟨#[48]⟩] W fun e w' => e = .returned (.tuple #[.string ⟨#[]⟩, .int .i64 2]) ∧ Below W.heap.size W w') := by
    intro W hW
    obtain ⟨⟨m, hM⟩, hT, hP⟩ := hW
    have h := numQuo_calls W (tB x) ⟨#[48]⟩ _ [48] rfl rfl (by rw [slen]; exact z1) (by decide) m hM hT hP
    have c0 : CanT [48] := (canB_iff _).1 (by decide +kernel)
    rw [quoT_zero ((canB_iff _).1 (tB_can x)) c0 (by decide +kernel)] at h
    exact h
  clear hy
  go_enter Tryz.func8, Tryz.ntmps8
  go_wp2_with (first
    | (go_at_call 5; refine (canon_t _ _ _ (by first | with_reducible rfl | with_reducible exact h0.out | with_reducible exact h1.out) (by with_reducible assumption) (EE.out.below bw.out)).mono ?_; rintro e w1 ⟨rfl, b1⟩; replace bw := hide (bw.out.then_below b1); clear b1)
    | (go_at_call 6; refine (add_c _ _ _ _ _ _ (by first | with_reducible rfl | with_reducible exact h0.out | with_reducible exact h1.out) (by first | with_reducible rfl | with_reducible exact h0.out | with_reducible exact h1.out) (by first | with_reducible exact f4.out | with_reducible rfl) (by with_reducible assumption) (by with_reducible assumption) (EE.out.below bw.out)).mono ?_; rintro e w1 ⟨rfl, b1⟩; replace bw := hide (bw.out.then_below b1); clear b1)
    | (go_at_call 9; refine (mul_c _ _ _ _ _ _ (by first | with_reducible rfl | with_reducible exact h0.out | with_reducible exact h1.out) (by first | with_reducible rfl | with_reducible exact h0.out | with_reducible exact h1.out) (by first | with_reducible exact f1.out | with_reducible exact f2.out | with_reducible exact f3.out | with_reducible rfl) (by with_reducible assumption) (by with_reducible assumption) (EE.out.below bw.out)).mono ?_; rintro e w1 ⟨rfl, b1⟩; replace bw := hide (bw.out.then_below b1); clear b1)
    | (go_at_call 17; refine (q0.out _ (EE.out.below bw.out)).mono ?_; rintro e w1 ⟨rfl, b1⟩; replace bw := hide (bw.out.then_below b1); clear b1)
    | (go_at_call 12; refine (no_b _ _).mono ?_; rintro e w2 ⟨rfl, hw⟩; replace hw := hw.symm; subst hw))
  go_ret
  exact ⟨rfl, bw.out⟩
end Go.Proofs.YtjcomibogbpjiaaGreatDoor
