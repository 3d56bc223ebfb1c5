/-
  The document's FloatAdd is the words' sum.
-/
import Derived.Test.YtigbclhkmjcjjaaRefFloat
namespace Go.Proofs.Ytigbclhkmjcjjaa
open Go.RowKit
set_option linter.unusedVariables false
theorem wrap_in10 {a : Int} (h0 : 0 ≤ a) (h : a ≤ 4611686018427387904) : wrap64 a = a := by
  simp only [wrap64]
  omega
theorem near_bound {s d t : Nat} (hs : s < 16777216) (ht : t < 16777216) (hd : d ≤ 38) : s * 2 ^ d + t < 4611686018427387904 := by
  have h1 : 2 ^ d ≤ 274877906944 := Nat.le_trans (Nat.pow_le_pow_right (by omega) hd) (by decide)
  have h2 : s * 2 ^ d ≤ 16777215 * 274877906944 := Nat.mul_le_mul (by omega) h1
  generalize s * 2 ^ d = z at *
  omega
theorem far_bound {s low : Nat} (hs : s < 16777216) (g : 8388608 ≤ s) (hl : low < 16777216) : s * 274877906944 + low < 4611686018427387904 ∧ 24 ≤ (s * 274877906944 + low).log2 := by
  refine ⟨by omega, (Nat.le_log2 (by omega)).2 ?_⟩
  show 16777216 ≤ _
  omega
/-- What parts tells. -/
def PT (w : World) (x s : Nat) (e : Int) : Prop := Calls Try.prog 70 #[.int .i64 (x : Int)] w fun e' w' => e' = .returned (.tuple #[.int .i64 (s : Int), .int .i64 e]) ∧ w' = w
def RT (w : World) (a e : Int) (b : Bool) (r : Nat) : Prop := Calls Try.prog 71 #[.int .i64 a, .int .i64 e, .bool b] w fun e w' => e = .returned (.int .i64 (r : Int)) ∧ w' = w
set_option maxRecDepth 100000 in
set_option maxHeartbeats 1600000 in
theorem add_walk_near (w : World) (x y s t n d r : Nat) (e1 f1 : Int) (hP : (PT w x s e1 ∧ PT w y t f1 ∧ ¬ e1 < f1) ∨ (PT w x t f1 ∧ PT w y s e1 ∧ f1 < e1)) (RC : RT w ((n : Int) + (t : Int)) f1 false r) (en : wrap64 ((s : Int) * 2 ^ d) = (n : Int)) (ed : e1 - f1 = (d : Int)) (d64 : d < 64) (n1 : (d : Int) ≤ 38)
    (n2 : n ≤ 4611686018427387904) (ht : t < 16777216) (q1 : -149 ≤ f1) (q2 : e1 ≤ 105) : Calls Try.prog 61 #[.int .i64 (x : Int), .int .i64 (y : Int)] w fun e w' => e = .returned (.int .i64 (r : Int)) ∧ w' = w := by
  unfold RT at RC
  unfold PT at hP
  rcases hP with ⟨P1, P2, cc⟩ | ⟨P1, P2, cc⟩
  case' inl => have dd : Hid True := trivial
  case' inr => have dd : Hid True := trivial
  all_goals
    replace P1 := hide P1
    replace P2 := hide P2
    replace RC := hide RC
    go_enter Try.func61, Try.ntmps61
    go_wp2_with fail
    refine P1.out.mono ?_
    rintro e w1 ⟨rfl, rfl⟩
    go_wp2_with fail
    refine P2.out.mono ?_
    rintro e w1 ⟨rfl, rfl⟩
    go_wp2_with fail
    refine RC.out.mono ?_
    rintro e w1 ⟨rfl, rfl⟩
    go_wp2
    go_ret
    exact ⟨rfl, rfl⟩
set_option maxRecDepth 100000 in
set_option maxHeartbeats 1600000 in
theorem add_walk_far (w : World) (x y s t n d b low l2 r : Nat) (e1 f1 : Int) (hP : (PT w x s e1 ∧ PT w y t f1 ∧ ¬ e1 < f1) ∨ (PT w x t f1 ∧ PT w y s e1 ∧ f1 < e1)) (RC : ∀ rest, RT w ((n : Int) + (low : Int)) (e1 - 38) rest r) (en : (s : Int) * 274877906944 = (n : Int))
    (ed : e1 - f1 = (d : Int)) (n1 : ¬ (d : Int) ≤ 38) (hb : (30 < (d : Int) - 38 ∧ b = 30) ∨ (¬ 30 < (d : Int) - 38 ∧ (d : Int) - 38 = (b : Int))) (el : (t : Int) / 2 ^ b = (low : Int)) (e3 : wrap64 ((low : Int) * 2 ^ b) = (l2 : Int)) (b64 : b < 64)
    (n2 : n ≤ 4611686018427387904) (ht : t < 16777216) (hs : s < 16777216) (hl : low < 16777216) (q1 : -149 ≤ f1) (q2 : e1 ≤ 105) : Calls Try.prog 61 #[.int .i64 (x : Int), .int .i64 (y : Int)] w fun e w' => e = .returned (.int .i64 (r : Int)) ∧ w' = w := by
  unfold RT at RC
  unfold PT at hP
  replace RC := hide RC
  rcases hb with ⟨c31, rfl⟩ | ⟨c31, edb⟩
  case' inl =>
    have el2 : (t : Int) / 1073741824 = (low : Int) := by
      rw [← el]; rfl
    have e4 : (low : Int) * 1073741824 = (l2 : Int) := by
      rw [← e3, show ((2 : Int) ^ 30) = 1073741824 from rfl]
      exact (wrap_in10 (by omega) (by omega)).symm
    clear el e3
  case' inr =>
    have dd : Hid True := trivial
  all_goals
    rcases hP with ⟨P1, P2, cc⟩ | ⟨P1, P2, cc⟩
    all_goals
      replace P1 := hide P1
      replace P2 := hide P2
      go_enter Try.func61, Try.ntmps61
      go_wp2_with fail
      refine P1.out.mono ?_
      rintro e w1 ⟨rfl, rfl⟩
      go_wp2_with fail
      refine P2.out.mono ?_
      rintro e w1 ⟨rfl, rfl⟩
      go_wp2_with fail
      refine (RC.out _).mono ?_
      rintro e w1 ⟨rfl, rfl⟩
      go_wp2
      go_ret
      exact ⟨rfl, rfl⟩
theorem pow_cast10 (m d : Nat) : (m : Int) * 2 ^ d = ((m * 2 ^ d : Nat) : Int) := by simp
theorem wrap_mul10 {m d : Nat} (h : m * 2 ^ d ≤ 4611686018427387904) : wrap64 ((m : Int) * 2 ^ d) = ((m * 2 ^ d : Nat) : Int) := by
  rw [pow_cast10]
  generalize m * 2 ^ d = n at *
  exact wrap_in10 (by omega) (by omega)
theorem quo_cast10 (m b : Nat) : (m : Int) / 2 ^ b = ((m / 2 ^ b : Nat) : Int) := by rw [Int.natCast_ediv, Int.natCast_pow]; rfl
theorem le_of_sum10 {a t c : Nat} (h : a + t < c) : a ≤ c := by omega
theorem add_near10 (w : World) (x y X Y r d : Nat) (hX : X < FL.inf) (hY : Y < FL.inf) (hle : FL.ex Y ≤ FL.ex X) (hr : FL.fadd X Y = r) (hd : FL.ex X - FL.ex Y = d) (near : d ≤ 38)
    (hP : (PT w x (FL.mg X) (-149 + (FL.ex X : Int)) ∧ PT w y (FL.mg Y) (-149 + (FL.ex Y : Int)) ∧ ¬ (-149 + (FL.ex X : Int)) < (-149 + (FL.ex Y : Int))) ∨ (PT w x (FL.mg Y) (-149 + (FL.ex Y : Int)) ∧ PT w y (FL.mg X) (-149 + (FL.ex X : Int)) ∧ (-149 + (FL.ex Y : Int)) < (-149 + (FL.ex X : Int)))) :
    Calls Try.prog 61 #[.int .i64 (x : Int), .int .i64 (y : Int)] w fun e w' => e = .returned (.int .i64 (r : Int)) ∧ w' = w := by
  have m1 : FL.mg X < 16777216 := FL.mg_lt X
  have m2 : FL.mg Y < 16777216 := FL.mg_lt Y
  have b1 := ex_lt hX
  have ed : (-149 + (FL.ex X : Int)) - (-149 + (FL.ex Y : Int)) = (d : Int) := by omega
  have k1 : -1000 ≤ -149 + (FL.ex Y : Int) := by omega
  have k2 : -149 + (FL.ex Y : Int) ≤ 1000 := by omega
  have k3 : d < 64 := by omega
  have k4 : (d : Int) ≤ 38 := by omega
  have k5 : -149 ≤ -149 + (FL.ex Y : Int) := by omega
  have k6 : -149 + (FL.ex X : Int) ≤ 105 := by omega
  have nb := near_bound m1 m2 near
  have AN := FL.add_near hX hY hle
  rw [hd] at AN
  have RC := round_calls w (FL.mg X * 2 ^ d + FL.mg Y) (-149 + (FL.ex Y : Int)) false nb k1 k2 (fun c => by cases c)
  rw [← AN, hr] at RC
  exact add_walk_near w x y (FL.mg X) (FL.mg Y) (FL.mg X * 2 ^ d) d r _ _ hP RC (wrap_mul10 (le_of_sum10 nb)) ed k3 k4 (le_of_sum10 nb) m2 k5 k6
theorem add_far10 (w : World) (x y X Y r d : Nat) (hX : X < FL.inf) (hY : Y < FL.inf) (hle : FL.ex Y ≤ FL.ex X) (hr : FL.fadd X Y = r) (hd : FL.ex X - FL.ex Y = d) (far : ¬ d ≤ 38)
    (hP : (PT w x (FL.mg X) (-149 + (FL.ex X : Int)) ∧ PT w y (FL.mg Y) (-149 + (FL.ex Y : Int)) ∧ ¬ (-149 + (FL.ex X : Int)) < (-149 + (FL.ex Y : Int))) ∨ (PT w x (FL.mg Y) (-149 + (FL.ex Y : Int)) ∧ PT w y (FL.mg X) (-149 + (FL.ex X : Int)) ∧ (-149 + (FL.ex Y : Int)) < (-149 + (FL.ex X : Int)))) :
    Calls Try.prog 61 #[.int .i64 (x : Int), .int .i64 (y : Int)] w fun e w' => e = .returned (.int .i64 (r : Int)) ∧ w' = w := by
  have m1 : FL.mg X < 16777216 := FL.mg_lt X
  have m2 : FL.mg Y < 16777216 := FL.mg_lt Y
  have b1 := ex_lt hX
  have ed : (-149 + (FL.ex X : Int)) - (-149 + (FL.ex Y : Int)) = (d : Int) := by omega
  have k1 : -1000 ≤ -149 + (FL.ex X : Int) - 38 := by omega
  have k2 : -149 + (FL.ex X : Int) - 38 ≤ 1000 := by omega
  have k4 : ¬ (d : Int) ≤ 38 := by omega
  have k5 : -149 ≤ -149 + (FL.ex Y : Int) := by omega
  have k6 : -149 + (FL.ex X : Int) ≤ 105 := by omega
  have k7 : FL.ex Y + 38 < FL.ex X := by omega
  have g1 := FL.mg_ge (x := X) (by omega)
  obtain ⟨b, hb⟩ : ∃ b, b = if 30 < d - 38 then 30 else d - 38 := ⟨_, rfl⟩
  have hb1 : b ≤ 30 := by rw [hb]; split <;> omega
  have hb2 : (30 < (d : Int) - 38 ∧ b = 30) ∨ (¬ 30 < (d : Int) - 38 ∧ (d : Int) - 38 = (b : Int)) := by
    by_cases c : 30 < d - 38
    · rw [if_pos c] at hb; exact .inl ⟨by omega, hb⟩
    · rw [if_neg c] at hb; exact .inr ⟨by omega, by omega⟩
  have b64 : b < 64 := by omega
  obtain ⟨low, hlow⟩ : ∃ low, FL.mg Y / 2 ^ b = low := ⟨_, rfl⟩
  have hlo : low < 16777216 := by
    have : low ≤ FL.mg Y := by rw [← hlow]; exact Nat.div_le_self _ _
    clear hlow
    omega
  have hmb : low * 2 ^ b ≤ 4611686018427387904 := by
    have : low * 2 ^ b ≤ FL.mg Y := by rw [← hlow]; exact Nat.div_mul_le_self _ _
    exact Nat.le_trans this (Nat.le_trans (Nat.le_of_lt m2) (by decide))
  have el : (FL.mg Y : Int) / 2 ^ b = (low : Int) := by rw [quo_cast10, hlow]
  obtain ⟨fb, fl⟩ := far_bound m1 g1 hlo
  obtain ⟨n, hn⟩ : ∃ n, FL.mg X * 274877906944 = n := ⟨_, rfl⟩
  have hn2 : FL.mg X * 2 ^ 38 = n := by rw [← hn]
  rw [hn] at fb fl
  have shp : 0 < FL.sh (n + low) (-149 + (FL.ex X : Int) - 38) := by
    unfold FL.sh
    generalize (n + low).log2 = z at *
    clear hlow hmb el hn hn2 fb
    omega
  have RC : ∀ rest, RT w ((n : Int) + (low : Int)) (-149 + (FL.ex X : Int) - 38) rest r := fun rest => by
    have R := round_calls w (n + low) (-149 + (FL.ex X : Int) - 38) rest fb k1 k2 (fun _ => shp)
    have A := FL.add_far (rest := rest) hX hY k7 hlo
    rw [hn2, hr] at A
    rw [← A] at R
    exact R
  exact add_walk_far w x y (FL.mg X) (FL.mg Y) n d b low _ r _ _ hP RC (by rw [← hn, Int.natCast_mul]; rfl) ed k4 hb2 el (wrap_mul10 hmb) b64 (le_of_sum10 fb) m2 m1 hlo k5 k6
theorem radd_calls10 (w : World) (x y : Nat) (hx : x < FL.inf) (hy : y < FL.inf) : Calls Try.prog 61 #[.int .i64 (x : Int), .int .i64 (y : Int)] w fun e w' => e = .returned (.int .i64 (FL.fadd x y : Nat)) ∧ w' = w := by
  by_cases c : FL.ex x < FL.ex y
  · have hP := Or.inr (a := (PT w x (FL.mg y) (-149 + (FL.ex y : Int)) ∧ PT w y (FL.mg x) (-149 + (FL.ex x : Int)) ∧ ¬ (-149 + (FL.ex y : Int)) < (-149 + (FL.ex x : Int)))) (show PT w x (FL.mg x) (-149 + (FL.ex x : Int)) ∧ PT w y (FL.mg y) (-149 + (FL.ex y : Int)) ∧ (-149 + (FL.ex x : Int)) < (-149 + (FL.ex y : Int)) from ⟨parts_calls w x hx, parts_calls w y hy, by omega⟩)
    by_cases near : FL.ex y - FL.ex x ≤ 38
    · exact add_near10 w x y y x _ _ hy hx (by omega) (FL.add_comm' hy hx) rfl near hP
    · exact add_far10 w x y y x _ _ hy hx (by omega) (FL.add_comm' hy hx) rfl near hP
  · have hP := Or.inl (b := (PT w x (FL.mg y) (-149 + (FL.ex y : Int)) ∧ PT w y (FL.mg x) (-149 + (FL.ex x : Int)) ∧ (-149 + (FL.ex y : Int)) < (-149 + (FL.ex x : Int)))) (show PT w x (FL.mg x) (-149 + (FL.ex x : Int)) ∧ PT w y (FL.mg y) (-149 + (FL.ex y : Int)) ∧ ¬ (-149 + (FL.ex x : Int)) < (-149 + (FL.ex y : Int)) from ⟨parts_calls w x hx, parts_calls w y hy, by omega⟩)
    by_cases near : FL.ex x - FL.ex y ≤ 38
    · exact add_near10 w x y x y _ _ hx hy (by omega) rfl rfl near hP
    · exact add_far10 w x y x y _ _ hx hy (by omega) rfl rfl near hP
end Go.Proofs.Ytigbclhkmjcjjaa
