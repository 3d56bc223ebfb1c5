/-
  The document's parts, round, FloatAdd, FloatMul and FloatQuo.
-/
import Derived.Test.YtigbclhkmjcjjaaRefFlt2
import Derived.Test.YtigbclhkmjcjjaaOrdMem
namespace Go.Proofs.Ytigbclhkmjcjjaa
open Go.RowKit
set_option linter.unusedVariables false
theorem and_nat64 (a b : Nat) (ha : a < 9223372036854775808) (hb : b < 9223372036854775808) : bits .and .i64 (a : Int) (b : Int) = ((a &&& b : Nat) : Int) := by
  have h1 : (BitVec.ofInt 64 (a : Int)).toNat = a := by rw [BitVec.ofInt_natCast, BitVec.toNat_ofNat]; exact Nat.mod_eq_of_lt (by omega)
  have h2 : (BitVec.ofInt 64 (b : Int)).toNat = b := by rw [BitVec.ofInt_natCast, BitVec.toNat_ofNat]; exact Nat.mod_eq_of_lt (by omega)
  show IntKind.i64.wrap ((BitVec.ofInt 64 (a : Int) &&& BitVec.ofInt 64 (b : Int)).toNat : Int) = _
  have h3 : a &&& b ≤ a := Nat.and_le_left
  rw [BitVec.toNat_and, h1, h2, IntKind.wrap_i64]
  omega
theorem or_nat64 (a b : Nat) (ha : a < 9223372036854775808) (hb : b < 9223372036854775808) : bits .or .i64 (a : Int) (b : Int) = ((a ||| b : Nat) : Int) := by
  have h1 : (BitVec.ofInt 64 (a : Int)).toNat = a := by rw [BitVec.ofInt_natCast, BitVec.toNat_ofNat]; exact Nat.mod_eq_of_lt (by omega)
  have h2 : (BitVec.ofInt 64 (b : Int)).toNat = b := by rw [BitVec.ofInt_natCast, BitVec.toNat_ofNat]; exact Nat.mod_eq_of_lt (by omega)
  show IntKind.i64.wrap ((BitVec.ofInt 64 (a : Int) ||| BitVec.ofInt 64 (b : Int)).toNat : Int) = _
  have h3 : a ||| b < 2 ^ 63 := Nat.or_lt_two_pow (by omega) (by omega)
  rw [BitVec.toNat_or, h1, h2, IntKind.wrap_i64]
  omega
theorem and_mask (x s : Nat) (hx : x < 9223372036854775808) (hs : s ≤ 62) (m : Int) (hm : m = ((2 ^ s - 1 : Nat) : Int)) : bits .and .i64 (x : Int) m = ((x % 2 ^ s : Nat) : Int) := by
  have : 2 ^ s ≤ 2 ^ 62 := Nat.pow_le_pow_right (by omega) hs
  rw [hm, and_nat64 x (2 ^ s - 1) hx (by omega), Nat.and_two_pow_sub_one_eq_mod]
theorem and_frac (x : Nat) (hx : x < 9223372036854775808) : bits .and .i64 (x : Int) 8388607 = ((x % 8388608 : Nat) : Int) := and_mask x 23 hx (by decide) _ rfl
theorem or_frac {b : Nat} (hb : b < 8388608) : bits .or .i64 (b : Int) 8388608 = ((8388608 + b : Nat) : Int) := by
  have h := or_nat64 b 8388608 (by omega) (by decide)
  have e : 2 ^ 23 * 1 + b = 2 ^ 23 * 1 ||| b := Nat.two_pow_add_eq_or_of_lt (by omega) 1
  rw [show (2 : Nat) ^ 23 * 1 = 8388608 by decide] at e
  rw [Nat.or_comm, ← e] at h
  exact h
theorem or_word {a b : Nat} (ha : a < 1000) (hb : b < 8388608) : bits .or .i64 ((a : Int) * 8388608) (b : Int) = ((a * 8388608 + b : Nat) : Int) := by
  have h := or_nat64 (a * 8388608) b (by omega) (by omega)
  have e : 2 ^ 23 * a + b = 2 ^ 23 * a ||| b := Nat.two_pow_add_eq_or_of_lt (by omega) a
  rw [show (2 : Nat) ^ 23 = 8388608 by decide, Nat.mul_comm] at e
  rw [← e] at h
  exact h
theorem wrap_nat10 {P : Nat} (h : P ≤ 4611686018427387904) : wrap64 (P : Int) = (P : Int) := by
  simp only [wrap64]
  omega
theorem wrap_pred10 {P : Nat} (h0 : 0 < P) (h : P ≤ 4611686018427387904) : wrap64 ((P : Int) - 1) = ((P - 1 : Nat) : Int) := by
  simp only [wrap64]
  omega
theorem ret_two10 {a b c d : Int} (h1 : a = c) (h2 : b = d) : Ending.returned (.tuple #[.int .i64 a, .int .i64 b]) = .returned (.tuple #[.int .i64 c, .int .i64 d]) := by rw [h1, h2]
theorem ret_one10 {a b : Int} (h : a = b) : Ending.returned (.int .i64 a) = .returned (.int .i64 b) := by rw [h]
set_option maxHeartbeats 1600000 in
theorem parts_calls (w : World) (x : Nat) (hx : x < FL.inf) : Calls Try.prog 70 #[.int .i64 (x : Int)] w fun e w' => e = .returned (.tuple #[.int .i64 (FL.mg x : Nat), .int .i64 (-149 + (FL.ex x : Int))]) ∧ w' = w := by
  have hi := FL.inf_eq
  have a1 := and_frac x (by omega)
  have a2 := or_frac (b := x % 8388608) (Nat.mod_lt _ (by decide))
  have em : FL.mg x = if x < 8388608 then x else 8388608 + x % 8388608 := rfl
  have ee : FL.ex x = x / 8388608 - 1 := rfl
  generalize hm : x % 8388608 = m at a1 a2 em
  generalize FL.mg x = mx at em ⊢
  generalize FL.ex x = sx at ee ⊢
  replace hm := hide hm
  replace em := hide em
  replace ee := hide ee
  by_cases c : x < 8388608
  · have d : ((x : Int) / 8388608 == 0) = true := by rw [beq_iff_eq]; omega
    clear a2
    go_enter Try.func70, Try.ntmps70
    go_wp2
    go_ret2
    exact ⟨ret_two10 (by have := em.out; have := hm.out; rw [if_pos c] at *; omega) (by have := ee.out; omega), rfl⟩
  · have d : ((x : Int) / 8388608 == 0) = false := by rw [beq_eq_false_iff_ne]; omega
    have e1 : ((8388608 + m : Nat) : Int) = 8388608 + (m : Int) := by omega
    rw [e1] at a2
    go_enter Try.func70, Try.ntmps70
    go_wp2
    go_ret2
    exact ⟨ret_two10 (by have := em.out; rw [if_neg c] at this; omega) (by have := ee.out; omega), rfl⟩
set_option maxRecDepth 100000 in
set_option maxHeartbeats 4000000 in
theorem round_calls (w : World) (sig : Nat) (exp : Int) (rest : Bool) (h1 : sig < 4611686018427387904) (h2 : -1000 ≤ exp) (h3 : exp ≤ 1000) (hr : rest = true → 0 < FL.sh sig exp) :
    Calls Try.prog 71 #[.int .i64 (sig : Int), .int .i64 exp, .bool rest] w fun e w' => e = .returned (.int .i64 (FL.rd (2 * sig + rest.toNat) (exp + 148) : Nat)) ∧ w' = w := by
  obtain ⟨T, hT⟩ : ∃ T, FL.rd (2 * sig + rest.toNat) (exp + 148) = T := ⟨_, rfl⟩
  rw [hT]
  replace hT := hide hT
  obtain ⟨S, hS⟩ : ∃ S, FL.sh sig exp = S := ⟨_, rfl⟩
  have iff := fun k => FL.sh_iff sig k exp
  rw [hS] at iff
  replace iff := hide iff
  replace hr := hide hr
  replace hS := hide hS
  go_enter Try.func71, Try.ntmps71
  go_wp2
  go_loop [7] (fun t => ∃ k : Nat, t = .int .i64 (k : Int) ∧ k ≤ S ∧ k ≤ 62) (fun t => S - (intOf t).toNat)
  case atStart => exact ⟨0, rfl, Nat.zero_le _, by omega⟩
  case round =>
    obtain ⟨k, rfl, k1, k2⟩ := hrel
    obtain ⟨Q, hQ⟩ : ∃ Q, sig / 2 ^ k = Q := ⟨_, rfl⟩
    have eq : (sig : Int) / 2 ^ k = (Q : Int) := by rw [← hQ, Int.natCast_ediv, Int.natCast_pow]; rfl
    have hi64 : k < 64 := by omega
    have it := iff.out k
    rw [hQ] at it
    replace hQ := hide hQ
    replace k2 := hide k2
    replace h1 := hide h1
    by_cases hk : k < S
    · have g := it.2 hk
      replace it := hide it
      have TN : Hid (¬ (k < 62) → T = 0) := by
        intro c
        rw [← hT.out]
        have e : k = 62 := by have := k2.out; omega
        have hr1 : rest.toNat ≤ 1 := by cases rest <;> decide
        refine FL.rd_none (by have := h1.out; omega) ?_
        rcases g with g | g
        · exfalso
          have : sig / 2 ^ k = 0 := by
            rw [e]
            exact Nat.div_eq_of_lt (by have := h1.out; omega)
          have := hQ.out
          omega
        · omega
      by_cases c : 16777216 ≤ Q
      case' pos =>
        have d : (16777216 : Int) ≤ (Q : Int) := by omega
      case' neg =>
        have d : ¬ (16777216 : Int) ≤ (Q : Int) := by omega
        have d2 : exp + (k : Int) < -149 := by omega
      all_goals
        by_cases z : k < 62
        · have z1 : ¬ 62 < (k : Int) + 1 := by omega
          go_wp2
          go_round
          case rel => exact ⟨k + 1, by go_num, by omega, by omega⟩
          case measure => simp [intOf]; omega
        · have z1 : 62 < (k : Int) + 1 := by have := k2.out; omega
          go_wp2
          go_ret
          exact ⟨ret_one10 (by rw [TN.out z]; rfl), rfl⟩
    · have g := fun c => hk (it.1 c)
      replace it := hide it
      have d : ¬ (16777216 : Int) ≤ (Q : Int) := by intro c; exact g (.inl (by omega))
      have d2 : ¬ exp + (k : Int) < -149 := by intro c; exact g (.inr c)
      obtain rfl : k = S := by omega
      clear g k1 hk it iff
      obtain ⟨p, hp⟩ : ∃ p : Nat, exp + (k : Int) = (p : Int) - 149 := ⟨(exp + k + 149).toNat, by omega⟩
      have hp2 : p ≤ 1300 := by have := k2.out; omega
      rcases Nat.eq_zero_or_pos k with k0 | k0
      case' inl =>
        subst k0
        obtain rfl : exp = (p : Int) - 149 := by simpa using hp
        have hsq : sig = Q := by have := hQ.out; simpa using this
        subst hsq
        have hrf : rest = false := by
          cases hb : rest
          · rfl
          · have := hr.out hb
            have := hS.out
            omega
        subst hrf
        have V : Hid (FL.rd sig (p : Int) = T) := by
          show _ = _
          rw [← hT.out, Bool.toNat_false, Nat.add_zero, Nat.mul_comm 2, FL.rd_twice]
          congr 1
          omega
        obtain ⟨sg, rfl⟩ : ∃ x, x = sig := ⟨_, rfl⟩
        have hsg : Hid True := trivial
        have R := V.out
        have R2 : sg ≤ 16777216 := by omega
        clear eq hp hT V
      case' inr =>
        obtain ⟨L, hL⟩ : ∃ L, sig % 2 ^ k = L := ⟨_, rfl⟩
        obtain ⟨H, hH⟩ : ∃ H, 2 ^ (k - 1) = H := ⟨_, rfl⟩
        have kk := k2.out
        have p1 : 2 ^ k ≤ 4611686018427387904 := Nat.le_trans (Nat.pow_le_pow_right (by omega) kk) (by decide)
        have p2 : 2 ^ (k - 1) ≤ 4611686018427387904 := Nat.le_trans (Nat.pow_le_pow_right (by omega) (by omega : k - 1 ≤ 62)) (by decide)
        have p3 := FL.pow2 k
        have w1 : wrap64 ((2 : Int) ^ k) = ((2 ^ k : Nat) : Int) := by
          rw [show ((2 : Int) ^ k) = ((2 ^ k : Nat) : Int) by simp]
          exact wrap_nat10 p1
        have w2 : wrap64 (((2 ^ k : Nat) : Int) - 1) = ((2 ^ k - 1 : Nat) : Int) := wrap_pred10 p3 p1
        have a1 : bits BinOp.and IntKind.i64 (sig : Int) (wrap64 (wrap64 ((2 : Int) ^ k) - 1)) = (L : Int) := by
          rw [w1, w2, and_mask sig k (by have := h1.out; omega) kk _ rfl, hL]
        have a2 : wrap64 ((2 : Int) ^ (k - 1)) = (H : Int) := by
          rw [show ((2 : Int) ^ (k - 1)) = ((2 ^ (k - 1) : Nat) : Int) by simp, ← hH]
          exact wrap_nat10 p2
        have R := FL.rd_half (rest := rest) hS.out k0
        have R2 := FL.half1_le (exp := exp) rest hS.out
        rw [hT.out, show exp + (k : Int) + 149 = (p : Int) by omega] at R
        have hU : FL.half1 sig k rest = Q + if H < L ∨ (L = H ∧ (rest = true ∨ Q % 2 = 1)) then 1 else 0 := by
          unfold FL.half1
          rw [hQ.out, hL, hH]
        have kz : 0 < (k : Int) := by omega
        rw [hU] at R R2
        clear hU w1 w2 p1 p2 p3 hL hH hT
      case' inr =>
        have five : H < L ∨ (¬ H < L ∧ L = H ∧ rest = true) ∨ (¬ H < L ∧ L = H ∧ rest = false ∧ Q % 2 = 1) ∨ (¬ H < L ∧ L = H ∧ rest = false ∧ Q % 2 ≠ 1) ∨ (¬ H < L ∧ L ≠ H) := by
          cases rest <;> simp <;> omega
        rcases five with x1 | ⟨x1, x2, x3⟩ | ⟨x1, x2, x3, x4⟩ | ⟨x1, x2, x3, x4⟩ | ⟨x1, x2⟩
      case' inr.inl =>
        have y1 : (H : Int) < (L : Int) := by omega
        rw [if_pos (.inl x1)] at R R2
        obtain ⟨sg, hsg⟩ : ∃ sg, Q + 1 = sg := ⟨_, rfl⟩
        have es : (Q : Int) + 1 = (sg : Int) := by omega
      case' inr.inr.inl =>
        have y1 : ¬ (H : Int) < (L : Int) := by omega
        subst x2 x3
        rw [if_pos (.inr ⟨rfl, .inl rfl⟩)] at R R2
        obtain ⟨sg, hsg⟩ : ∃ sg, Q + 1 = sg := ⟨_, rfl⟩
        have es : (Q : Int) + 1 = (sg : Int) := by omega
      case' inr.inr.inr.inl =>
        have y1 : ¬ (H : Int) < (L : Int) := by omega
        subst x2 x3
        rw [if_pos (.inr ⟨rfl, .inr x4⟩)] at R R2
        have y3 : ((Q : Int) % 2 == 1) = true := by rw [beq_iff_eq]; omega
        obtain ⟨sg, hsg⟩ : ∃ sg, Q + 1 = sg := ⟨_, rfl⟩
        have es : (Q : Int) + 1 = (sg : Int) := by omega
      case' inr.inr.inr.inr.inl =>
        have y1 : ¬ (H : Int) < (L : Int) := by omega
        subst x2 x3
        rw [if_neg (fun c => c.elim (Nat.lt_irrefl _) (fun d => d.2.elim (by decide) x4)), Nat.add_zero] at R R2
        have y3 : ((Q : Int) % 2 == 1) = false := by rw [beq_eq_false_iff_ne]; omega
        obtain ⟨sg, rfl⟩ : ∃ sg, sg = Q := ⟨_, rfl⟩
        have hsg : Hid True := trivial
      case' inr.inr.inr.inr.inr =>
        have y1 : ¬ (H : Int) < (L : Int) := by omega
        have y2 : ¬ (L : Int) = (H : Int) := by omega
        rw [if_neg (fun c => c.elim x1 (fun d => x2 d.1)), Nat.add_zero] at R R2
        obtain ⟨sg, rfl⟩ : ∃ sg, sg = Q := ⟨_, rfl⟩
        have hsg : Hid True := trivial
      all_goals
        try rw [hsg] at R R2
        clear hsg
        have V : Hid (FL.rd sg (p : Int) = T) := R
        clear R
        by_cases sz : sg = 0
        · first
            | (exfalso; omega)
            | (have y9 : ((sg : Int) == 0) = true := by rw [beq_iff_eq]; omega
               have T0 : Hid (T = 0) := by
                 show _ = _
                 rw [← V.out, sz, FL.rd_zero]
               clear V
               go_wp2
               go_ret
               exact ⟨ret_one10 (by rw [T0.out]; rfl), rfl⟩)
        · have y9 : ((sg : Int) == 0) = false := by rw [beq_eq_false_iff_ne]; omega
          go_wp2
          have st : ∃ q : Nat, q = p ∧ (sg < 16777216 ∨ (sg = 16777216 ∧ q ≤ 1300)) := ⟨p, rfl, by omega⟩
          clear y9
          go_loop [0, 1] (fun a b => ∃ s q : Nat, a = .int .i64 (s : Int) ∧ b = .int .i64 ((q : Int) - 149) ∧ s ≠ 0 ∧ q ≤ 1301 ∧ (s < 16777216 ∨ (s = 16777216 ∧ q ≤ 1300)) ∧ Hid (FL.rd s (q : Int) = T)) (fun a _ => (intOf a).toNat)
          case atStart => exact ⟨sg, p, rfl, rfl, sz, by omega, by omega, V⟩
          case round =>
            clear V sz st R2
            obtain ⟨s, q, rfl, rfl, s0, q1, s1, V⟩ := hrel
            by_cases c2 : s = 16777216
            · subst c2
              have V2 : Hid (FL.rd 8388608 ((q + 1 : Nat) : Int) = T) := by
                show _ = _
                rw [← V.out]
                exact (FL.rd_twice 8388608 (q : Int)).symm
              clear V
              go_wp2
              go_round
              case rel => exact ⟨8388608, q + 1, rfl, by go_num, by decide, by omega, by omega, V2⟩
              case measure => decide
            · have c3 : ¬ (16777216 : Int) ≤ (s : Int) := by omega
              have s2 : s < 16777216 := by omega
              clear s1 c2
              go_wp2
              go_loop [0, 1] (fun a b => ∃ s q : Nat, a = .int .i64 (s : Int) ∧ b = .int .i64 ((q : Int) - 149) ∧ s ≠ 0 ∧ q ≤ 1301 ∧ s < 16777216 ∧ Hid (FL.rd s (q : Int) = T)) (fun _ b => (intOf b + 149).toNat)
              case atStart => exact ⟨s, q, rfl, rfl, s0, q1, s2, V⟩
              case round =>
                clear V s0 q1 s2 c3
                obtain ⟨s, q, rfl, rfl, s0, q1, s2, V⟩ := hrel
                by_cases c4 : s < 8388608
                · have c5 : (s : Int) < 8388608 := by omega
                  by_cases c6 : q = 0
                  · subst c6
                    have E := FL.rd_fin s0 s2 (.inr rfl)
                    rw [V.out, Nat.zero_mul, Nat.zero_add, Nat.min_eq_left (by rw [FL.inf_eq]; omega)] at E
                    replace E := hide E
                    clear V
                    go_wp2
                    go_ret
                    exact ⟨ret_one10 (by rw [E.out]), rfl⟩
                  · have c7 : (-149 : Int) < (q : Int) - 149 := by omega
                    have V2 : Hid (FL.rd (s * 2) ((q - 1 : Nat) : Int) = T) := by
                      show _ = _
                      rw [← V.out, FL.rd_twice]
                      congr 1
                      omega
                    clear V
                    go_wp2
                    go_round
                    case rel => exact ⟨s * 2, q - 1, by go_num, by go_num, by omega, by omega, by omega, V2⟩
                    case measure => simp [intOf]; omega
                · have c5 : ¬ (s : Int) < 8388608 := by omega
                  have E := FL.rd_fin (p := q) s0 s2 (.inl (by omega))
                  rw [V.out] at E
                  by_cases c6 : 254 < q + 1
                  · have c7 : (254 : Int) < (q : Int) - 149 + 150 := by omega
                    rw [Nat.min_eq_right (by rw [FL.inf_eq]; omega), FL.inf_eq] at E
                    replace E := hide E
                    clear V
                    go_wp2
                    go_ret
                    exact ⟨ret_one10 (by rw [E.out]; rfl), rfl⟩
                  · have c7 : ¬ (254 : Int) < (q : Int) - 149 + 150 := by omega
                    rw [Nat.min_eq_left (by rw [FL.inf_eq]; omega)] at E
                    have f1 := and_frac s (by omega)
                    obtain ⟨f, hf⟩ : ∃ f, s % 8388608 = f := ⟨_, rfl⟩
                    rw [hf] at f1
                    have hf2 : Hid (s = 8388608 + f) := by show _ = _; omega
                    have o1 := or_word (a := q + 1) (b := f) (by omega) (by omega)
                    replace o1 := hide o1
                    replace E := hide E
                    clear V hf
                    go_wp2
                    go_ret
                    exact ⟨ret_one10 (by rw [show (q : Int) - 149 + 150 = ((q + 1 : Nat) : Int) by omega, o1.out, E.out, hf2.out]; omega), rfl⟩
end Go.Proofs.Ytigbclhkmjcjjaa
