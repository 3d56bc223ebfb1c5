/-
  The document's side (arbiterref1): strip.
-/
import Derived.Test.YtebnjolkolobhaaGreatDoorRefB
import Derived.Test.YtebnjolkolobhaaGreatDoorStripM
/- ==== RefStrip ==== -/
namespace Go.Proofs.YtebnjolkolobhaaGreatDoor
open Go.RowKit
set_option linter.unusedVariables false
theorem strip_more {p a c r k : Nat} (hp : 0 < p) (hk : k < c) : (p ^ (c - k) * r) % p = 0 ∧ (p ^ (c - k) * r) / p = p ^ (c - (k + 1)) * r := by
  obtain ⟨m, hm⟩ : ∃ m, c - k = m + 1 := ⟨c - k - 1, by omega⟩
  have e : p ^ (c - k) * r = p * (p ^ m * r) := by rw [hm, Nat.pow_succ]; ac_rfl
  have e2 : c - (k + 1) = m := by omega
  rw [e, e2, Nat.mul_mod_right, Nat.mul_div_cancel_left _ hp]
  exact ⟨rfl, rfl⟩
set_option maxRecDepth 100000 in
set_option maxHeartbeats 4000000 in
theorem rstrip_calls (w : World) (va : Value) (a p K c r : Nat) (h : RN w va a) (hp : 2 ≤ p) (hp2 : p ≤ 10) (ka : (a : Int) < M.NB ^ K) (hK : K ≤ 1099511627776) (hK1 : 1 ≤ K) (hs : M.IsStrip p a c r) (hr : 0 < r) (hc : c ≤ 1099511627776) :
    Calls Tryz.prog 59 #[va, .int .i64 (p : Int)] w fun e w' => (∃ v, e = .returned (.tuple #[.int .i64 (c : Int), v]) ∧ RN w' v r) ∧ Below w.heap.size w w' := by
  obtain ⟨hs1, hs2⟩ := hs
  have kp : ((p : Nat) : Int) < M.NB ^ K := by
    have h1 : M.NB ^ 1 ≤ M.NB ^ K := M.pow_le M.NB_pos hK1
    have h2 : M.NB ^ 1 = 1000000000 := by decide
    omega
  have mod0 : Hid (∀ k, k < c → (p ^ (c - k) * r) % p = 0 ∧ (p ^ (c - k) * r) / p = p ^ (c - (k + 1)) * r) := fun k hk => strip_more (a := a) (by omega) hk
  have modr : Hid (¬ r % p = 0) := fun e => hs2 (Nat.dvd_of_mod_eq_zero e)
  have le : Hid (∀ k, ((p ^ (c - k) * r : Nat) : Int) < M.NB ^ K) := fun k => by
    refine Int.lt_of_le_of_lt ?_ ka
    rw [hs1]
    exact_mod_cast Nat.mul_le_mul_right r (Nat.pow_le_pow_right (by omega) (Nat.sub_le c k))
  have kpH := hide kp
  have h0 : Hid (RN w va (p ^ (c - 0) * r)) := by rw [Nat.sub_zero, ← hs1]; exact hide h
  have B0 : Hid (Below w.heap.size w w) := Below.refl _ _
  have pz : Hid (((p : Nat) : Int).toNat = p) := by simp [Hid]
  have np := hide (fun W => natInt_calls W (p : Int) (by omega) (by omega))
  rw [pz.out] at np
  clear hs1 hs2 ka kp h pz
  obtain ⟨sa, sk, sc, rfl, -⟩ := h0.out.form
  go_enter Tryz.func59, Tryz.ntmps59
  go_wp2_with fail
  go_loopw [0, 6] (fun v i wr => ∃ (k : Nat) (a1 : Option Addr) (a2 a3 : Nat), v = .slice a1 a2 a3 ∧ i = .int .i64 (k : Int) ∧ k ≤ c ∧ Hid (RN wr (.slice a1 a2 a3) (p ^ (c - k) * r)) ∧ Hid (Below w.heap.size w wr)) (fun _ i _ => c - (intOf i).toNat)
  case atStart => exact ⟨0, sa, sk, sc, rfl, rfl, Nat.zero_le _, h0, B0⟩
  case round =>
    clear h0 B0
    obtain ⟨k, a1, a2, a3, rfl, rfl, hk, HA, HB⟩ := hrel
    go_wp2_with fail
    refine (np.out wr).mono ?_
    rintro e w1 ⟨⟨vp, rfl, hvp⟩, b1⟩
    obtain ⟨p1, p2, p3, rfl, -⟩ := hvp.form
    have q := hide (rdiv_calls w1 _ _ (p ^ (c - k) * r) p K (HA.out.below b1) hvp (by omega) (le.out k) kpH.out hK hK1)
    have HA1 := hide (HA.out.below b1)
    have B1 := hide (HB.out.then_below b1)
    clear b1 hvp HA HB
    by_cases hlt : k < c
    · obtain ⟨m0, m1⟩ := mod0.out k hlt
      rw [m0, m1] at q
      clear m0 m1
      go_wp2_with fail
      refine q.out.mono ?_
      rintro e w2 ⟨⟨vq, vr, rfl, hq, hr2⟩, b2⟩
      obtain ⟨q1, q2, q3, rfl, -⟩ := hq.form
      obtain ⟨r1, r2, r3, rfl, er, -⟩ := hr2.form
      obtain rfl := er.2 rfl
      replace hq := hide hq
      have B2 := hide (B1.out.then_below b2)
      clear q hr2 b2 er
      go_wp2_with fail
      go_roundw
      case rel => exact ⟨k + 1, q1, q2, q3, rfl, by go_num, by omega, hq, B2⟩
      case measure => simp [intOf]; omega
    · obtain rfl : k = c := by omega
      rw [Nat.sub_self, Nat.pow_zero, Nat.one_mul] at q HA1
      go_wp2_with fail
      refine q.out.mono ?_
      rintro e w2 ⟨⟨vq, vr, rfl, hq, hr2⟩, b2⟩
      obtain ⟨q1, q2, q3, rfl, -⟩ := hq.form
      obtain ⟨r1, r2, r3, rfl, er, -⟩ := hr2.form
      have r0 : (0 : Int) < (r2 : Int) := by
        have : ¬ r2 = 0 := fun z => modr.out (er.1 z)
        omega
      have HA2 := hide (HA1.out.below b2)
      have B2 := hide (B1.out.then_below b2)
      clear q hr2 b2 er hq
      go_wp2_with fail
      go_ret2
      exact ⟨⟨_, rfl, HA2.out⟩, B2.out⟩
end Go.Proofs.YtebnjolkolobhaaGreatDoor
