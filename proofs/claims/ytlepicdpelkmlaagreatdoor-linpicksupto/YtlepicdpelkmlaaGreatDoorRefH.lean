/- Laid together of: CmpMathF, RefCmpF. -/
import Derived.Test.YtlepicdpelkmlaaGreatDoorNumA
import Derived.Test.YtlepicdpelkmlaaGreatDoorRefF
import Derived.Test.YtlepicdpelkmlaaGreatDoorRefG
/- ==== CmpMathF ==== -/
namespace Go.Proofs.YtlepicdpelkmlaaGreatDoor
open Go.RowKit
set_option linter.unusedVariables false
theorem cmpQ_range (p q : Rat) : -1 ≤ cmpQ p q ∧ cmpQ p q ≤ 1 := by unfold cmpQ; split <;> (try split) <;> decide
theorem cmpQ_sub (p q : Rat) : cmpQ (p - q) 0 = cmpQ p q := by
  unfold cmpQ
  have e1 : (p - q < 0) ↔ (p < q) := by grind
  have e2 : (p - q = 0) ↔ (p = q) := by grind
  simp only [e1, e2]
theorem sgn_q (q : Rat) : sgn (decide (q.num < 0)) q.num.natAbs = cmpQ q 0 := by
  unfold sgn cmpQ
  have e1 : (q < 0) ↔ q.num < 0 := by
    rw [Rat.lt_iff]
    show q.num * (1 : Nat) < 0 * (q.den : Int) ↔ _
    rw [Int.zero_mul]
    omega
  have e2 : (q = 0) ↔ q.num.natAbs = 0 := by
    constructor
    · rintro rfl; rfl
    · intro h
      exact Rat.num_eq_zero.1 (by omega)
  by_cases h1 : q.num.natAbs = 0
  · have h2 : ¬ q.num < 0 := by omega
    have h3 : q = 0 := e2.2 h1
    subst h3
    rfl
  · have h3 : ¬ q = 0 := fun h => h1 (e2.1 h)
    by_cases h2 : q.num < 0
    · rw [if_neg h1, if_pos (decide_eq_true h2), if_pos (e1.2 h2)]
    · rw [if_neg h1, if_neg (by simpa using h2), if_neg (fun h => h2 (e1.1 h)), if_neg h3]
theorem sgn_frac (s : Bool) (n d : Nat) (hd : 0 < d) : sgn (s && !decide (n = 0)) (n / Nat.gcd n d) = cmpQ (mkRat (M.sg s n) d) 0 := by
  obtain ⟨a, b, c⟩ := M.mk_parts s n d hd
  rw [← sgn_q, a, b]

end Go.Proofs.YtlepicdpelkmlaaGreatDoor
/- ==== RefCmpF ==== -/
namespace Go.Proofs.YtlepicdpelkmlaaGreatDoor
open Go.RowKit
set_option linter.unusedVariables false
set_option maxRecDepth 100000 in
set_option maxHeartbeats 4000000 in
theorem rcompare_calls (w : World) (va vb : Value) (s1 s2 : Bool) (n1 d1 n2 d2 K : Nat) (ha : RR w va s1 n1 d1) (hb : RR w vb s2 n2 d2) (hd1 : 0 < d1) (hd2 : 0 < d2) (k1 : (n1 : Int) < M.NB ^ K) (l1 : (d1 : Int) < M.NB ^ K) (k2 : (n2 : Int) < M.NB ^ K) (l2 : (d2 : Int) < M.NB ^ K) (hK : 2 * K + 1 ≤ 17592186044) (hK1 : 1 ≤ K) (c : Int) (hc : sgn ((M.addS s1 (n1 * d2) (!s2 && !decide (n2 = 0)) (n2 * d1)).1 && !decide ((M.addS s1 (n1 * d2) (!s2 && !decide (n2 = 0)) (n2 * d1)).2 = 0)) ((M.addS s1 (n1 * d2) (!s2 && !decide (n2 = 0)) (n2 * d1)).2 / Nat.gcd (M.addS s1 (n1 * d2) (!s2 && !decide (n2 = 0)) (n2 * d1)).2 (d1 * d2)) = c) :
    Calls Tryz.prog 35 #[va, vb] w fun e w' => e = .returned (.int .i64 c) ∧ Below w.heap.size w w' := by
  have ha' := hide ha
  have hb' := hide hb
  obtain ⟨na, nl, nc, da, dl, dc, rfl, a1, a2⟩ := ha
  obtain ⟨pa, pl, pc, ra, rl, rc, rfl, b1, b2⟩ := hb
  obtain ⟨X1, Y1, -⟩ := two_new w (.cells #[.bool s1, .slice na nl nc, .slice da dl dc] 77) (.cells #[.bool s2, .slice pa pl pc, .slice ra rl rc] 77)
  have B0 := alloc2_below w (.cells #[.bool s1, .slice na nl nc, .slice da dl dc] 77) (.cells #[.bool s2, .slice pa pl pc, .slice ra rl rc] 77)
  obtain ⟨W0, hW0⟩ : ∃ W0, (w.alloc (.cells #[.bool s1, .slice na nl nc, .slice da dl dc] 77)).alloc (.cells #[.bool s2, .slice pa pl pc, .slice ra rl rc] 77) = W0 := ⟨_, rfl⟩
  rw [hW0] at X1 Y1 B0
  obtain ⟨p0, p1, p2, -, -, -⟩ := box3 X1
  obtain ⟨r0, r1, r2, -, -, -⟩ := box3 Y1
  replace X1 := hide X1
  replace Y1 := hide Y1
  replace B0 := hide B0
  have q1 := hide (rless_calls W0 _ _ s1 s2 n1 d1 n2 d2 K (ha'.out.below B0.out) (hb'.out.below B0.out) hd1 hd2 k1 l1 k2 l2 hK hK1)
  generalize ((M.addS s1 (n1 * d2) (!s2 && !decide (n2 = 0)) (n2 * d1)).1 && !decide ((M.addS s1 (n1 * d2) (!s2 && !decide (n2 = 0)) (n2 * d1)).2 = 0)) = SG at *
  generalize d1 * d2 / Nat.gcd (M.addS s1 (n1 * d2) (!s2 && !decide (n2 = 0)) (n2 * d1)).2 (d1 * d2) = DD at *
  generalize (M.addS s1 (n1 * d2) (!s2 && !decide (n2 = 0)) (n2 * d1)).2 / Nat.gcd (M.addS s1 (n1 * d2) (!s2 && !decide (n2 = 0)) (n2 * d1)).2 (d1 * d2) = NN at *
  replace hc := hide hc
  clear ha' hb' a1 a2 b1 b2 k1 k2 l1 l2 hd1 hd2
  go_enter Tryz.func35, Tryz.ntmps35
  go_wp2_with (first
    | (go_at_call 31; refine q1.out.mono ?_; rintro e wa ⟨⟨va, rfl, ma⟩, ba⟩; replace ma := hide ma; replace ba := hide ba)
    | (go_at_call 33; refine (rsign_calls _ _ SG NN DD ma.out).mono ?_; rintro e wb ⟨rfl, bb⟩; rw [hc.out]; replace bb := hide bb))
  go_ret
  exact ⟨rfl, (B0.out.then_below ba.out).then_below bb.out⟩
end Go.Proofs.YtlepicdpelkmlaaGreatDoor
