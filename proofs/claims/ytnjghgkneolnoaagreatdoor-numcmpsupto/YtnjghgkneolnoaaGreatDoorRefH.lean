/- Laid together of: CmpMath, RefCmp. -/
import Derived.Test.YtnjghgkneolnoaaGreatDoorNumA
import Derived.Test.YtnjghgkneolnoaaGreatDoorRefE
import Derived.Test.YtnjghgkneolnoaaGreatDoorRefG
/- ==== CmpMath ==== -/
namespace Go.Proofs.YtnjghgkneolnoaaGreatDoor
open Go.RowKit
set_option linter.unusedVariables false
theorem cmpQ_range (p q : Rat) : -1 ≤ cmpQ p q ∧ cmpQ p q ≤ 1 := by unfold cmpQ; split <;> (try split) <;> decide
theorem cmpQ_sub (p q : Rat) : cmpQ (p - q) 0 = cmpQ p q := by
  unfold cmpQ
  have e1 : (p - q < 0) ↔ (p < q) := by grind
  have e2 : (p - q = 0) ↔ (p = q) := by grind
  simp only [e1, e2]
theorem sgn_q (q : Rat) : sgn (decide (q.num < 0)) q.num.natAbs = cmpQ q 0 := by
  unfold sgn cmpQ
  have e1 : (q < 0) ↔ q.num < 0 := by
    rw [Rat.lt_iff]
    show q.num * (1 : Nat) < 0 * (q.den : Int) ↔ _
    rw [Int.zero_mul]
    omega
  have e2 : (q = 0) ↔ q.num.natAbs = 0 := by
    constructor
    · rintro rfl; rfl
    · intro h
      exact Rat.num_eq_zero.1 (by omega)
  by_cases h1 : q.num.natAbs = 0
  · have h2 : ¬ q.num < 0 := by omega
    have h3 : q = 0 := e2.2 h1
    subst h3
    rfl
  · have h3 : ¬ q = 0 := fun h => h1 (e2.1 h)
    by_cases h2 : q.num < 0
    · rw [if_neg h1, if_pos (decide_eq_true h2), if_pos (e1.2 h2)]
    · rw [if_neg h1, if_neg (by simpa using h2), if_neg (fun h => h2 (e1.1 h)), if_neg h3]
theorem sgn_frac (s : Bool) (n d : Nat) (hd : 0 < d) : sgn (s && !decide (n = 0)) (n / Nat.gcd n d) = cmpQ (mkRat (M.sg s n) d) 0 := by
  obtain ⟨a, b, c⟩ := M.mk_parts s n d hd
  rw [← sgn_q, a, b]
end Go.Proofs.YtnjghgkneolnoaaGreatDoor
/- ==== RefCmp ==== -/
namespace Go.Proofs.YtnjghgkneolnoaaGreatDoor
open Go.RowKit
set_option linter.unusedVariables false
set_option maxRecDepth 100000 in
set_option maxHeartbeats 4000000 in
theorem rcompare_calls (w : World) (va vb : Value) (s1 s2 : Bool) (n1 d1 n2 d2 K : Nat) (ha : RR w va s1 n1 d1) (hb : RR w vb s2 n2 d2) (hd1 : 0 < d1) (hd2 : 0 < d2) (k1 : (n1 : Int) < M.NB ^ K) (l1 : (d1 : Int) < M.NB ^ K) (k2 : (n2 : Int) < M.NB ^ K) (l2 : (d2 : Int) < M.NB ^ K) (hK : 2 * K + 1 ≤ 17592186044) (hK1 : 1 ≤ K) (c : Int) (hc : sgn ((M.addS s1 (n1 * d2) (!s2 && !decide (n2 = 0)) (n2 * d1)).1 && !decide ((M.addS s1 (n1 * d2) (!s2 && !decide (n2 = 0)) (n2 * d1)).2 = 0)) ((M.addS s1 (n1 * d2) (!s2 && !decide (n2 = 0)) (n2 * d1)).2 / Nat.gcd (M.addS s1 (n1 * d2) (!s2 && !decide (n2 = 0)) (n2 * d1)).2 (d1 * d2)) = c) :
    Calls Tryz.prog 62 #[va, vb] w fun e w' => e = .returned (.int .i64 c) ∧ Below w.heap.size w w' := by
  have ha' := hide ha
  have hb' := hide hb
  obtain ⟨na, nl, nc, da, dl, dc, rfl, a1, a2⟩ := ha
  obtain ⟨pa, pl, pc, ra, rl, rc, rfl, b1, b2⟩ := hb
  obtain ⟨X1, Y1, -⟩ := two_new w (.cells #[.bool s1, .slice na nl nc, .slice da dl dc] 56) (.cells #[.bool s2, .slice pa pl pc, .slice ra rl rc] 56)
  have B0 := alloc2_below w (.cells #[.bool s1, .slice na nl nc, .slice da dl dc] 56) (.cells #[.bool s2, .slice pa pl pc, .slice ra rl rc] 56)
  obtain ⟨W0, hW0⟩ : ∃ W0, (w.alloc (.cells #[.bool s1, .slice na nl nc, .slice da dl dc] 56)).alloc (.cells #[.bool s2, .slice pa pl pc, .slice ra rl rc] 56) = W0 := ⟨_, rfl⟩
  rw [hW0] at X1 Y1 B0
  obtain ⟨p0, p1, p2, -, -, -⟩ := box3 X1
  obtain ⟨r0, r1, r2, -, -, -⟩ := box3 Y1
  replace X1 := hide X1
  replace Y1 := hide Y1
  replace B0 := hide B0
  have q1 := hide (rless_calls W0 _ _ s1 s2 n1 d1 n2 d2 K (ha'.out.below B0.out) (hb'.out.below B0.out) hd1 hd2 k1 l1 k2 l2 hK hK1)
  generalize ((M.addS s1 (n1 * d2) (!s2 && !decide (n2 = 0)) (n2 * d1)).1 && !decide ((M.addS s1 (n1 * d2) (!s2 && !decide (n2 = 0)) (n2 * d1)).2 = 0)) = SG at *
  generalize d1 * d2 / Nat.gcd (M.addS s1 (n1 * d2) (!s2 && !decide (n2 = 0)) (n2 * d1)).2 (d1 * d2) = DD at *
  generalize (M.addS s1 (n1 * d2) (!s2 && !decide (n2 = 0)) (n2 * d1)).2 / Nat.gcd (M.addS s1 (n1 * d2) (!s2 && !decide (n2 = 0)) (n2 * d1)).2 (d1 * d2) = NN at *
  replace hc := hide hc
  clear ha' hb' a1 a2 b1 b2 k1 k2 l1 l2 hd1 hd2
  go_enter Tryz.func62, Tryz.ntmps62
  go_wp2_with (first
    | (go_at_call 60; refine q1.out.mono ?_; rintro e wa ⟨⟨va, rfl, ma⟩, ba⟩; replace ma := hide ma; replace ba := hide ba)
    | (go_at_call 53; refine (rsign_calls _ _ SG NN DD ma.out).mono ?_; rintro e wb ⟨rfl, bb⟩; rw [hc.out]; replace bb := hide bb))
  go_ret
  exact ⟨rfl, (B0.out.then_below ba.out).then_below bb.out⟩
set_option maxRecDepth 100000 in
set_option maxHeartbeats 4000000 in
theorem rcmp_no (w : World) (sa sb : ByteArray) (la lb : List UInt8) (ha : sa.data.toList = la) (hb : sb.data.toList = lb) (hla : la.length ≤ 1073741824) (hlb : lb.length ≤ 1073741824) (ka kb : Bool) (hka : ka = true ↔ CanT la) (hkb : kb = true ↔ CanT lb) (hk : (ka && kb) = false) :
    Calls Tryz.prog 29 #[.string sa, .string sb] w fun e w' => e = .returned (.tuple #[.int .i64 0, .int .i64 1]) ∧ Below w.heap.size w w' := by
  have q1 := hide (two_calls w sa sb la lb ha hb hla hlb ka kb hka hkb)
  rw [hk] at q1
  clear hka hkb hk ha hb
  go_enter Tryz.func29, Tryz.ntmps29
  go_wp2_with (go_at_call 48; (with_reducible refine q1.out.mono ?_); rintro e w1 ⟨⟨b1, na, nl, nc, da, dl, dc, b2, pa, pl, pc, ra, rl, rc, rfl, h1, h2⟩, bw⟩; replace h1 := hide h1; replace h2 := hide h2; replace bw := hide bw)
  go_ret2
  exact ⟨rfl, (bw.out.then_below (alloc_below w1 _)).then_below (alloc_below _ _)⟩
set_option maxRecDepth 100000 in
set_option maxHeartbeats 4000000 in
theorem rcmp_yes (w : World) (sa sb : ByteArray) (la lb : List UInt8) (ha : sa.data.toList = la) (hb : sb.data.toList = lb) (hla : la.length ≤ 1073741824) (hlb : lb.length ≤ 1073741824) (hca : CanT la) (hcb : CanT lb) :
    Calls Tryz.prog 29 #[.string sa, .string sb] w fun e w' => e = .returned (.tuple #[.int .i64 (cmpQ (qV la) (qV lb)), .int .i64 0]) ∧ Below w.heap.size w w' := by
  have q1 := hide (two_calls w sa sb la lb ha hb hla hlb true true ⟨fun _ => hca, fun _ => rfl⟩ ⟨fun _ => hcb, fun _ => rfl⟩)
  obtain ⟨k1, l1, p1⟩ := can_bounds hca (K := la.length + lb.length + 1) (by omega)
  obtain ⟨k2, l2, p2⟩ := can_bounds hcb (K := la.length + lb.length + 1) (by omega)
  have hc : sgn ((M.addS (cneg la) (M.dec (cup la) * M.dec (clow lb)) (!cneg lb && !decide (M.dec (cup lb) = 0)) (M.dec (cup lb) * M.dec (clow la))).1 && !decide ((M.addS (cneg la) (M.dec (cup la) * M.dec (clow lb)) (!cneg lb && !decide (M.dec (cup lb) = 0)) (M.dec (cup lb) * M.dec (clow la))).2 = 0)) ((M.addS (cneg la) (M.dec (cup la) * M.dec (clow lb)) (!cneg lb && !decide (M.dec (cup lb) = 0)) (M.dec (cup lb) * M.dec (clow la))).2 / Nat.gcd (M.addS (cneg la) (M.dec (cup la) * M.dec (clow lb)) (!cneg lb && !decide (M.dec (cup lb) = 0)) (M.dec (cup lb) * M.dec (clow la))).2 (M.dec (clow la) * M.dec (clow lb))) = cmpQ (qV la) (qV lb) := by
    rw [sgn_frac _ _ _ (Nat.mul_pos p1 p2), sub_q hca hcb, cmpQ_sub]
  have P1 : Hid (∀ W va vb, RR W va (cneg la) (M.dec (cup la)) (M.dec (clow la)) → RR W vb (cneg lb) (M.dec (cup lb)) (M.dec (clow lb)) → Calls Tryz.prog 62 #[va, vb] W fun e w' => e = .returned (.int .i64 (cmpQ (qV la) (qV lb))) ∧ Below W.heap.size W w') :=
    fun W va vb h1 h2 => rcompare_calls W va vb _ _ _ _ _ _ (la.length + lb.length + 1) h1 h2 p1 p2 k1 l1 k2 l2 (by omega) (by omega) _ hc
  have HA := hide hca
  have HB := hide hcb
  clear hca hcb ha hb k1 k2 l1 l2 p1 p2 hc
  generalize cmpQ (qV la) (qV lb) = c at *
  go_enter Tryz.func29, Tryz.ntmps29
  go_wp2_with (first
    | (go_at_call 48; (with_reducible refine q1.out.mono ?_); rintro e w1 ⟨⟨b1, na, nl, nc, da, dl, dc, b2, pa, pl, pc, ra, rl, rc, rfl, h1, h2⟩, bw⟩; replace h1 := hide (((h1 HA.out).below (alloc_below w1 (.cells #[.bool b1, .slice na nl nc, .slice da dl dc] 56))).below (alloc_below _ (.cells #[.bool b2, .slice pa pl pc, .slice ra rl rc] 56))); replace h2 := hide (((h2 HB.out).below (alloc_below w1 (.cells #[.bool b1, .slice na nl nc, .slice da dl dc] 56))).below (alloc_below _ (.cells #[.bool b2, .slice pa pl pc, .slice ra rl rc] 56))); replace bw := hide ((bw.then_below (alloc_below w1 (.cells #[.bool b1, .slice na nl nc, .slice da dl dc] 56))).then_below (alloc_below _ (.cells #[.bool b2, .slice pa pl pc, .slice ra rl rc] 56))))
    | (go_at_call 62; refine (P1.out _ _ _ h1.out h2.out).mono ?_; rintro e w2 ⟨rfl, bw2⟩; replace bw2 := hide bw2))
  go_ret2
  exact ⟨rfl, bw.out.then_below bw2.out⟩
theorem rCmp_calls (w : World) (sa sb : ByteArray) (la lb : List UInt8) (ha : sa.data.toList = la) (hb : sb.data.toList = lb) (hla : la.length ≤ 1073741824) (hlb : lb.length ≤ 1073741824) :
    Calls Tryz.prog 29 #[.string sa, .string sb] w fun e w' => e = .returned (.tuple #[.int .i64 (cmpT la lb).1, .int .i64 (cmpT la lb).2]) ∧ Below w.heap.size w w' := by
  cases hk : canB la && canB lb with
  | false =>
    rw [cmpT_no hk]
    exact rcmp_no w sa sb la lb ha hb hla hlb _ _ (canB_iff la) (canB_iff lb) hk
  | true =>
    obtain ⟨hca, hcb⟩ := both_of hk
    rw [cmpT_yes hca hcb]
    exact rcmp_yes w sa sb la lb ha hb hla hlb hca hcb
end Go.Proofs.YtnjghgkneolnoaaGreatDoor
