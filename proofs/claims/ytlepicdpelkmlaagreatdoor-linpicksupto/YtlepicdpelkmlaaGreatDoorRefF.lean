/- Laid together of: RefOver, RefSgn. -/
import Derived.Test.YtlepicdpelkmlaaGreatDoorRefE
/- ==== RefOver ==== -/
namespace Go.Proofs.YtlepicdpelkmlaaGreatDoor
open Go.RowKit
set_option linter.unusedVariables false
theorem mul_NB {a b : Nat} {K : Nat} (ha : (a : Int) < M.NB ^ K) (hb : (b : Int) < M.NB ^ K) : ((a * b : Nat) : Int) < M.NB ^ (2 * K) := by
  rw [M.NB_pow] at *
  have h1 : a < 10 ^ (9 * K) := by exact_mod_cast ha
  have h2 : b < 10 ^ (9 * K) := by exact_mod_cast hb
  have h3 : (10 : Nat) ^ (9 * (2 * K)) = 10 ^ (9 * K) * 10 ^ (9 * K) := by rw [← Nat.pow_add]; congr 1; omega
  have h4 : a * b < 10 ^ (9 * K) * 10 ^ (9 * K) := Nat.mul_lt_mul'' h1 h2
  rw [h3]
  exact_mod_cast h4
set_option maxRecDepth 100000 in
set_option maxHeartbeats 4000000 in
theorem rover_calls (w : World) (va vb : Value) (s1 s2 : Bool) (n1 d1 n2 d2 K : Nat) (ha : RR w va s1 n1 d1) (hb : RR w vb s2 n2 d2) (hd1 : 0 < d1) (hd2 : 0 < n2) (k1 : (n1 : Int) < M.NB ^ K) (l1 : (d1 : Int) < M.NB ^ K) (k2 : (n2 : Int) < M.NB ^ K) (l2 : (d2 : Int) < M.NB ^ K) (hK : K ≤ 17592186044) (hK1 : 1 ≤ K) :
    Calls Tryz.prog 34 #[va, vb] w fun e w' => (∃ v, e = .returned v ∧ RR w' v ((s1 != s2) && !decide (n1 * d2 = 0)) (n1 * d2 / Nat.gcd (n1 * d2) (d1 * n2)) (d1 * n2 / Nat.gcd (n1 * d2) (d1 * n2))) ∧ Below w.heap.size w w' := by
  obtain ⟨na, nl, nc, da, dl, dc, rfl, a1, a2⟩ := ha
  obtain ⟨pa, pl, pc, ra, rl, rc, rfl, b1, b2⟩ := hb
  have kN := hide (mul_NB k1 l2)
  have kD := hide (mul_NB l1 k2)
  have hdd : Hid (0 < d1 * n2) := Nat.mul_pos hd1 hd2
  replace k1 := hide k1
  replace k2 := hide k2
  replace l1 := hide l1
  replace l2 := hide l2
  replace a1 := hide a1
  replace a2 := hide a2
  replace b1 := hide b1
  replace b2 := hide b2
  have z1 : (w.alloc (.cells #[.bool s1, .slice na nl nc, .slice da dl dc] 77)).heap.size = w.heap.size + 1 := by show (w.heap.push _).size = _; simp
  have z2 : ((w.alloc (.cells #[.bool s1, .slice na nl nc, .slice da dl dc] 77)).alloc (.cells #[.bool s2, .slice pa pl pc, .slice ra rl rc] 77)).heap.size = w.heap.size + 1 + 1 := by show ((w.heap.push _).push _).size = _; simp
  have P0 := kept_block (kept_block (heap_alloc_new w (.cells #[.bool s1, .slice na nl nc, .slice da dl dc] 77)) (alloc_below _ (.cells #[.bool s2, .slice pa pl pc, .slice ra rl rc] 77))) (alloc_below _ (.cells #[.bool false, .slice none 0 0, .slice none 0 0] 77))
  have Q0 := kept_block (heap_alloc_new (w.alloc (.cells #[.bool s1, .slice na nl nc, .slice da dl dc] 77)) (.cells #[.bool s2, .slice pa pl pc, .slice ra rl rc] 77)) (alloc_below _ (.cells #[.bool false, .slice none 0 0, .slice none 0 0] 77))
  have R0 := heap_alloc_new ((w.alloc (.cells #[.bool s1, .slice na nl nc, .slice da dl dc] 77)).alloc (.cells #[.bool s2, .slice pa pl pc, .slice ra rl rc] 77)) (.cells #[.bool false, .slice none 0 0, .slice none 0 0] 77)
  rw [z1] at Q0
  rw [z2] at R0
  have B0 := (alloc2_below w (.cells #[.bool s1, .slice na nl nc, .slice da dl dc] 77) (.cells #[.bool s2, .slice pa pl pc, .slice ra rl rc] 77)).then_below (alloc_below _ (.cells #[.bool false, .slice none 0 0, .slice none 0 0] 77))
  replace P0 := hide P0
  replace Q0 := hide Q0
  replace R0 := hide R0
  replace B0 := hide B0
  clear z1 z2
  go_enter Tryz.func34, Tryz.ntmps34
  go_wp2_with fail
  generalize ((w.alloc (.cells #[.bool s1, .slice na nl nc, .slice da dl dc] 77)).alloc (.cells #[.bool s2, .slice pa pl pc, .slice ra rl rc] 77)).alloc (.cells #[.bool false, .slice none 0 0, .slice none 0 0] 77) = w1 at *
  obtain ⟨p0, p1, p2, -, -, -⟩ := box3 P0.out
  obtain ⟨r0, r1, r2, -, -, -⟩ := box3 Q0.out
  have S0 := hide (And.intro p0 (And.intro p1 (And.intro p2 (And.intro r0 (And.intro r1 (And.intro r2 B0.out))))))
  clear p0 p1 p2 r0 r1 r2
  have D1 : Below w1.heap.size w1 w1.drew := (Below.refl _ _).drew
  have HA1 := hide (a1.out.below (B0.out.then_below D1))
  have HA2 := hide (a2.out.below (B0.out.then_below D1))
  have HB1 := hide (b1.out.below (B0.out.then_below D1))
  have HB2 := hide (b2.out.below (B0.out.then_below D1))
  have n1' : w.heap.size ≠ w.heap.size + 1 + 1 := by omega
  have n2' : w.heap.size + 1 ≠ w.heap.size + 1 + 1 := by omega
  have n5 : w.heap.size ≤ w.heap.size + 1 + 1 := by omega
  go_region_held3
    (fun w' => w'.cell? ⟨w.heap.size, 0, none⟩ = some (.bool s1) ∧ w'.cell? ⟨w.heap.size, 1, none⟩ = some (.slice na nl nc) ∧ w'.cell? ⟨w.heap.size, 2, none⟩ = some (.slice da dl dc) ∧ w'.cell? ⟨w.heap.size + 1, 0, none⟩ = some (.bool s2) ∧ w'.cell? ⟨w.heap.size + 1, 1, none⟩ = some (.slice pa pl pc) ∧ w'.cell? ⟨w.heap.size + 1, 2, none⟩ = some (.slice ra rl rc) ∧ Below w.heap.size w w')
    ((repeat (first
      | with_reducible exact S0.out
      | with_reducible refine cells6_set3 ?_ n1' n2' n5
      | with_reducible refine cells6_kept ?_ bd
      | with_reducible refine cells6_kept ?_ bb
      | with_reducible refine cells6_kept ?_ ba
      | with_reducible refine cells6_kept ?_ ((Below.refl _ _).drew))))
    (first
      | (go_at_call_of 53 (Value.slice na nl nc); refine (mulRN _ _ _ n1 d2 K HA1.out HB2.out k1.out l2.out (by omega)).mono ?_; rintro e wa ⟨⟨va, rfl, ma⟩, ba⟩)
      | (go_at_call_of 53 (Value.slice da dl dc); refine (mulRN _ _ _ d1 n2 K (HA2.out.below ba) (HB1.out.below ba) l1.out k2.out (by omega)).mono ?_; rintro e wb ⟨⟨vb, rfl, mb⟩, bb⟩)
      | (go_at_call 52; refine (ratio_calls _ (s1 != s2) _ _ (n1 * d2) (d1 * n2) (2 * K) (ma.below bb) mb hdd.out kN.out kD.out (by omega) (by omega)).mono ?_; rintro e wd ⟨⟨vd, rfl, md⟩, bd⟩; obtain ⟨ua, ul, uc, ta, tl, tc, rfl, m1, m2⟩ := md; have R2 := hide (kept_block R0.out (D1.then_below ((ba.then_below bb).then_below bd))); obtain ⟨z0, z1, z2, f0, f1, f2⟩ := box3 R2.out))
  go_wp2
  refine bodyPost_ret (v := .agg #[.bool ((s1 != s2) && !decide (n1 * d2 = 0)), .slice ua ul uc, .slice ta tl tc]) (by simp [results, Tryz.results34, go_sem, z0, z1, z2]) rfl ?_
  have q := set3 wd (w.heap.size + 1 + 1) (.bool ((s1 != s2) && !decide (n1 * d2 = 0))) (.slice ua ul uc) (.slice ta tl tc)
  exact ⟨⟨_, rfl, ua, ul, uc, ta, tl, tc, rfl, m1.past R2.out q, m2.past R2.out q⟩, (B0.out.then_below (D1.then_below ((ba.then_below bb).then_below bd))).then_grown q (by rintro g ⟨⟩; exact n5)⟩

end Go.Proofs.YtlepicdpelkmlaaGreatDoor
/- ==== RefSgn ==== -/
namespace Go.Proofs.YtlepicdpelkmlaaGreatDoor
open Go.RowKit
set_option linter.unusedVariables false
theorem can_bounds {l : List UInt8} (h : CanT l) {K : Nat} (hK : l.length + 1 ≤ K) : ((M.dec (cup l) : Nat) : Int) < M.NB ^ K ∧ ((M.dec (clow l) : Nat) : Int) < M.NB ^ K ∧ 0 < M.dec (clow l) := by
  have ht : (Lib.trimPrefix l [45]).length ≤ l.length := by unfold Lib.trimPrefix; split <;> simp
  have h1 := cut_le1 (Lib.trimPrefix l [45])
  have h2 := cut_le2 (Lib.trimPrefix l [45])
  have h3 : (cup l).length ≤ K := by unfold cup; omega
  have h4 : (clow l).length ≤ K := by
    unfold clow
    split
    · omega
    · simp; omega
  have hl := can_low h
  exact ⟨dec_NB h.1.1.2 h3, dec_NB hl.1.1.2 h4, Nat.pos_of_ne_zero (fun e => hl.2 ((dec_zero hl.1).1 e))⟩
def sgn (neg : Bool) (n : Nat) : Int := if n = 0 then 0 else if neg then -1 else 1
set_option maxRecDepth 100000 in
set_option maxHeartbeats 4000000 in
theorem rsign_calls (w : World) (v : Value) (neg : Bool) (n d : Nat) (h : RR w v neg n d) :
    Calls Tryz.prog 33 #[v] w fun e w' => e = .returned (.int .i64 (sgn neg n)) ∧ Below w.heap.size w w' := by
  obtain ⟨na, nl, nc, da, dl, dc, rfl, h1, h2⟩ := h
  obtain ⟨ao, k, c, e, en, -, -⟩ := h1.form
  cases e
  have B0 := hide (alloc_below w (.cells #[.bool neg, .slice na nl nc, .slice da dl dc] 77))
  unfold sgn
  by_cases hn : n = 0
  · rw [if_pos hn]
    have h0 : nl = 0 := en.2 hn
    subst h0
    clear en hn h1 h2
    go_enter Tryz.func33, Tryz.ntmps33
    go_wp2
    go_ret
    exact ⟨rfl, B0.out⟩
  · rw [if_neg hn]
    have h0 : nl ≠ 0 := fun e => hn (en.1 e)
    have h3 : ((nl : Int) == 0) = false := by simpa using h0
    clear en hn h1 h2
    cases neg with
    | true =>
      go_enter Tryz.func33, Tryz.ntmps33
      go_wp2
      go_ret
      exact ⟨rfl, B0.out⟩
    | false =>
      go_enter Tryz.func33, Tryz.ntmps33
      go_wp2
      go_ret
      exact ⟨rfl, B0.out⟩
end Go.Proofs.YtlepicdpelkmlaaGreatDoor
