/-
  NumNearest: the walk.
-/
import Derived.Test.YtebnjolkolobhaaGreatDoorNearLawF
import Derived.Test.YtebnjolkolobhaaGreatDoorNumSimF
import Derived.Test.YtebnjolkolobhaaGreatDoorFieldAF
/- ==== NearWalk ==== -/
namespace Go.Proofs.YtebnjolkolobhaaGreatDoor
open Go.RowKit
set_option linter.unusedVariables false
def loB : Option Rat → Rat → Bool
  | none, _ => true
  | some a, x => cmpQ a x == -1
def hiB : Option Rat → Rat → Bool
  | none, _ => true
  | some b, x => cmpQ x b == -1
theorem cmpQ_rng (p q : Rat) : -1 ≤ cmpQ p q ∧ cmpQ p q ≤ 1 := by unfold cmpQ; split <;> (try split) <;> decide
theorem cmpQ_m1 {x y : Rat} : cmpQ x y = -1 ↔ x < y := by
  have h := cmpQ_rng x y
  have h2 := cmpQ_neg (x := x) (y := y)
  constructor
  · intro e; exact h2.1 (by omega)
  · intro e; have := h2.2 e; omega
theorem win_iff {lo hi : Option Rat} {x : Rat} : (loB lo x && hiB hi x) = true ↔ Win lo x hi := by
  rw [Bool.and_eq_true]
  unfold Win
  constructor
  · rintro ⟨h1, h2⟩
    refine ⟨fun a ha => ?_, fun b hb => ?_⟩
    · subst ha; exact cmpQ_m1.1 (eq_of_beq h1)
    · subst hb; exact cmpQ_m1.1 (eq_of_beq h2)
  · rintro ⟨h1, h2⟩
    constructor
    · cases lo with
      | none => rfl
      | some a => exact beq_iff_eq.2 (cmpQ_m1.2 (h1 a rfl))
    · cases hi with
      | none => rfl
      | some b => exact beq_iff_eq.2 (cmpQ_m1.2 (h2 b rfl))
theorem nil_of {s : ByteArray} {l : List UInt8} (hs : s.data.toList = l) (h : l = []) : s = ⟨#[]⟩ := (str_nil hs).1 h
theorem isE {s : ByteArray} {l : List UInt8} (hs : s.data.toList = l) (h : l ≠ []) : s.toList.isEmpty = false := by
  rw [← str_toList, hs]
  cases l with
  | nil => exact absurd rfl h
  | cons a b => rfl
theorem tB_ne_nil (q : Rat) : (tB q).toList.isEmpty = false := by
  refine isE (tB_list q) ?_
  rw [qT_abs]
  intro e
  have h := (List.append_eq_nil_iff.1 e).2
  have c := (qT_can (absQ q)).1
  rw [h] at c
  exact absurd c.1 (by decide)
theorem sz_of {s : ByteArray} {l : List UInt8} (hs : s.data.toList = l) (hl : l.length ≤ 1048576) : s.size ≤ 1048576 := by rw [size_of s l hs]; exact hl
theorem eq_tB {s : ByteArray} {l : List UInt8} (hs : s.data.toList = l) (h : CanT l) : s = tB (qV l) := by
  have := of_can (s := s) (by rw [hs]; exact (canB_iff l).2 h)
  rw [hs] at this
  exact this
theorem bd_of {l : List UInt8} (h : CanT l) (hl : l.length ≤ 1048576) : Bd 1048576 (qV l) := by
  have hl2 : (tB (qV l)).size ≤ 1048576 := by
    unfold tB
    rw [can_qT h]
    exact hl
  have := can_Bd (s := tB (qV l)) (k := 1048576) (tB_can _) hl2 (by decide)
  rw [tB_v] at this
  exact this
theorem bd_up {q : Rat} {j k : Nat} (h : Bd j q) (hj : j ≤ k) : Bd k q :=
  ⟨Nat.lt_of_lt_of_le h.1 (Nat.pow_le_pow_right (by decide) hj), Nat.lt_of_lt_of_le h.2 (Nat.pow_le_pow_right (by decide) hj)⟩
theorem szO_bd {l : List UInt8} (ok : okB l = true) (hl : l.length ≤ 1048576) {k : Nat} (hk : k = 1048576) : (szO (bO l)).1 < 10 ^ k ∧ (szO (bO l)).2 < 10 ^ k := by
  by_cases h : l = []
  · subst h
    exact ⟨Nat.one_lt_pow (by omega) (by decide), Nat.pow_pos (by decide)⟩
  · rw [bO_some h, hk]
    exact bd_of (okB_can ok h) hl
theorem sim_bd {la lb : List UInt8} (oka : okB la = true) (okb : okB lb = true) (hla : la.length ≤ 1048576) (hlb : lb.length ≤ 1048576) (o : OrdO (bO la) (bO lb)) : Bd 1048577 (simQ (bO la) (bO lb)) := by
  obtain ⟨k, hk⟩ : ∃ k, k = 1048576 := ⟨_, rfl⟩
  obtain ⟨a1, a2⟩ := szO_bd oka hla hk
  obtain ⟨b1, b2⟩ := szO_bd okb hlb hk
  have hk1 : 1048577 = k + 1 := by omega
  rw [hk1]
  have e : (10 : Nat) ^ (k + 1) = 10 ^ k * 10 := Nat.pow_succ ..
  have p0 : 0 < (10 : Nat) ^ k := Nat.pow_pos (by decide)
  unfold Bd
  rw [e]
  generalize (10 : Nat) ^ k = t at *
  unfold simQ
  cases hu : up0 (bO la) with
  | true =>
    rw [if_pos rfl]
    have bt := bt_up hu o
    have c := M.smp_cop _ _ _ _ bt
    have l := M.smp_le bt
    obtain ⟨e1, e2⟩ := mk_cop (n := (sim2 (szO (bO la)) (szO (bO lb))).1) (d := (sim2 (szO (bO la)) (szO (bO lb))).2) c.1 c.2.2
    rw [e1, e2, Int.natAbs_natCast]
    have l1 : (sim2 (szO (bO la)) (szO (bO lb))).1 ≤ _ := l.1
    have l2 : (sim2 (szO (bO la)) (szO (bO lb))).2 ≤ _ := l.2
    omega
  | false =>
    rw [if_neg (by decide)]
    cases hd : dn0 (bO lb) with
    | true =>
      rw [if_pos rfl]
      have bt := bt_dn hd o
      have c := M.smp_cop _ _ _ _ bt
      have l := M.smp_le bt
      obtain ⟨e1, e2⟩ := mk_cop (n := (sim2 (szO (bO lb)) (szO (bO la))).1) (d := (sim2 (szO (bO lb)) (szO (bO la))).2) c.1 c.2.2
      obtain ⟨f1, f2⟩ := neg_parts (mkRat ((sim2 (szO (bO lb)) (szO (bO la))).1 : Int) (sim2 (szO (bO lb)) (szO (bO la))).2)
      rw [f1, f2, e1, e2, Int.natAbs_natCast]
      have l1 : (sim2 (szO (bO lb)) (szO (bO la))).1 ≤ _ := l.1
      have l2 : (sim2 (szO (bO lb)) (szO (bO la))).2 ≤ _ := l.2
      omega
    | false =>
      rw [if_neg (by decide)]
      show 0 < _ ∧ 1 < _
      omega
theorem bd_den {q : Rat} {k : Nat} (h : Bd k q) (hk : 1 ≤ k) : Bd k (mkRat (q.den : Int) 1) := by
  obtain ⟨e1, e2⟩ := mk_cop (Nat.gcd_one_right q.den) Nat.one_pos
  unfold Bd
  rw [e1, e2, Int.natAbs_natCast]
  exact ⟨h.2, Nat.one_lt_pow (by omega) (by decide)⟩
theorem abs_parts (q : Rat) : (absQ q).num = q.num.natAbs ∧ (absQ q).den = q.den := mk_cop q.reduced q.den_pos
theorem bd_abs {q : Rat} {k : Nat} (h : Bd k q) : Bd k (absQ q) := by
  obtain ⟨e1, e2⟩ := abs_parts q
  unfold Bd
  rw [e1, e2, Int.natAbs_natCast]
  exact h
theorem cmp_den (a b : Nat) : (a < b → cmpQ (mkRat (a : Int) 1) (mkRat (b : Int) 1) = -1) ∧ (a = b → cmpQ (mkRat (a : Int) 1) (mkRat (b : Int) 1) = 0) := by
  obtain ⟨e1, e2⟩ := mk_cop (Nat.gcd_one_right a) Nat.one_pos
  obtain ⟨f1, f2⟩ := mk_cop (Nat.gcd_one_right b) Nat.one_pos
  constructor
  · intro h
    rw [cmpQ_m1, lt_cross, e1, e2, f1, f2]
    omega
  · intro h
    subst h
    unfold cmpQ
    rw [if_neg (fun c => Rat.not_le.2 c Rat.le_refl), if_pos rfl]
theorem cmp_abs {x c : Rat} (hd : x.den = c.den) (hn : x.num.natAbs < c.num.natAbs) : cmpQ (absQ x) (absQ c) = -1 := by
  obtain ⟨e1, e2⟩ := abs_parts x
  obtain ⟨f1, f2⟩ := abs_parts c
  rw [cmpQ_m1, lt_cross, e1, e2, f1, f2, hd]
  have hp := c.den_pos
  have : x.num.natAbs * c.den < c.num.natAbs * c.den := Nat.mul_lt_mul_of_pos_right hn hp
  exact_mod_cast this
set_option maxRecDepth 100000 in
set_option maxHeartbeats 8000000 in
theorem within_t (w : World) (sa sx sb : ByteArray) (la lb : List UInt8) (ha : sa.data.toList = la) (hb : sb.data.toList = lb) (oka : okB la = true) (okb : okB lb = true) (hla : la.length ≤ 1048576) (hlb : lb.length ≤ 1048576) (x : Rat) (hx : sx = tB x) (zx : Sz x) (env : Env w) (R : Bool) (hR : (loB (bO la) x && hiB (bO lb) x) = R) :
    Calls Tryz.prog 17 #[.string sa, .string sx, .string sb] w fun e w' => e = .returned (.bool R) ∧ Below w.heap.size w w' := by
  have bw : Hid (Below w.heap.size w w) := Below.refl _ _
  have EE := hide env
  by_cases h1 : la = []
  · have e1 : bO la = none := by rw [h1]; rfl
    have s1 := nil_of ha h1
    rw [e1] at hR
    subst s1
    by_cases h2 : lb = []
    · have e2 : bO lb = none := by rw [h2]; rfl
      have s2 := nil_of hb h2
      rw [e2] at hR
      subst s2
      have hR2 : R = true := hR.symm
      subst hR2
      clear hR ha hb oka okb hla hlb hx zx e1 e2 h1 h2 env
      go_enter Tryz.func17, Tryz.ntmps17
      go_wp2
      go_ret
      exact ⟨rfl, bw.out⟩
    · have e2 := bO_some h2
      have i2 := isE hb h2
      have hc := okB_can okb h2
      rw [e2] at hR
      have k2 := hide (fun W (h : Env W) => cmp_t W sx sb x (qV lb) hx (eq_tB hb hc) zx ((bd_of hc hlb).sz (by decide) (by decide)) h)
      change (true && (cmpQ x (qV lb) == -1)) = R at hR
      generalize cmpQ x (qV lb) = c2 at *
      by_cases hc2 : c2 = -1
      · subst hc2
        have hR2 : R = true := hR.symm
        subst hR2
        clear hR ha hb oka okb hla hlb hx zx e1 e2 h1 h2 hc env
        go_enter Tryz.func17, Tryz.ntmps17
        go_wp2_with (go_at_call 16; refine (k2.out _ (EE.out.below bw.out)).mono ?_; rintro e w1 ⟨rfl, b1⟩; replace bw := hide (bw.out.then_below b1); clear b1)
        go_ret
        exact ⟨rfl, bw.out⟩
      · have hb2 : (c2 == -1) = false := beq_eq_false_iff_ne.2 hc2
        have hR2 : R = false := by rw [← hR, hb2]; rfl
        subst hR2
        clear hR ha hb oka okb hla hlb hx zx e1 e2 h1 h2 hc env
        go_enter Tryz.func17, Tryz.ntmps17
        go_wp2_with (go_at_call 16; refine (k2.out _ (EE.out.below bw.out)).mono ?_; rintro e w1 ⟨rfl, b1⟩; replace bw := hide (bw.out.then_below b1); clear b1)
        go_ret
        exact ⟨rfl, bw.out⟩
  · have e1 := bO_some h1
    have i1 := isE ha h1
    have hca := okB_can oka h1
    rw [e1] at hR
    have k1 := hide (fun W (h : Env W) => cmp_t W sa sx (qV la) x (eq_tB ha hca) hx ((bd_of hca hla).sz (by decide) (by decide)) zx h)
    change ((cmpQ (qV la) x == -1) && hiB (bO lb) x) = R at hR
    generalize cmpQ (qV la) x = c1 at *
    by_cases hc1 : c1 = -1
    · subst hc1
      by_cases h2 : lb = []
      · have e2 : bO lb = none := by rw [h2]; rfl
        have s2 := nil_of hb h2
        rw [e2] at hR
        subst s2
        have hR2 : R = true := hR.symm
        subst hR2
        clear hR ha hb oka okb hla hlb hx zx e1 e2 h1 h2 hca env
        go_enter Tryz.func17, Tryz.ntmps17
        go_wp2_with (go_at_call 16; refine (k1.out _ (EE.out.below bw.out)).mono ?_; rintro e w1 ⟨rfl, b1⟩; replace bw := hide (bw.out.then_below b1); clear b1)
        go_ret
        exact ⟨rfl, bw.out⟩
      · have e2 := bO_some h2
        have i2 := isE hb h2
        have hc := okB_can okb h2
        rw [e2] at hR
        have k2 := hide (fun W (h : Env W) => cmp_t W sx sb x (qV lb) hx (eq_tB hb hc) zx ((bd_of hc hlb).sz (by decide) (by decide)) h)
        change (true && (cmpQ x (qV lb) == -1)) = R at hR
        generalize cmpQ x (qV lb) = c2 at *
        by_cases hc2 : c2 = -1
        · subst hc2
          have hR2 : R = true := hR.symm
          subst hR2
          clear hR ha hb oka okb hla hlb hx zx e1 e2 h1 h2 hc hca env
          go_enter Tryz.func17, Tryz.ntmps17
          go_wp2_with (first
            | (go_at_call_of 16 (Value.string sa); refine (k1.out _ (EE.out.below bw.out)).mono ?_; rintro e w1 ⟨rfl, b1⟩; replace bw := hide (bw.out.then_below b1); clear b1)
            | (go_at_call_of 16 (Value.string sb); refine (k2.out _ (EE.out.below bw.out)).mono ?_; rintro e w1 ⟨rfl, b1⟩; replace bw := hide (bw.out.then_below b1); clear b1))
          go_ret
          exact ⟨rfl, bw.out⟩
        · have hb2 : (c2 == -1) = false := beq_eq_false_iff_ne.2 hc2
          have hR2 : R = false := by rw [← hR, hb2]; rfl
          subst hR2
          clear hR ha hb oka okb hla hlb hx zx e1 e2 h1 h2 hc hca env
          go_enter Tryz.func17, Tryz.ntmps17
          go_wp2_with (first
            | (go_at_call_of 16 (Value.string sa); refine (k1.out _ (EE.out.below bw.out)).mono ?_; rintro e w1 ⟨rfl, b1⟩; replace bw := hide (bw.out.then_below b1); clear b1)
            | (go_at_call_of 16 (Value.string sb); refine (k2.out _ (EE.out.below bw.out)).mono ?_; rintro e w1 ⟨rfl, b1⟩; replace bw := hide (bw.out.then_below b1); clear b1))
          go_ret
          exact ⟨rfl, bw.out⟩
    · have hb1 : (c1 == -1) = false := beq_eq_false_iff_ne.2 hc1
      have hR2 : R = false := by rw [← hR, hb1]; rfl
      subst hR2
      clear hR ha hb oka okb hla hlb hx zx e1 h1 hca env
      go_enter Tryz.func17, Tryz.ntmps17
      go_wp2_with (go_at_call_of 16 (Value.string sa); refine (k1.out _ (EE.out.below bw.out)).mono ?_; rintro e w1 ⟨rfl, b1⟩; replace bw := hide (bw.out.then_below b1); clear b1)
      go_ret
      exact ⟨rfl, bw.out⟩
set_option maxRecDepth 100000 in
set_option maxHeartbeats 8000000 in
theorem near_bad (w : World) (sa sb sc : ByteArray) (la lb lc : List UInt8) (ha : sa.data.toList = la) (hb : sb.data.toList = lb) (hc : sc.data.toList = lc) (hla : la.length ≤ 1048576) (hlb : lb.length ≤ 1048576) (hlc : lc.length ≤ 1048576) (env : Env w) (hk : (okB la && okB lb) = false) :
    Calls Tryz.prog 5 #[.string sa, .string sb, .string sc] w fun e w' => e = .returned (.bool true) ∧ Below w.heap.size w w' := by
  have q0 := hide (fun W (h : Env W) => numSimplest_calls W sa sb la lb ha hb hla hlb h)
  have e0 : simT la lb = ([], 1) := by unfold simT; rw [hk]; rfl
  rw [e0] at q0
  have za := sz_of ha hla
  have zb := sz_of hb hlb
  have k1 := hide (fun W (h : Env W) => canon_b W sa (by omega) h)
  have k2 := hide (fun W (h : Env W) => canon_b W sb (by omega) h)
  rw [ha] at k1
  rw [hb] at k2
  have bw : Hid (Below w.heap.size w w) := Below.refl _ _
  have EE := hide env
  clear env e0 za zb
  by_cases h1 : la = []
  · by_cases h2 : lb = []
    · exact absurd hk (by rw [h1, h2]; decide)
    · cases c2 : canB lb with
      | true =>
        exact absurd hk (by rw [h1]; unfold okB; rw [c2, Bool.or_true]; decide)
      | false =>
        rw [c2] at k2
        have s1 := nil_of ha h1
        subst s1
        have i2 := isE hb h2
        clear ha hb hla hlb hk h1 h2 hc hlc c2
        go_enter Tryz.func5, Tryz.ntmps5
        go_wp2_with (first
          | (go_at_call 15; refine (heads_b _ (EE.out.below bw.out)).mono ?_; rintro e w1 ⟨rfl, b1⟩; replace bw := hide (bw.out.then_below b1); clear b1)
          | (go_at_call 13; refine (q0.out _ (EE.out.below bw.out)).mono ?_; rintro e w1 ⟨rfl, b1⟩; replace bw := hide (bw.out.then_below b1); clear b1)
          | (go_at_call_of 10 (Value.string sb); refine (k2.out _ (EE.out.below bw.out)).mono ?_; rintro e w1 ⟨rfl, b1⟩; replace bw := hide (bw.out.then_below b1); clear b1)
          | (go_at_call 9; refine (no_b _ _).mono ?_; rintro e w1 ⟨rfl, hw⟩; replace hw := hw.symm; subst hw))
        go_ret
        exact ⟨rfl, bw.out⟩
  · cases c1 : canB la with
    | true =>
      rw [c1] at k1
      by_cases h2 : lb = []
      · exact absurd hk (by rw [h2]; unfold okB; rw [c1, Bool.or_true]; decide)
      · cases c2 : canB lb with
        | true =>
          exact absurd hk (by unfold okB; rw [c1, c2, Bool.or_true, Bool.or_true]; decide)
        | false =>
          rw [c2] at k2
          have i1 := isE ha h1
          have i2 := isE hb h2
          clear ha hb hla hlb hk h1 h2 hc hlc c1 c2
          go_enter Tryz.func5, Tryz.ntmps5
          go_wp2_with (first
            | (go_at_call 15; refine (heads_b _ (EE.out.below bw.out)).mono ?_; rintro e w1 ⟨rfl, b1⟩; replace bw := hide (bw.out.then_below b1); clear b1)
            | (go_at_call 13; refine (q0.out _ (EE.out.below bw.out)).mono ?_; rintro e w1 ⟨rfl, b1⟩; replace bw := hide (bw.out.then_below b1); clear b1)
            | (go_at_call_of 10 (Value.string sa); refine (k1.out _ (EE.out.below bw.out)).mono ?_; rintro e w1 ⟨rfl, b1⟩; replace bw := hide (bw.out.then_below b1); clear b1)
            | (go_at_call_of 10 (Value.string sb); refine (k2.out _ (EE.out.below bw.out)).mono ?_; rintro e w1 ⟨rfl, b1⟩; replace bw := hide (bw.out.then_below b1); clear b1)
            | (go_at_call 9; refine (no_b _ _).mono ?_; rintro e w1 ⟨rfl, hw⟩; replace hw := hw.symm; subst hw))
          go_ret
          exact ⟨rfl, bw.out⟩
    | false =>
      rw [c1] at k1
      by_cases h2 : lb = []
      · have i1 := isE ha h1
        have s2 := nil_of hb h2
        subst s2
        clear ha hb hla hlb hk h1 h2 hc hlc c1
        go_enter Tryz.func5, Tryz.ntmps5
        go_wp2_with (first
          | (go_at_call 15; refine (heads_b _ (EE.out.below bw.out)).mono ?_; rintro e w1 ⟨rfl, b1⟩; replace bw := hide (bw.out.then_below b1); clear b1)
          | (go_at_call 13; refine (q0.out _ (EE.out.below bw.out)).mono ?_; rintro e w1 ⟨rfl, b1⟩; replace bw := hide (bw.out.then_below b1); clear b1)
          | (go_at_call_of 10 (Value.string sa); refine (k1.out _ (EE.out.below bw.out)).mono ?_; rintro e w1 ⟨rfl, b1⟩; replace bw := hide (bw.out.then_below b1); clear b1)
          | (go_at_call 9; refine (no_b _ _).mono ?_; rintro e w1 ⟨rfl, hw⟩; replace hw := hw.symm; subst hw))
        go_ret
        exact ⟨rfl, bw.out⟩
      · cases c2 : canB lb with
        | true =>
          rw [c2] at k2
          have i1 := isE ha h1
          have i2 := isE hb h2
          clear ha hb hla hlb hk h1 h2 hc hlc c1 c2
          go_enter Tryz.func5, Tryz.ntmps5
          go_wp2_with (first
            | (go_at_call 15; refine (heads_b _ (EE.out.below bw.out)).mono ?_; rintro e w1 ⟨rfl, b1⟩; replace bw := hide (bw.out.then_below b1); clear b1)
            | (go_at_call 13; refine (q0.out _ (EE.out.below bw.out)).mono ?_; rintro e w1 ⟨rfl, b1⟩; replace bw := hide (bw.out.then_below b1); clear b1)
            | (go_at_call_of 10 (Value.string sa); refine (k1.out _ (EE.out.below bw.out)).mono ?_; rintro e w1 ⟨rfl, b1⟩; replace bw := hide (bw.out.then_below b1); clear b1)
            | (go_at_call_of 10 (Value.string sb); refine (k2.out _ (EE.out.below bw.out)).mono ?_; rintro e w1 ⟨rfl, b1⟩; replace bw := hide (bw.out.then_below b1); clear b1)
            | (go_at_call 9; refine (no_b _ _).mono ?_; rintro e w1 ⟨rfl, hw⟩; replace hw := hw.symm; subst hw))
          go_ret
          exact ⟨rfl, bw.out⟩
        | false =>
          rw [c2] at k2
          have i1 := isE ha h1
          have i2 := isE hb h2
          clear ha hb hla hlb hk h1 h2 hc hlc c1 c2
          go_enter Tryz.func5, Tryz.ntmps5
          go_wp2_with (first
            | (go_at_call 15; refine (heads_b _ (EE.out.below bw.out)).mono ?_; rintro e w1 ⟨rfl, b1⟩; replace bw := hide (bw.out.then_below b1); clear b1)
            | (go_at_call 13; refine (q0.out _ (EE.out.below bw.out)).mono ?_; rintro e w1 ⟨rfl, b1⟩; replace bw := hide (bw.out.then_below b1); clear b1)
            | (go_at_call_of 10 (Value.string sa); refine (k1.out _ (EE.out.below bw.out)).mono ?_; rintro e w1 ⟨rfl, b1⟩; replace bw := hide (bw.out.then_below b1); clear b1)
            | (go_at_call_of 10 (Value.string sb); refine (k2.out _ (EE.out.below bw.out)).mono ?_; rintro e w1 ⟨rfl, b1⟩; replace bw := hide (bw.out.then_below b1); clear b1)
            | (go_at_call 9; refine (no_b _ _).mono ?_; rintro e w1 ⟨rfl, hw⟩; replace hw := hw.symm; subst hw))
          go_ret
          exact ⟨rfl, bw.out⟩
set_option maxRecDepth 100000 in
set_option maxHeartbeats 8000000 in
theorem near_ord (w : World) (sa sb sc : ByteArray) (la lb lc : List UInt8) (ha : sa.data.toList = la) (hb : sb.data.toList = lb) (hc : sc.data.toList = lc) (hla : la.length ≤ 1048576) (hlb : lb.length ≤ 1048576) (hlc : lc.length ≤ 1048576) (env : Env w) (oka : okB la = true) (okb : okB lb = true) (hO : ordB (bO la) (bO lb) = false) :
    Calls Tryz.prog 5 #[.string sa, .string sb, .string sc] w fun e w' => e = .returned (.bool true) ∧ Below w.heap.size w w' := by
  have h1 : la ≠ [] := fun e => by rw [e] at hO; cases hO
  have h2 : lb ≠ [] := fun e => by rw [e, bO_nil] at hO; cases hbo : bO la <;> rw [hbo] at hO <;> cases hO
  have hca := okB_can oka h1
  have hcb := okB_can okb h2
  have q0 := hide (fun W (h : Env W) => numSimplest_calls W sa sb la lb ha hb hla hlb h)
  have e0 : simT la lb = ([], 3) := by unfold simT; rw [oka, okb, hO]; rfl
  rw [e0] at q0
  have za := sz_of ha hla
  have zb := sz_of hb hlb
  have k1 := hide (fun W (h : Env W) => canon_b W sa (by omega) h)
  have k2 := hide (fun W (h : Env W) => canon_b W sb (by omega) h)
  rw [ha, (canB_iff la).2 hca] at k1
  rw [hb, (canB_iff lb).2 hcb] at k2
  have k3 := hide (fun W (h : Env W) => cmp_t W sa sb (qV la) (qV lb) (eq_tB ha hca) (eq_tB hb hcb) ((bd_of hca hla).sz (by decide) (by decide)) ((bd_of hcb hlb).sz (by decide) (by decide)) h)
  have n1 : ¬ cmpQ (qV la) (qV lb) = -1 := fun e => by
    rw [bO_some h1, bO_some h2] at hO
    have : ¬ cmpQ (qV la) (qV lb) < 0 := of_decide_eq_false hO
    omega
  generalize cmpQ (qV la) (qV lb) = cv at *
  have n2 : (cv == -1) = false := beq_eq_false_iff_ne.2 n1
  have n3 : (cv != -1) = true := by rw [bne, n2]; rfl
  have i1 := isE ha h1
  have i2 := isE hb h2
  have bw : Hid (Below w.heap.size w w) := Below.refl _ _
  have EE := hide env
  clear env e0 za zb ha hb hc hla hlb hlc oka okb hO h1 h2 hca hcb
  go_enter Tryz.func5, Tryz.ntmps5
  go_wp2_with (first
    | (go_at_call 15; refine (heads_b _ (EE.out.below bw.out)).mono ?_; rintro e w1 ⟨rfl, b1⟩; replace bw := hide (bw.out.then_below b1); clear b1)
    | (go_at_call 13; refine (q0.out _ (EE.out.below bw.out)).mono ?_; rintro e w1 ⟨rfl, b1⟩; replace bw := hide (bw.out.then_below b1); clear b1)
    | (go_at_call_of 10 (Value.string sa); refine (k1.out _ (EE.out.below bw.out)).mono ?_; rintro e w1 ⟨rfl, b1⟩; replace bw := hide (bw.out.then_below b1); clear b1)
    | (go_at_call_of 10 (Value.string sb); refine (k2.out _ (EE.out.below bw.out)).mono ?_; rintro e w1 ⟨rfl, b1⟩; replace bw := hide (bw.out.then_below b1); clear b1)
    | (go_at_call_of 16 (Value.string sa); refine (k3.out _ (EE.out.below bw.out)).mono ?_; rintro e w1 ⟨rfl, b1⟩; replace bw := hide (bw.out.then_below b1); clear b1)
    | (go_at_call 9; refine (no_b _ _).mono ?_; rintro e w1 ⟨rfl, hw⟩; replace hw := hw.symm; subst hw))
  go_ret
  exact ⟨rfl, bw.out⟩
set_option maxRecDepth 100000 in
set_option maxHeartbeats 8000000 in
theorem near_main_nn (w : World) (sa sb sc : ByteArray) (la lb lc : List UInt8) (ha : sa.data.toList = la) (hb : sb.data.toList = lb) (hc : sc.data.toList = lc) (hla : la.length ≤ 1048576) (hlb : lb.length ≤ 1048576) (hlc : lc.length ≤ 1048576) (env : Env w) (oka : okB la = true) (okb : okB lb = true) (hO : OrdO (bO la) (bO lb)) (h1 : la = []) (h2 : lb = []) :
    Calls Tryz.prog 5 #[.string sa, .string sb, .string sc] w fun e w' => e = .returned (.bool true) ∧ Below w.heap.size w w' := by
  have q0 := hide (fun W (h : Env W) => numSimplest_calls W sa sb la lb ha hb hla hlb h)
  have e0 : simT la lb = (qT (simQ (bO la) (bO lb)), 0) := by unfold simT; rw [oka, okb, ordB_iff.2 hO]; rfl
  rw [e0] at q0
  have bq := sim_bd oka okb hla hlb hO
  have win := win_iff.2 (simQ_in hO)
  have mn := hide (fun c => simQ_min hO (c := c))
  obtain ⟨q, hq⟩ : ∃ q, simQ (bO la) (bO lb) = q := ⟨_, rfl⟩
  rw [hq] at q0 bq win mn
  have szq : Sz q := bq.sz (by decide) (by decide)
  obtain ⟨X, hX⟩ : ∃ X, X = tB q := ⟨_, rfl⟩
  have eX : (⟨(qT q).toArray⟩ : ByteArray) = X := hX.symm
  rw [eX] at q0
  have kx := hide (fun W (h : Env W) => canon_t W X q hX szq h)
  have kw := hide (fun W (h : Env W) => within_t W sa X sb la lb ha hb oka okb hla hlb q hX szq h true win)
  have zX : X.size ≤ 1073741824 := by rw [hX]; exact szq
  have zc := sz_of hc hlc
  have kc := hide (fun W (h : Env W) => canon_b W sc (by omega) h)
  rw [hc] at kc
  have bw : Hid (Below w.heap.size w w) := Below.refl _ _
  have EE := hide env
  cases cc : canB lc with
  | false =>
    rw [cc] at kc
    have s1 := nil_of ha h1
    subst s1
    have s2 := nil_of hb h2
    subst s2
    clear env e0 zc zX ha hb hla hlb hlc oka okb hO h1 h2 hq eX win bq szq hc cc hX mn
    go_enter Tryz.func5, Tryz.ntmps5
    go_wp2_with (first
      | (go_at_call 15; refine (heads_b _ (EE.out.below bw.out)).mono ?_; rintro e w1 ⟨rfl, b1⟩; replace bw := hide (bw.out.then_below b1); clear b1)
      | (go_at_call 13; refine (q0.out _ (EE.out.below bw.out)).mono ?_; rintro e w1 ⟨rfl, b1⟩; replace bw := hide (bw.out.then_below b1); clear b1)
      | (go_at_call_of 10 (Value.string X); refine (kx.out _ (EE.out.below bw.out)).mono ?_; rintro e w1 ⟨rfl, b1⟩; replace bw := hide (bw.out.then_below b1); clear b1)
      | (go_at_call_of 17 (Value.string X); refine (kw.out _ (EE.out.below bw.out)).mono ?_; rintro e w1 ⟨rfl, b1⟩; replace bw := hide (bw.out.then_below b1); clear b1)
      | (go_at_call 9; refine (no_b _ _).mono ?_; rintro e w1 ⟨rfl, hw⟩; replace hw := hw.symm; subst hw)
      | (go_at_call_of 10 (Value.string sc); refine (kc.out _ (EE.out.below bw.out)).mono ?_; rintro e w1 ⟨rfl, b1⟩; replace bw := hide (bw.out.then_below b1); clear b1))
    go_ret
    exact ⟨rfl, bw.out⟩
  | true =>
    rw [cc] at kc
    have hcc := (canB_iff lc).1 cc
    have hsc := eq_tB hc hcc
    have bc := bd_of hcc hlc
    have szc : Sz (qV lc) := bc.sz (by decide) (by decide)
    by_cases hEq : sc = X
    · subst hEq
      have s1 := nil_of ha h1
      subst s1
      have s2 := nil_of hb h2
      subst s2
      clear env e0 zc zX ha hb hla hlb hlc oka okb hO h1 h2 hq eX win bq szq hc cc hX mn hcc hsc bc szc kx
      go_enter Tryz.func5, Tryz.ntmps5
      go_wp2_with (first
        | (go_at_call 15; refine (heads_b _ (EE.out.below bw.out)).mono ?_; rintro e w1 ⟨rfl, b1⟩; replace bw := hide (bw.out.then_below b1); clear b1)
        | (go_at_call 13; refine (q0.out _ (EE.out.below bw.out)).mono ?_; rintro e w1 ⟨rfl, b1⟩; replace bw := hide (bw.out.then_below b1); clear b1)
        | (go_at_call 9; refine (no_b _ _).mono ?_; rintro e w1 ⟨rfl, hw⟩; replace hw := hw.symm; subst hw)
        | (go_at_call_of 10 (Value.string sc); refine (kc.out _ (EE.out.below bw.out)).mono ?_; rintro e w1 ⟨rfl, b1⟩; replace bw := hide (bw.out.then_below b1); clear b1)
        | (go_at_call_of 17 (Value.string sc); refine (kw.out _ (EE.out.below bw.out)).mono ?_; rintro e w1 ⟨rfl, b1⟩; replace bw := hide (bw.out.then_below b1); clear b1))
      go_ret
      exact ⟨rfl, bw.out⟩
    · have hne : qV lc ≠ q := fun e => hEq (by rw [hsc, hX, e])
      obtain ⟨o2, o3, o4, o5, o6⟩ := str_ne2 hEq
      obtain ⟨R, hR⟩ : ∃ R, (loB (bO la) (qV lc) && hiB (bO lb) (qV lc)) = R := ⟨_, rfl⟩
      have kv := hide (fun W (h : Env W) => within_t W sa sc sb la lb ha hb oka okb hla hlb (qV lc) hsc szc h R hR)
      cases R with
      | false =>
        have s1 := nil_of ha h1
        subst s1
        have s2 := nil_of hb h2
        subst s2
        clear env e0 zc zX ha hb hla hlb hlc oka okb hO h1 h2 hq eX win bq szq hc cc hX mn hcc hsc bc szc hR hne hEq
        go_enter Tryz.func5, Tryz.ntmps5
        go_wp2_with (first
          | (go_at_call 15; refine (heads_b _ (EE.out.below bw.out)).mono ?_; rintro e w1 ⟨rfl, b1⟩; replace bw := hide (bw.out.then_below b1); clear b1)
          | (go_at_call 13; refine (q0.out _ (EE.out.below bw.out)).mono ?_; rintro e w1 ⟨rfl, b1⟩; replace bw := hide (bw.out.then_below b1); clear b1)
          | (go_at_call_of 10 (Value.string X); refine (kx.out _ (EE.out.below bw.out)).mono ?_; rintro e w1 ⟨rfl, b1⟩; replace bw := hide (bw.out.then_below b1); clear b1)
          | (go_at_call_of 17 (Value.string X); refine (kw.out _ (EE.out.below bw.out)).mono ?_; rintro e w1 ⟨rfl, b1⟩; replace bw := hide (bw.out.then_below b1); clear b1)
          | (go_at_call 9; refine (no_b _ _).mono ?_; rintro e w1 ⟨rfl, hw⟩; replace hw := hw.symm; subst hw)
          | (go_at_call_of 10 (Value.string sc); refine (kc.out _ (EE.out.below bw.out)).mono ?_; rintro e w1 ⟨rfl, b1⟩; replace bw := hide (bw.out.then_below b1); clear b1)
          | (go_at_call_of 17 (Value.string sc); refine (kv.out _ (EE.out.below bw.out)).mono ?_; rintro e w1 ⟨rfl, b1⟩; replace bw := hide (bw.out.then_below b1); clear b1))
        go_ret
        exact ⟨rfl, bw.out⟩
      | true =>
        have mm := mn.out (qV lc) (win_iff.1 hR) hne
        have ku := hide (fun W => under_t W X q hX zX)
        have kuc := hide (fun W => under_t W sc (qV lc) hsc (by omega))
        obtain ⟨U, hU⟩ : ∃ U, U = tB (mkRat (q.den : Int) 1) := ⟨_, rfl⟩
        obtain ⟨V, hV⟩ : ∃ V, V = tB (mkRat ((qV lc).den : Int) 1) := ⟨_, rfl⟩
        rw [← hU] at ku
        rw [← hV] at kuc
        have kd := hide (fun W (h : Env W) => cmp_t W U V _ _ hU hV ((bd_den bq (by decide)).sz (by decide) (by decide)) ((bd_den bc (by decide)).sz (by decide) (by decide)) h)
        rcases mm with mm | ⟨m1, m2⟩
        · rw [(cmp_den _ _).1 mm] at kd
          have s1 := nil_of ha h1
          subst s1
          have s2 := nil_of hb h2
          subst s2
          clear env e0 zc zX ha hb hla hlb hlc oka okb hO h1 h2 hq eX win bq szq hc cc hX mn hcc hsc bc szc hR hne hEq hU hV mm
          go_enter Tryz.func5, Tryz.ntmps5
          go_wp2_with (first
            | (go_at_call 15; refine (heads_b _ (EE.out.below bw.out)).mono ?_; rintro e w1 ⟨rfl, b1⟩; replace bw := hide (bw.out.then_below b1); clear b1)
            | (go_at_call 13; refine (q0.out _ (EE.out.below bw.out)).mono ?_; rintro e w1 ⟨rfl, b1⟩; replace bw := hide (bw.out.then_below b1); clear b1)
            | (go_at_call_of 10 (Value.string X); refine (kx.out _ (EE.out.below bw.out)).mono ?_; rintro e w1 ⟨rfl, b1⟩; replace bw := hide (bw.out.then_below b1); clear b1)
            | (go_at_call_of 17 (Value.string X); refine (kw.out _ (EE.out.below bw.out)).mono ?_; rintro e w1 ⟨rfl, b1⟩; replace bw := hide (bw.out.then_below b1); clear b1)
            | (go_at_call 9; refine (no_b _ _).mono ?_; rintro e w1 ⟨rfl, hw⟩; replace hw := hw.symm; subst hw)
            | (go_at_call_of 10 (Value.string sc); refine (kc.out _ (EE.out.below bw.out)).mono ?_; rintro e w1 ⟨rfl, b1⟩; replace bw := hide (bw.out.then_below b1); clear b1)
            | (go_at_call_of 17 (Value.string sc); refine (kv.out _ (EE.out.below bw.out)).mono ?_; rintro e w1 ⟨rfl, b1⟩; replace bw := hide (bw.out.then_below b1); clear b1)
            | (go_at_call_of 18 (Value.string X); refine (ku.out _).mono ?_; rintro e w1 ⟨rfl, hw⟩; replace hw := hw.symm; subst hw)
            | (go_at_call_of 18 (Value.string sc); refine (kuc.out _).mono ?_; rintro e w1 ⟨rfl, hw⟩; replace hw := hw.symm; subst hw)
            | (go_at_call_of 16 (Value.string U); refine (kd.out _ (EE.out.below bw.out)).mono ?_; rintro e w1 ⟨rfl, b1⟩; replace bw := hide (bw.out.then_below b1); clear b1))
          go_ret
          exact ⟨rfl, bw.out⟩
        · rw [(cmp_den _ _).2 m1] at kd
          have ks := hide (fun W => size_t W X q hX zX)
          have ksc := hide (fun W => size_t W sc (qV lc) hsc (by omega))
          obtain ⟨Y, hY⟩ : ∃ Y, Y = tB (absQ q) := ⟨_, rfl⟩
          obtain ⟨Z, hZ⟩ : ∃ Z, Z = tB (absQ (qV lc)) := ⟨_, rfl⟩
          rw [← hY] at ks
          rw [← hZ] at ksc
          have ke := hide (fun W (h : Env W) => cmp_t W Y Z _ _ hY hZ ((bd_abs bq).sz (by decide) (by decide)) ((bd_abs bc).sz (by decide) (by decide)) h)
          rw [cmp_abs m1 m2] at ke
          have s1 := nil_of ha h1
          subst s1
          have s2 := nil_of hb h2
          subst s2
          clear env e0 zc zX ha hb hla hlb hlc oka okb hO h1 h2 hq eX win bq szq hc cc hX mn hcc hsc bc szc hR hne hEq hU hV m1 m2 hY hZ
          go_enter Tryz.func5, Tryz.ntmps5
          go_wp2_with (first
            | (go_at_call 15; refine (heads_b _ (EE.out.below bw.out)).mono ?_; rintro e w1 ⟨rfl, b1⟩; replace bw := hide (bw.out.then_below b1); clear b1)
            | (go_at_call 13; refine (q0.out _ (EE.out.below bw.out)).mono ?_; rintro e w1 ⟨rfl, b1⟩; replace bw := hide (bw.out.then_below b1); clear b1)
            | (go_at_call_of 10 (Value.string X); refine (kx.out _ (EE.out.below bw.out)).mono ?_; rintro e w1 ⟨rfl, b1⟩; replace bw := hide (bw.out.then_below b1); clear b1)
            | (go_at_call_of 17 (Value.string X); refine (kw.out _ (EE.out.below bw.out)).mono ?_; rintro e w1 ⟨rfl, b1⟩; replace bw := hide (bw.out.then_below b1); clear b1)
            | (go_at_call 9; refine (no_b _ _).mono ?_; rintro e w1 ⟨rfl, hw⟩; replace hw := hw.symm; subst hw)
            | (go_at_call_of 10 (Value.string sc); refine (kc.out _ (EE.out.below bw.out)).mono ?_; rintro e w1 ⟨rfl, b1⟩; replace bw := hide (bw.out.then_below b1); clear b1)
            | (go_at_call_of 17 (Value.string sc); refine (kv.out _ (EE.out.below bw.out)).mono ?_; rintro e w1 ⟨rfl, b1⟩; replace bw := hide (bw.out.then_below b1); clear b1)
            | (go_at_call_of 18 (Value.string X); refine (ku.out _).mono ?_; rintro e w1 ⟨rfl, hw⟩; replace hw := hw.symm; subst hw)
            | (go_at_call_of 18 (Value.string sc); refine (kuc.out _).mono ?_; rintro e w1 ⟨rfl, hw⟩; replace hw := hw.symm; subst hw)
            | (go_at_call_of 16 (Value.string U); refine (kd.out _ (EE.out.below bw.out)).mono ?_; rintro e w1 ⟨rfl, b1⟩; replace bw := hide (bw.out.then_below b1); clear b1)
            | (go_at_call_of 19 (Value.string X); refine (ks.out _).mono ?_; rintro e w1 ⟨rfl, hw⟩; replace hw := hw.symm; subst hw)
            | (go_at_call_of 19 (Value.string sc); refine (ksc.out _).mono ?_; rintro e w1 ⟨rfl, hw⟩; replace hw := hw.symm; subst hw)
            | (go_at_call_of 16 (Value.string Y); refine (ke.out _ (EE.out.below bw.out)).mono ?_; rintro e w1 ⟨rfl, b1⟩; replace bw := hide (bw.out.then_below b1); clear b1))
          go_ret
          exact ⟨rfl, bw.out⟩
set_option maxRecDepth 100000 in
set_option maxHeartbeats 8000000 in
theorem near_main_nt (w : World) (sa sb sc : ByteArray) (la lb lc : List UInt8) (ha : sa.data.toList = la) (hb : sb.data.toList = lb) (hc : sc.data.toList = lc) (hla : la.length ≤ 1048576) (hlb : lb.length ≤ 1048576) (hlc : lc.length ≤ 1048576) (env : Env w) (oka : okB la = true) (okb : okB lb = true) (hO : OrdO (bO la) (bO lb)) (h1 : la = []) (h2 : lb ≠ []) :
    Calls Tryz.prog 5 #[.string sa, .string sb, .string sc] w fun e w' => e = .returned (.bool true) ∧ Below w.heap.size w w' := by
  have q0 := hide (fun W (h : Env W) => numSimplest_calls W sa sb la lb ha hb hla hlb h)
  have e0 : simT la lb = (qT (simQ (bO la) (bO lb)), 0) := by unfold simT; rw [oka, okb, ordB_iff.2 hO]; rfl
  rw [e0] at q0
  have bq := sim_bd oka okb hla hlb hO
  have win := win_iff.2 (simQ_in hO)
  have mn := hide (fun c => simQ_min hO (c := c))
  obtain ⟨q, hq⟩ : ∃ q, simQ (bO la) (bO lb) = q := ⟨_, rfl⟩
  rw [hq] at q0 bq win mn
  have szq : Sz q := bq.sz (by decide) (by decide)
  obtain ⟨X, hX⟩ : ∃ X, X = tB q := ⟨_, rfl⟩
  have eX : (⟨(qT q).toArray⟩ : ByteArray) = X := hX.symm
  rw [eX] at q0
  have kx := hide (fun W (h : Env W) => canon_t W X q hX szq h)
  have kw := hide (fun W (h : Env W) => within_t W sa X sb la lb ha hb oka okb hla hlb q hX szq h true win)
  have zX : X.size ≤ 1073741824 := by rw [hX]; exact szq
  have zc := sz_of hc hlc
  have kc := hide (fun W (h : Env W) => canon_b W sc (by omega) h)
  rw [hc] at kc
  have bw : Hid (Below w.heap.size w w) := Below.refl _ _
  have EE := hide env
  have hcb := okB_can okb h2
  have zb := sz_of hb hlb
  have k2 := hide (fun W (h : Env W) => canon_b W sb (by omega) h)
  rw [hb, (canB_iff lb).2 hcb] at k2
  have i2 := isE hb h2
  cases cc : canB lc with
  | false =>
    rw [cc] at kc
    have s1 := nil_of ha h1
    subst s1
    clear env e0 zc zX ha hb hla hlb hlc oka okb hO h1 h2 hq eX win bq szq hcb zb hc cc hX mn
    go_enter Tryz.func5, Tryz.ntmps5
    go_wp2_with (first
      | (go_at_call 15; refine (heads_b _ (EE.out.below bw.out)).mono ?_; rintro e w1 ⟨rfl, b1⟩; replace bw := hide (bw.out.then_below b1); clear b1)
      | (go_at_call 13; refine (q0.out _ (EE.out.below bw.out)).mono ?_; rintro e w1 ⟨rfl, b1⟩; replace bw := hide (bw.out.then_below b1); clear b1)
      | (go_at_call_of 10 (Value.string sb); refine (k2.out _ (EE.out.below bw.out)).mono ?_; rintro e w1 ⟨rfl, b1⟩; replace bw := hide (bw.out.then_below b1); clear b1)
      | (go_at_call_of 10 (Value.string X); refine (kx.out _ (EE.out.below bw.out)).mono ?_; rintro e w1 ⟨rfl, b1⟩; replace bw := hide (bw.out.then_below b1); clear b1)
      | (go_at_call_of 17 (Value.string X); refine (kw.out _ (EE.out.below bw.out)).mono ?_; rintro e w1 ⟨rfl, b1⟩; replace bw := hide (bw.out.then_below b1); clear b1)
      | (go_at_call 9; refine (no_b _ _).mono ?_; rintro e w1 ⟨rfl, hw⟩; replace hw := hw.symm; subst hw)
      | (go_at_call_of 10 (Value.string sc); refine (kc.out _ (EE.out.below bw.out)).mono ?_; rintro e w1 ⟨rfl, b1⟩; replace bw := hide (bw.out.then_below b1); clear b1))
    go_ret
    exact ⟨rfl, bw.out⟩
  | true =>
    rw [cc] at kc
    have hcc := (canB_iff lc).1 cc
    have hsc := eq_tB hc hcc
    have bc := bd_of hcc hlc
    have szc : Sz (qV lc) := bc.sz (by decide) (by decide)
    by_cases hEq : sc = X
    · subst hEq
      have s1 := nil_of ha h1
      subst s1
      clear env e0 zc zX ha hb hla hlb hlc oka okb hO h1 h2 hq eX win bq szq hcb zb hc cc hX mn hcc hsc bc szc kx
      go_enter Tryz.func5, Tryz.ntmps5
      go_wp2_with (first
        | (go_at_call 15; refine (heads_b _ (EE.out.below bw.out)).mono ?_; rintro e w1 ⟨rfl, b1⟩; replace bw := hide (bw.out.then_below b1); clear b1)
        | (go_at_call 13; refine (q0.out _ (EE.out.below bw.out)).mono ?_; rintro e w1 ⟨rfl, b1⟩; replace bw := hide (bw.out.then_below b1); clear b1)
        | (go_at_call_of 10 (Value.string sb); refine (k2.out _ (EE.out.below bw.out)).mono ?_; rintro e w1 ⟨rfl, b1⟩; replace bw := hide (bw.out.then_below b1); clear b1)
        | (go_at_call 9; refine (no_b _ _).mono ?_; rintro e w1 ⟨rfl, hw⟩; replace hw := hw.symm; subst hw)
        | (go_at_call_of 10 (Value.string sc); refine (kc.out _ (EE.out.below bw.out)).mono ?_; rintro e w1 ⟨rfl, b1⟩; replace bw := hide (bw.out.then_below b1); clear b1)
        | (go_at_call_of 17 (Value.string sc); refine (kw.out _ (EE.out.below bw.out)).mono ?_; rintro e w1 ⟨rfl, b1⟩; replace bw := hide (bw.out.then_below b1); clear b1))
      go_ret
      exact ⟨rfl, bw.out⟩
    · have hne : qV lc ≠ q := fun e => hEq (by rw [hsc, hX, e])
      obtain ⟨o2, o3, o4, o5, o6⟩ := str_ne2 hEq
      obtain ⟨R, hR⟩ : ∃ R, (loB (bO la) (qV lc) && hiB (bO lb) (qV lc)) = R := ⟨_, rfl⟩
      have kv := hide (fun W (h : Env W) => within_t W sa sc sb la lb ha hb oka okb hla hlb (qV lc) hsc szc h R hR)
      cases R with
      | false =>
        have s1 := nil_of ha h1
        subst s1
        clear env e0 zc zX ha hb hla hlb hlc oka okb hO h1 h2 hq eX win bq szq hcb zb hc cc hX mn hcc hsc bc szc hR hne hEq
        go_enter Tryz.func5, Tryz.ntmps5
        go_wp2_with (first
          | (go_at_call 15; refine (heads_b _ (EE.out.below bw.out)).mono ?_; rintro e w1 ⟨rfl, b1⟩; replace bw := hide (bw.out.then_below b1); clear b1)
          | (go_at_call 13; refine (q0.out _ (EE.out.below bw.out)).mono ?_; rintro e w1 ⟨rfl, b1⟩; replace bw := hide (bw.out.then_below b1); clear b1)
          | (go_at_call_of 10 (Value.string sb); refine (k2.out _ (EE.out.below bw.out)).mono ?_; rintro e w1 ⟨rfl, b1⟩; replace bw := hide (bw.out.then_below b1); clear b1)
          | (go_at_call_of 10 (Value.string X); refine (kx.out _ (EE.out.below bw.out)).mono ?_; rintro e w1 ⟨rfl, b1⟩; replace bw := hide (bw.out.then_below b1); clear b1)
          | (go_at_call_of 17 (Value.string X); refine (kw.out _ (EE.out.below bw.out)).mono ?_; rintro e w1 ⟨rfl, b1⟩; replace bw := hide (bw.out.then_below b1); clear b1)
          | (go_at_call 9; refine (no_b _ _).mono ?_; rintro e w1 ⟨rfl, hw⟩; replace hw := hw.symm; subst hw)
          | (go_at_call_of 10 (Value.string sc); refine (kc.out _ (EE.out.below bw.out)).mono ?_; rintro e w1 ⟨rfl, b1⟩; replace bw := hide (bw.out.then_below b1); clear b1)
          | (go_at_call_of 17 (Value.string sc); refine (kv.out _ (EE.out.below bw.out)).mono ?_; rintro e w1 ⟨rfl, b1⟩; replace bw := hide (bw.out.then_below b1); clear b1))
        go_ret
        exact ⟨rfl, bw.out⟩
      | true =>
        have mm := mn.out (qV lc) (win_iff.1 hR) hne
        have ku := hide (fun W => under_t W X q hX zX)
        have kuc := hide (fun W => under_t W sc (qV lc) hsc (by omega))
        obtain ⟨U, hU⟩ : ∃ U, U = tB (mkRat (q.den : Int) 1) := ⟨_, rfl⟩
        obtain ⟨V, hV⟩ : ∃ V, V = tB (mkRat ((qV lc).den : Int) 1) := ⟨_, rfl⟩
        rw [← hU] at ku
        rw [← hV] at kuc
        have kd := hide (fun W (h : Env W) => cmp_t W U V _ _ hU hV ((bd_den bq (by decide)).sz (by decide) (by decide)) ((bd_den bc (by decide)).sz (by decide) (by decide)) h)
        rcases mm with mm | ⟨m1, m2⟩
        · rw [(cmp_den _ _).1 mm] at kd
          have s1 := nil_of ha h1
          subst s1
          clear env e0 zc zX ha hb hla hlb hlc oka okb hO h1 h2 hq eX win bq szq hcb zb hc cc hX mn hcc hsc bc szc hR hne hEq hU hV mm
          go_enter Tryz.func5, Tryz.ntmps5
          go_wp2_with (first
            | (go_at_call 15; refine (heads_b _ (EE.out.below bw.out)).mono ?_; rintro e w1 ⟨rfl, b1⟩; replace bw := hide (bw.out.then_below b1); clear b1)
            | (go_at_call 13; refine (q0.out _ (EE.out.below bw.out)).mono ?_; rintro e w1 ⟨rfl, b1⟩; replace bw := hide (bw.out.then_below b1); clear b1)
            | (go_at_call_of 10 (Value.string sb); refine (k2.out _ (EE.out.below bw.out)).mono ?_; rintro e w1 ⟨rfl, b1⟩; replace bw := hide (bw.out.then_below b1); clear b1)
            | (go_at_call_of 10 (Value.string X); refine (kx.out _ (EE.out.below bw.out)).mono ?_; rintro e w1 ⟨rfl, b1⟩; replace bw := hide (bw.out.then_below b1); clear b1)
            | (go_at_call_of 17 (Value.string X); refine (kw.out _ (EE.out.below bw.out)).mono ?_; rintro e w1 ⟨rfl, b1⟩; replace bw := hide (bw.out.then_below b1); clear b1)
            | (go_at_call 9; refine (no_b _ _).mono ?_; rintro e w1 ⟨rfl, hw⟩; replace hw := hw.symm; subst hw)
            | (go_at_call_of 10 (Value.string sc); refine (kc.out _ (EE.out.below bw.out)).mono ?_; rintro e w1 ⟨rfl, b1⟩; replace bw := hide (bw.out.then_below b1); clear b1)
            | (go_at_call_of 17 (Value.string sc); refine (kv.out _ (EE.out.below bw.out)).mono ?_; rintro e w1 ⟨rfl, b1⟩; replace bw := hide (bw.out.then_below b1); clear b1)
            | (go_at_call_of 18 (Value.string X); refine (ku.out _).mono ?_; rintro e w1 ⟨rfl, hw⟩; replace hw := hw.symm; subst hw)
            | (go_at_call_of 18 (Value.string sc); refine (kuc.out _).mono ?_; rintro e w1 ⟨rfl, hw⟩; replace hw := hw.symm; subst hw)
            | (go_at_call_of 16 (Value.string U); refine (kd.out _ (EE.out.below bw.out)).mono ?_; rintro e w1 ⟨rfl, b1⟩; replace bw := hide (bw.out.then_below b1); clear b1))
          go_ret
          exact ⟨rfl, bw.out⟩
        · rw [(cmp_den _ _).2 m1] at kd
          have ks := hide (fun W => size_t W X q hX zX)
          have ksc := hide (fun W => size_t W sc (qV lc) hsc (by omega))
          obtain ⟨Y, hY⟩ : ∃ Y, Y = tB (absQ q) := ⟨_, rfl⟩
          obtain ⟨Z, hZ⟩ : ∃ Z, Z = tB (absQ (qV lc)) := ⟨_, rfl⟩
          rw [← hY] at ks
          rw [← hZ] at ksc
          have ke := hide (fun W (h : Env W) => cmp_t W Y Z _ _ hY hZ ((bd_abs bq).sz (by decide) (by decide)) ((bd_abs bc).sz (by decide) (by decide)) h)
          rw [cmp_abs m1 m2] at ke
          have s1 := nil_of ha h1
          subst s1
          clear env e0 zc zX ha hb hla hlb hlc oka okb hO h1 h2 hq eX win bq szq hcb zb hc cc hX mn hcc hsc bc szc hR hne hEq hU hV m1 m2 hY hZ
          go_enter Tryz.func5, Tryz.ntmps5
          go_wp2_with (first
            | (go_at_call 15; refine (heads_b _ (EE.out.below bw.out)).mono ?_; rintro e w1 ⟨rfl, b1⟩; replace bw := hide (bw.out.then_below b1); clear b1)
            | (go_at_call 13; refine (q0.out _ (EE.out.below bw.out)).mono ?_; rintro e w1 ⟨rfl, b1⟩; replace bw := hide (bw.out.then_below b1); clear b1)
            | (go_at_call_of 10 (Value.string sb); refine (k2.out _ (EE.out.below bw.out)).mono ?_; rintro e w1 ⟨rfl, b1⟩; replace bw := hide (bw.out.then_below b1); clear b1)
            | (go_at_call_of 10 (Value.string X); refine (kx.out _ (EE.out.below bw.out)).mono ?_; rintro e w1 ⟨rfl, b1⟩; replace bw := hide (bw.out.then_below b1); clear b1)
            | (go_at_call_of 17 (Value.string X); refine (kw.out _ (EE.out.below bw.out)).mono ?_; rintro e w1 ⟨rfl, b1⟩; replace bw := hide (bw.out.then_below b1); clear b1)
            | (go_at_call 9; refine (no_b _ _).mono ?_; rintro e w1 ⟨rfl, hw⟩; replace hw := hw.symm; subst hw)
            | (go_at_call_of 10 (Value.string sc); refine (kc.out _ (EE.out.below bw.out)).mono ?_; rintro e w1 ⟨rfl, b1⟩; replace bw := hide (bw.out.then_below b1); clear b1)
            | (go_at_call_of 17 (Value.string sc); refine (kv.out _ (EE.out.below bw.out)).mono ?_; rintro e w1 ⟨rfl, b1⟩; replace bw := hide (bw.out.then_below b1); clear b1)
            | (go_at_call_of 18 (Value.string X); refine (ku.out _).mono ?_; rintro e w1 ⟨rfl, hw⟩; replace hw := hw.symm; subst hw)
            | (go_at_call_of 18 (Value.string sc); refine (kuc.out _).mono ?_; rintro e w1 ⟨rfl, hw⟩; replace hw := hw.symm; subst hw)
            | (go_at_call_of 16 (Value.string U); refine (kd.out _ (EE.out.below bw.out)).mono ?_; rintro e w1 ⟨rfl, b1⟩; replace bw := hide (bw.out.then_below b1); clear b1)
            | (go_at_call_of 19 (Value.string X); refine (ks.out _).mono ?_; rintro e w1 ⟨rfl, hw⟩; replace hw := hw.symm; subst hw)
            | (go_at_call_of 19 (Value.string sc); refine (ksc.out _).mono ?_; rintro e w1 ⟨rfl, hw⟩; replace hw := hw.symm; subst hw)
            | (go_at_call_of 16 (Value.string Y); refine (ke.out _ (EE.out.below bw.out)).mono ?_; rintro e w1 ⟨rfl, b1⟩; replace bw := hide (bw.out.then_below b1); clear b1))
          go_ret
          exact ⟨rfl, bw.out⟩
set_option maxRecDepth 100000 in
set_option maxHeartbeats 8000000 in
theorem near_main_tn (w : World) (sa sb sc : ByteArray) (la lb lc : List UInt8) (ha : sa.data.toList = la) (hb : sb.data.toList = lb) (hc : sc.data.toList = lc) (hla : la.length ≤ 1048576) (hlb : lb.length ≤ 1048576) (hlc : lc.length ≤ 1048576) (env : Env w) (oka : okB la = true) (okb : okB lb = true) (hO : OrdO (bO la) (bO lb)) (h1 : la ≠ []) (h2 : lb = []) :
    Calls Tryz.prog 5 #[.string sa, .string sb, .string sc] w fun e w' => e = .returned (.bool true) ∧ Below w.heap.size w w' := by
  have q0 := hide (fun W (h : Env W) => numSimplest_calls W sa sb la lb ha hb hla hlb h)
  have e0 : simT la lb = (qT (simQ (bO la) (bO lb)), 0) := by unfold simT; rw [oka, okb, ordB_iff.2 hO]; rfl
  rw [e0] at q0
  have bq := sim_bd oka okb hla hlb hO
  have win := win_iff.2 (simQ_in hO)
  have mn := hide (fun c => simQ_min hO (c := c))
  obtain ⟨q, hq⟩ : ∃ q, simQ (bO la) (bO lb) = q := ⟨_, rfl⟩
  rw [hq] at q0 bq win mn
  have szq : Sz q := bq.sz (by decide) (by decide)
  obtain ⟨X, hX⟩ : ∃ X, X = tB q := ⟨_, rfl⟩
  have eX : (⟨(qT q).toArray⟩ : ByteArray) = X := hX.symm
  rw [eX] at q0
  have kx := hide (fun W (h : Env W) => canon_t W X q hX szq h)
  have kw := hide (fun W (h : Env W) => within_t W sa X sb la lb ha hb oka okb hla hlb q hX szq h true win)
  have zX : X.size ≤ 1073741824 := by rw [hX]; exact szq
  have zc := sz_of hc hlc
  have kc := hide (fun W (h : Env W) => canon_b W sc (by omega) h)
  rw [hc] at kc
  have bw : Hid (Below w.heap.size w w) := Below.refl _ _
  have EE := hide env
  have hca := okB_can oka h1
  have za := sz_of ha hla
  have k1 := hide (fun W (h : Env W) => canon_b W sa (by omega) h)
  rw [ha, (canB_iff la).2 hca] at k1
  have i1 := isE ha h1
  cases cc : canB lc with
  | false =>
    rw [cc] at kc
    have s2 := nil_of hb h2
    subst s2
    clear env e0 zc zX ha hb hla hlb hlc oka okb hO h1 h2 hq eX win bq szq hca za hc cc hX mn
    go_enter Tryz.func5, Tryz.ntmps5
    go_wp2_with (first
      | (go_at_call 15; refine (heads_b _ (EE.out.below bw.out)).mono ?_; rintro e w1 ⟨rfl, b1⟩; replace bw := hide (bw.out.then_below b1); clear b1)
      | (go_at_call 13; refine (q0.out _ (EE.out.below bw.out)).mono ?_; rintro e w1 ⟨rfl, b1⟩; replace bw := hide (bw.out.then_below b1); clear b1)
      | (go_at_call_of 10 (Value.string sa); refine (k1.out _ (EE.out.below bw.out)).mono ?_; rintro e w1 ⟨rfl, b1⟩; replace bw := hide (bw.out.then_below b1); clear b1)
      | (go_at_call_of 10 (Value.string X); refine (kx.out _ (EE.out.below bw.out)).mono ?_; rintro e w1 ⟨rfl, b1⟩; replace bw := hide (bw.out.then_below b1); clear b1)
      | (go_at_call_of 17 (Value.string X); refine (kw.out _ (EE.out.below bw.out)).mono ?_; rintro e w1 ⟨rfl, b1⟩; replace bw := hide (bw.out.then_below b1); clear b1)
      | (go_at_call 9; refine (no_b _ _).mono ?_; rintro e w1 ⟨rfl, hw⟩; replace hw := hw.symm; subst hw)
      | (go_at_call_of 10 (Value.string sc); refine (kc.out _ (EE.out.below bw.out)).mono ?_; rintro e w1 ⟨rfl, b1⟩; replace bw := hide (bw.out.then_below b1); clear b1))
    go_ret
    exact ⟨rfl, bw.out⟩
  | true =>
    rw [cc] at kc
    have hcc := (canB_iff lc).1 cc
    have hsc := eq_tB hc hcc
    have bc := bd_of hcc hlc
    have szc : Sz (qV lc) := bc.sz (by decide) (by decide)
    by_cases hEq : sc = X
    · subst hEq
      have s2 := nil_of hb h2
      subst s2
      clear env e0 zc zX ha hb hla hlb hlc oka okb hO h1 h2 hq eX win bq szq hca za hc cc hX mn hcc hsc bc szc kx
      go_enter Tryz.func5, Tryz.ntmps5
      go_wp2_with (first
        | (go_at_call 15; refine (heads_b _ (EE.out.below bw.out)).mono ?_; rintro e w1 ⟨rfl, b1⟩; replace bw := hide (bw.out.then_below b1); clear b1)
        | (go_at_call 13; refine (q0.out _ (EE.out.below bw.out)).mono ?_; rintro e w1 ⟨rfl, b1⟩; replace bw := hide (bw.out.then_below b1); clear b1)
        | (go_at_call_of 10 (Value.string sa); refine (k1.out _ (EE.out.below bw.out)).mono ?_; rintro e w1 ⟨rfl, b1⟩; replace bw := hide (bw.out.then_below b1); clear b1)
        | (go_at_call 9; refine (no_b _ _).mono ?_; rintro e w1 ⟨rfl, hw⟩; replace hw := hw.symm; subst hw)
        | (go_at_call_of 10 (Value.string sc); refine (kc.out _ (EE.out.below bw.out)).mono ?_; rintro e w1 ⟨rfl, b1⟩; replace bw := hide (bw.out.then_below b1); clear b1)
        | (go_at_call_of 17 (Value.string sc); refine (kw.out _ (EE.out.below bw.out)).mono ?_; rintro e w1 ⟨rfl, b1⟩; replace bw := hide (bw.out.then_below b1); clear b1))
      go_ret
      exact ⟨rfl, bw.out⟩
    · have hne : qV lc ≠ q := fun e => hEq (by rw [hsc, hX, e])
      obtain ⟨o2, o3, o4, o5, o6⟩ := str_ne2 hEq
      obtain ⟨R, hR⟩ : ∃ R, (loB (bO la) (qV lc) && hiB (bO lb) (qV lc)) = R := ⟨_, rfl⟩
      have kv := hide (fun W (h : Env W) => within_t W sa sc sb la lb ha hb oka okb hla hlb (qV lc) hsc szc h R hR)
      cases R with
      | false =>
        have s2 := nil_of hb h2
        subst s2
        clear env e0 zc zX ha hb hla hlb hlc oka okb hO h1 h2 hq eX win bq szq hca za hc cc hX mn hcc hsc bc szc hR hne hEq
        go_enter Tryz.func5, Tryz.ntmps5
        go_wp2_with (first
          | (go_at_call 15; refine (heads_b _ (EE.out.below bw.out)).mono ?_; rintro e w1 ⟨rfl, b1⟩; replace bw := hide (bw.out.then_below b1); clear b1)
          | (go_at_call 13; refine (q0.out _ (EE.out.below bw.out)).mono ?_; rintro e w1 ⟨rfl, b1⟩; replace bw := hide (bw.out.then_below b1); clear b1)
          | (go_at_call_of 10 (Value.string sa); refine (k1.out _ (EE.out.below bw.out)).mono ?_; rintro e w1 ⟨rfl, b1⟩; replace bw := hide (bw.out.then_below b1); clear b1)
          | (go_at_call_of 10 (Value.string X); refine (kx.out _ (EE.out.below bw.out)).mono ?_; rintro e w1 ⟨rfl, b1⟩; replace bw := hide (bw.out.then_below b1); clear b1)
          | (go_at_call_of 17 (Value.string X); refine (kw.out _ (EE.out.below bw.out)).mono ?_; rintro e w1 ⟨rfl, b1⟩; replace bw := hide (bw.out.then_below b1); clear b1)
          | (go_at_call 9; refine (no_b _ _).mono ?_; rintro e w1 ⟨rfl, hw⟩; replace hw := hw.symm; subst hw)
          | (go_at_call_of 10 (Value.string sc); refine (kc.out _ (EE.out.below bw.out)).mono ?_; rintro e w1 ⟨rfl, b1⟩; replace bw := hide (bw.out.then_below b1); clear b1)
          | (go_at_call_of 17 (Value.string sc); refine (kv.out _ (EE.out.below bw.out)).mono ?_; rintro e w1 ⟨rfl, b1⟩; replace bw := hide (bw.out.then_below b1); clear b1))
        go_ret
        exact ⟨rfl, bw.out⟩
      | true =>
        have mm := mn.out (qV lc) (win_iff.1 hR) hne
        have ku := hide (fun W => under_t W X q hX zX)
        have kuc := hide (fun W => under_t W sc (qV lc) hsc (by omega))
        obtain ⟨U, hU⟩ : ∃ U, U = tB (mkRat (q.den : Int) 1) := ⟨_, rfl⟩
        obtain ⟨V, hV⟩ : ∃ V, V = tB (mkRat ((qV lc).den : Int) 1) := ⟨_, rfl⟩
        rw [← hU] at ku
        rw [← hV] at kuc
        have kd := hide (fun W (h : Env W) => cmp_t W U V _ _ hU hV ((bd_den bq (by decide)).sz (by decide) (by decide)) ((bd_den bc (by decide)).sz (by decide) (by decide)) h)
        rcases mm with mm | ⟨m1, m2⟩
        · rw [(cmp_den _ _).1 mm] at kd
          have s2 := nil_of hb h2
          subst s2
          clear env e0 zc zX ha hb hla hlb hlc oka okb hO h1 h2 hq eX win bq szq hca za hc cc hX mn hcc hsc bc szc hR hne hEq hU hV mm
          go_enter Tryz.func5, Tryz.ntmps5
          go_wp2_with (first
            | (go_at_call 15; refine (heads_b _ (EE.out.below bw.out)).mono ?_; rintro e w1 ⟨rfl, b1⟩; replace bw := hide (bw.out.then_below b1); clear b1)
            | (go_at_call 13; refine (q0.out _ (EE.out.below bw.out)).mono ?_; rintro e w1 ⟨rfl, b1⟩; replace bw := hide (bw.out.then_below b1); clear b1)
            | (go_at_call_of 10 (Value.string sa); refine (k1.out _ (EE.out.below bw.out)).mono ?_; rintro e w1 ⟨rfl, b1⟩; replace bw := hide (bw.out.then_below b1); clear b1)
            | (go_at_call_of 10 (Value.string X); refine (kx.out _ (EE.out.below bw.out)).mono ?_; rintro e w1 ⟨rfl, b1⟩; replace bw := hide (bw.out.then_below b1); clear b1)
            | (go_at_call_of 17 (Value.string X); refine (kw.out _ (EE.out.below bw.out)).mono ?_; rintro e w1 ⟨rfl, b1⟩; replace bw := hide (bw.out.then_below b1); clear b1)
            | (go_at_call 9; refine (no_b _ _).mono ?_; rintro e w1 ⟨rfl, hw⟩; replace hw := hw.symm; subst hw)
            | (go_at_call_of 10 (Value.string sc); refine (kc.out _ (EE.out.below bw.out)).mono ?_; rintro e w1 ⟨rfl, b1⟩; replace bw := hide (bw.out.then_below b1); clear b1)
            | (go_at_call_of 17 (Value.string sc); refine (kv.out _ (EE.out.below bw.out)).mono ?_; rintro e w1 ⟨rfl, b1⟩; replace bw := hide (bw.out.then_below b1); clear b1)
            | (go_at_call_of 18 (Value.string X); refine (ku.out _).mono ?_; rintro e w1 ⟨rfl, hw⟩; replace hw := hw.symm; subst hw)
            | (go_at_call_of 18 (Value.string sc); refine (kuc.out _).mono ?_; rintro e w1 ⟨rfl, hw⟩; replace hw := hw.symm; subst hw)
            | (go_at_call_of 16 (Value.string U); refine (kd.out _ (EE.out.below bw.out)).mono ?_; rintro e w1 ⟨rfl, b1⟩; replace bw := hide (bw.out.then_below b1); clear b1))
          go_ret
          exact ⟨rfl, bw.out⟩
        · rw [(cmp_den _ _).2 m1] at kd
          have ks := hide (fun W => size_t W X q hX zX)
          have ksc := hide (fun W => size_t W sc (qV lc) hsc (by omega))
          obtain ⟨Y, hY⟩ : ∃ Y, Y = tB (absQ q) := ⟨_, rfl⟩
          obtain ⟨Z, hZ⟩ : ∃ Z, Z = tB (absQ (qV lc)) := ⟨_, rfl⟩
          rw [← hY] at ks
          rw [← hZ] at ksc
          have ke := hide (fun W (h : Env W) => cmp_t W Y Z _ _ hY hZ ((bd_abs bq).sz (by decide) (by decide)) ((bd_abs bc).sz (by decide) (by decide)) h)
          rw [cmp_abs m1 m2] at ke
          have s2 := nil_of hb h2
          subst s2
          clear env e0 zc zX ha hb hla hlb hlc oka okb hO h1 h2 hq eX win bq szq hca za hc cc hX mn hcc hsc bc szc hR hne hEq hU hV m1 m2 hY hZ
          go_enter Tryz.func5, Tryz.ntmps5
          go_wp2_with (first
            | (go_at_call 15; refine (heads_b _ (EE.out.below bw.out)).mono ?_; rintro e w1 ⟨rfl, b1⟩; replace bw := hide (bw.out.then_below b1); clear b1)
            | (go_at_call 13; refine (q0.out _ (EE.out.below bw.out)).mono ?_; rintro e w1 ⟨rfl, b1⟩; replace bw := hide (bw.out.then_below b1); clear b1)
            | (go_at_call_of 10 (Value.string sa); refine (k1.out _ (EE.out.below bw.out)).mono ?_; rintro e w1 ⟨rfl, b1⟩; replace bw := hide (bw.out.then_below b1); clear b1)
            | (go_at_call_of 10 (Value.string X); refine (kx.out _ (EE.out.below bw.out)).mono ?_; rintro e w1 ⟨rfl, b1⟩; replace bw := hide (bw.out.then_below b1); clear b1)
            | (go_at_call_of 17 (Value.string X); refine (kw.out _ (EE.out.below bw.out)).mono ?_; rintro e w1 ⟨rfl, b1⟩; replace bw := hide (bw.out.then_below b1); clear b1)
            | (go_at_call 9; refine (no_b _ _).mono ?_; rintro e w1 ⟨rfl, hw⟩; replace hw := hw.symm; subst hw)
            | (go_at_call_of 10 (Value.string sc); refine (kc.out _ (EE.out.below bw.out)).mono ?_; rintro e w1 ⟨rfl, b1⟩; replace bw := hide (bw.out.then_below b1); clear b1)
            | (go_at_call_of 17 (Value.string sc); refine (kv.out _ (EE.out.below bw.out)).mono ?_; rintro e w1 ⟨rfl, b1⟩; replace bw := hide (bw.out.then_below b1); clear b1)
            | (go_at_call_of 18 (Value.string X); refine (ku.out _).mono ?_; rintro e w1 ⟨rfl, hw⟩; replace hw := hw.symm; subst hw)
            | (go_at_call_of 18 (Value.string sc); refine (kuc.out _).mono ?_; rintro e w1 ⟨rfl, hw⟩; replace hw := hw.symm; subst hw)
            | (go_at_call_of 16 (Value.string U); refine (kd.out _ (EE.out.below bw.out)).mono ?_; rintro e w1 ⟨rfl, b1⟩; replace bw := hide (bw.out.then_below b1); clear b1)
            | (go_at_call_of 19 (Value.string X); refine (ks.out _).mono ?_; rintro e w1 ⟨rfl, hw⟩; replace hw := hw.symm; subst hw)
            | (go_at_call_of 19 (Value.string sc); refine (ksc.out _).mono ?_; rintro e w1 ⟨rfl, hw⟩; replace hw := hw.symm; subst hw)
            | (go_at_call_of 16 (Value.string Y); refine (ke.out _ (EE.out.below bw.out)).mono ?_; rintro e w1 ⟨rfl, b1⟩; replace bw := hide (bw.out.then_below b1); clear b1))
          go_ret
          exact ⟨rfl, bw.out⟩
set_option maxRecDepth 100000 in
set_option maxHeartbeats 8000000 in
theorem near_main_tt (w : World) (sa sb sc : ByteArray) (la lb lc : List UInt8) (ha : sa.data.toList = la) (hb : sb.data.toList = lb) (hc : sc.data.toList = lc) (hla : la.length ≤ 1048576) (hlb : lb.length ≤ 1048576) (hlc : lc.length ≤ 1048576) (env : Env w) (oka : okB la = true) (okb : okB lb = true) (hO : OrdO (bO la) (bO lb)) (h1 : la ≠ []) (h2 : lb ≠ []) :
    Calls Tryz.prog 5 #[.string sa, .string sb, .string sc] w fun e w' => e = .returned (.bool true) ∧ Below w.heap.size w w' := by
  have q0 := hide (fun W (h : Env W) => numSimplest_calls W sa sb la lb ha hb hla hlb h)
  have e0 : simT la lb = (qT (simQ (bO la) (bO lb)), 0) := by unfold simT; rw [oka, okb, ordB_iff.2 hO]; rfl
  rw [e0] at q0
  have bq := sim_bd oka okb hla hlb hO
  have win := win_iff.2 (simQ_in hO)
  have mn := hide (fun c => simQ_min hO (c := c))
  obtain ⟨q, hq⟩ : ∃ q, simQ (bO la) (bO lb) = q := ⟨_, rfl⟩
  rw [hq] at q0 bq win mn
  have szq : Sz q := bq.sz (by decide) (by decide)
  obtain ⟨X, hX⟩ : ∃ X, X = tB q := ⟨_, rfl⟩
  have eX : (⟨(qT q).toArray⟩ : ByteArray) = X := hX.symm
  rw [eX] at q0
  have kx := hide (fun W (h : Env W) => canon_t W X q hX szq h)
  have kw := hide (fun W (h : Env W) => within_t W sa X sb la lb ha hb oka okb hla hlb q hX szq h true win)
  have zX : X.size ≤ 1073741824 := by rw [hX]; exact szq
  have zc := sz_of hc hlc
  have kc := hide (fun W (h : Env W) => canon_b W sc (by omega) h)
  rw [hc] at kc
  have bw : Hid (Below w.heap.size w w) := Below.refl _ _
  have EE := hide env
  have hca := okB_can oka h1
  have za := sz_of ha hla
  have k1 := hide (fun W (h : Env W) => canon_b W sa (by omega) h)
  rw [ha, (canB_iff la).2 hca] at k1
  have i1 := isE ha h1
  have hcb := okB_can okb h2
  have zb := sz_of hb hlb
  have k2 := hide (fun W (h : Env W) => canon_b W sb (by omega) h)
  rw [hb, (canB_iff lb).2 hcb] at k2
  have i2 := isE hb h2
  have k3 := hide (fun W (h : Env W) => cmp_t W sa sb (qV la) (qV lb) (eq_tB ha hca) (eq_tB hb hcb) ((bd_of hca hla).sz (by decide) (by decide)) ((bd_of hcb hlb).sz (by decide) (by decide)) h)
  rw [cmpQ_m1.2 (by rw [bO_some h1, bO_some h2] at hO; exact hO)] at k3
  cases cc : canB lc with
  | false =>
    rw [cc] at kc
    clear env e0 zc zX ha hb hla hlb hlc oka okb hO h1 h2 hq eX win bq szq hca za hcb zb hc cc hX mn
    go_enter Tryz.func5, Tryz.ntmps5
    go_wp2_with (first
      | (go_at_call 15; refine (heads_b _ (EE.out.below bw.out)).mono ?_; rintro e w1 ⟨rfl, b1⟩; replace bw := hide (bw.out.then_below b1); clear b1)
      | (go_at_call 13; refine (q0.out _ (EE.out.below bw.out)).mono ?_; rintro e w1 ⟨rfl, b1⟩; replace bw := hide (bw.out.then_below b1); clear b1)
      | (go_at_call_of 10 (Value.string sa); refine (k1.out _ (EE.out.below bw.out)).mono ?_; rintro e w1 ⟨rfl, b1⟩; replace bw := hide (bw.out.then_below b1); clear b1)
      | (go_at_call_of 10 (Value.string sb); refine (k2.out _ (EE.out.below bw.out)).mono ?_; rintro e w1 ⟨rfl, b1⟩; replace bw := hide (bw.out.then_below b1); clear b1)
      | (go_at_call_of 16 (Value.string sa); refine (k3.out _ (EE.out.below bw.out)).mono ?_; rintro e w1 ⟨rfl, b1⟩; replace bw := hide (bw.out.then_below b1); clear b1)
      | (go_at_call_of 10 (Value.string X); refine (kx.out _ (EE.out.below bw.out)).mono ?_; rintro e w1 ⟨rfl, b1⟩; replace bw := hide (bw.out.then_below b1); clear b1)
      | (go_at_call_of 17 (Value.string X); refine (kw.out _ (EE.out.below bw.out)).mono ?_; rintro e w1 ⟨rfl, b1⟩; replace bw := hide (bw.out.then_below b1); clear b1)
      | (go_at_call 9; refine (no_b _ _).mono ?_; rintro e w1 ⟨rfl, hw⟩; replace hw := hw.symm; subst hw)
      | (go_at_call_of 10 (Value.string sc); refine (kc.out _ (EE.out.below bw.out)).mono ?_; rintro e w1 ⟨rfl, b1⟩; replace bw := hide (bw.out.then_below b1); clear b1))
    go_ret
    exact ⟨rfl, bw.out⟩
  | true =>
    rw [cc] at kc
    have hcc := (canB_iff lc).1 cc
    have hsc := eq_tB hc hcc
    have bc := bd_of hcc hlc
    have szc : Sz (qV lc) := bc.sz (by decide) (by decide)
    by_cases hEq : sc = X
    · subst hEq
      clear env e0 zc zX ha hb hla hlb hlc oka okb hO h1 h2 hq eX win bq szq hca za hcb zb hc cc hX mn hcc hsc bc szc kx
      go_enter Tryz.func5, Tryz.ntmps5
      go_wp2_with (first
        | (go_at_call 15; refine (heads_b _ (EE.out.below bw.out)).mono ?_; rintro e w1 ⟨rfl, b1⟩; replace bw := hide (bw.out.then_below b1); clear b1)
        | (go_at_call 13; refine (q0.out _ (EE.out.below bw.out)).mono ?_; rintro e w1 ⟨rfl, b1⟩; replace bw := hide (bw.out.then_below b1); clear b1)
        | (go_at_call_of 10 (Value.string sa); refine (k1.out _ (EE.out.below bw.out)).mono ?_; rintro e w1 ⟨rfl, b1⟩; replace bw := hide (bw.out.then_below b1); clear b1)
        | (go_at_call_of 10 (Value.string sb); refine (k2.out _ (EE.out.below bw.out)).mono ?_; rintro e w1 ⟨rfl, b1⟩; replace bw := hide (bw.out.then_below b1); clear b1)
        | (go_at_call_of 16 (Value.string sa); refine (k3.out _ (EE.out.below bw.out)).mono ?_; rintro e w1 ⟨rfl, b1⟩; replace bw := hide (bw.out.then_below b1); clear b1)
        | (go_at_call 9; refine (no_b _ _).mono ?_; rintro e w1 ⟨rfl, hw⟩; replace hw := hw.symm; subst hw)
        | (go_at_call_of 10 (Value.string sc); refine (kc.out _ (EE.out.below bw.out)).mono ?_; rintro e w1 ⟨rfl, b1⟩; replace bw := hide (bw.out.then_below b1); clear b1)
        | (go_at_call_of 17 (Value.string sc); refine (kw.out _ (EE.out.below bw.out)).mono ?_; rintro e w1 ⟨rfl, b1⟩; replace bw := hide (bw.out.then_below b1); clear b1))
      go_ret
      exact ⟨rfl, bw.out⟩
    · have hne : qV lc ≠ q := fun e => hEq (by rw [hsc, hX, e])
      obtain ⟨o2, o3, o4, o5, o6⟩ := str_ne2 hEq
      obtain ⟨R, hR⟩ : ∃ R, (loB (bO la) (qV lc) && hiB (bO lb) (qV lc)) = R := ⟨_, rfl⟩
      have kv := hide (fun W (h : Env W) => within_t W sa sc sb la lb ha hb oka okb hla hlb (qV lc) hsc szc h R hR)
      cases R with
      | false =>
        clear env e0 zc zX ha hb hla hlb hlc oka okb hO h1 h2 hq eX win bq szq hca za hcb zb hc cc hX mn hcc hsc bc szc hR hne hEq
        go_enter Tryz.func5, Tryz.ntmps5
        go_wp2_with (first
          | (go_at_call 15; refine (heads_b _ (EE.out.below bw.out)).mono ?_; rintro e w1 ⟨rfl, b1⟩; replace bw := hide (bw.out.then_below b1); clear b1)
          | (go_at_call 13; refine (q0.out _ (EE.out.below bw.out)).mono ?_; rintro e w1 ⟨rfl, b1⟩; replace bw := hide (bw.out.then_below b1); clear b1)
          | (go_at_call_of 10 (Value.string sa); refine (k1.out _ (EE.out.below bw.out)).mono ?_; rintro e w1 ⟨rfl, b1⟩; replace bw := hide (bw.out.then_below b1); clear b1)
          | (go_at_call_of 10 (Value.string sb); refine (k2.out _ (EE.out.below bw.out)).mono ?_; rintro e w1 ⟨rfl, b1⟩; replace bw := hide (bw.out.then_below b1); clear b1)
          | (go_at_call_of 16 (Value.string sa); refine (k3.out _ (EE.out.below bw.out)).mono ?_; rintro e w1 ⟨rfl, b1⟩; replace bw := hide (bw.out.then_below b1); clear b1)
          | (go_at_call_of 10 (Value.string X); refine (kx.out _ (EE.out.below bw.out)).mono ?_; rintro e w1 ⟨rfl, b1⟩; replace bw := hide (bw.out.then_below b1); clear b1)
          | (go_at_call_of 17 (Value.string X); refine (kw.out _ (EE.out.below bw.out)).mono ?_; rintro e w1 ⟨rfl, b1⟩; replace bw := hide (bw.out.then_below b1); clear b1)
          | (go_at_call 9; refine (no_b _ _).mono ?_; rintro e w1 ⟨rfl, hw⟩; replace hw := hw.symm; subst hw)
          | (go_at_call_of 10 (Value.string sc); refine (kc.out _ (EE.out.below bw.out)).mono ?_; rintro e w1 ⟨rfl, b1⟩; replace bw := hide (bw.out.then_below b1); clear b1)
          | (go_at_call_of 17 (Value.string sc); refine (kv.out _ (EE.out.below bw.out)).mono ?_; rintro e w1 ⟨rfl, b1⟩; replace bw := hide (bw.out.then_below b1); clear b1))
        go_ret
        exact ⟨rfl, bw.out⟩
      | true =>
        have mm := mn.out (qV lc) (win_iff.1 hR) hne
        have ku := hide (fun W => under_t W X q hX zX)
        have kuc := hide (fun W => under_t W sc (qV lc) hsc (by omega))
        obtain ⟨U, hU⟩ : ∃ U, U = tB (mkRat (q.den : Int) 1) := ⟨_, rfl⟩
        obtain ⟨V, hV⟩ : ∃ V, V = tB (mkRat ((qV lc).den : Int) 1) := ⟨_, rfl⟩
        rw [← hU] at ku
        rw [← hV] at kuc
        have kd := hide (fun W (h : Env W) => cmp_t W U V _ _ hU hV ((bd_den bq (by decide)).sz (by decide) (by decide)) ((bd_den bc (by decide)).sz (by decide) (by decide)) h)
        rcases mm with mm | ⟨m1, m2⟩
        · rw [(cmp_den _ _).1 mm] at kd
          clear env e0 zc zX ha hb hla hlb hlc oka okb hO h1 h2 hq eX win bq szq hca za hcb zb hc cc hX mn hcc hsc bc szc hR hne hEq hU hV mm
          go_enter Tryz.func5, Tryz.ntmps5
          go_wp2_with (first
            | (go_at_call 15; refine (heads_b _ (EE.out.below bw.out)).mono ?_; rintro e w1 ⟨rfl, b1⟩; replace bw := hide (bw.out.then_below b1); clear b1)
            | (go_at_call 13; refine (q0.out _ (EE.out.below bw.out)).mono ?_; rintro e w1 ⟨rfl, b1⟩; replace bw := hide (bw.out.then_below b1); clear b1)
            | (go_at_call_of 10 (Value.string sa); refine (k1.out _ (EE.out.below bw.out)).mono ?_; rintro e w1 ⟨rfl, b1⟩; replace bw := hide (bw.out.then_below b1); clear b1)
            | (go_at_call_of 10 (Value.string sb); refine (k2.out _ (EE.out.below bw.out)).mono ?_; rintro e w1 ⟨rfl, b1⟩; replace bw := hide (bw.out.then_below b1); clear b1)
            | (go_at_call_of 16 (Value.string sa); refine (k3.out _ (EE.out.below bw.out)).mono ?_; rintro e w1 ⟨rfl, b1⟩; replace bw := hide (bw.out.then_below b1); clear b1)
            | (go_at_call_of 10 (Value.string X); refine (kx.out _ (EE.out.below bw.out)).mono ?_; rintro e w1 ⟨rfl, b1⟩; replace bw := hide (bw.out.then_below b1); clear b1)
            | (go_at_call_of 17 (Value.string X); refine (kw.out _ (EE.out.below bw.out)).mono ?_; rintro e w1 ⟨rfl, b1⟩; replace bw := hide (bw.out.then_below b1); clear b1)
            | (go_at_call 9; refine (no_b _ _).mono ?_; rintro e w1 ⟨rfl, hw⟩; replace hw := hw.symm; subst hw)
            | (go_at_call_of 10 (Value.string sc); refine (kc.out _ (EE.out.below bw.out)).mono ?_; rintro e w1 ⟨rfl, b1⟩; replace bw := hide (bw.out.then_below b1); clear b1)
            | (go_at_call_of 17 (Value.string sc); refine (kv.out _ (EE.out.below bw.out)).mono ?_; rintro e w1 ⟨rfl, b1⟩; replace bw := hide (bw.out.then_below b1); clear b1)
            | (go_at_call_of 18 (Value.string X); refine (ku.out _).mono ?_; rintro e w1 ⟨rfl, hw⟩; replace hw := hw.symm; subst hw)
            | (go_at_call_of 18 (Value.string sc); refine (kuc.out _).mono ?_; rintro e w1 ⟨rfl, hw⟩; replace hw := hw.symm; subst hw)
            | (go_at_call_of 16 (Value.string U); refine (kd.out _ (EE.out.below bw.out)).mono ?_; rintro e w1 ⟨rfl, b1⟩; replace bw := hide (bw.out.then_below b1); clear b1))
          go_ret
          exact ⟨rfl, bw.out⟩
        · rw [(cmp_den _ _).2 m1] at kd
          have ks := hide (fun W => size_t W X q hX zX)
          have ksc := hide (fun W => size_t W sc (qV lc) hsc (by omega))
          obtain ⟨Y, hY⟩ : ∃ Y, Y = tB (absQ q) := ⟨_, rfl⟩
          obtain ⟨Z, hZ⟩ : ∃ Z, Z = tB (absQ (qV lc)) := ⟨_, rfl⟩
          rw [← hY] at ks
          rw [← hZ] at ksc
          have ke := hide (fun W (h : Env W) => cmp_t W Y Z _ _ hY hZ ((bd_abs bq).sz (by decide) (by decide)) ((bd_abs bc).sz (by decide) (by decide)) h)
          rw [cmp_abs m1 m2] at ke
          clear env e0 zc zX ha hb hla hlb hlc oka okb hO h1 h2 hq eX win bq szq hca za hcb zb hc cc hX mn hcc hsc bc szc hR hne hEq hU hV m1 m2 hY hZ
          go_enter Tryz.func5, Tryz.ntmps5
          go_wp2_with (first
            | (go_at_call 15; refine (heads_b _ (EE.out.below bw.out)).mono ?_; rintro e w1 ⟨rfl, b1⟩; replace bw := hide (bw.out.then_below b1); clear b1)
            | (go_at_call 13; refine (q0.out _ (EE.out.below bw.out)).mono ?_; rintro e w1 ⟨rfl, b1⟩; replace bw := hide (bw.out.then_below b1); clear b1)
            | (go_at_call_of 10 (Value.string sa); refine (k1.out _ (EE.out.below bw.out)).mono ?_; rintro e w1 ⟨rfl, b1⟩; replace bw := hide (bw.out.then_below b1); clear b1)
            | (go_at_call_of 10 (Value.string sb); refine (k2.out _ (EE.out.below bw.out)).mono ?_; rintro e w1 ⟨rfl, b1⟩; replace bw := hide (bw.out.then_below b1); clear b1)
            | (go_at_call_of 16 (Value.string sa); refine (k3.out _ (EE.out.below bw.out)).mono ?_; rintro e w1 ⟨rfl, b1⟩; replace bw := hide (bw.out.then_below b1); clear b1)
            | (go_at_call_of 10 (Value.string X); refine (kx.out _ (EE.out.below bw.out)).mono ?_; rintro e w1 ⟨rfl, b1⟩; replace bw := hide (bw.out.then_below b1); clear b1)
            | (go_at_call_of 17 (Value.string X); refine (kw.out _ (EE.out.below bw.out)).mono ?_; rintro e w1 ⟨rfl, b1⟩; replace bw := hide (bw.out.then_below b1); clear b1)
            | (go_at_call 9; refine (no_b _ _).mono ?_; rintro e w1 ⟨rfl, hw⟩; replace hw := hw.symm; subst hw)
            | (go_at_call_of 10 (Value.string sc); refine (kc.out _ (EE.out.below bw.out)).mono ?_; rintro e w1 ⟨rfl, b1⟩; replace bw := hide (bw.out.then_below b1); clear b1)
            | (go_at_call_of 17 (Value.string sc); refine (kv.out _ (EE.out.below bw.out)).mono ?_; rintro e w1 ⟨rfl, b1⟩; replace bw := hide (bw.out.then_below b1); clear b1)
            | (go_at_call_of 18 (Value.string X); refine (ku.out _).mono ?_; rintro e w1 ⟨rfl, hw⟩; replace hw := hw.symm; subst hw)
            | (go_at_call_of 18 (Value.string sc); refine (kuc.out _).mono ?_; rintro e w1 ⟨rfl, hw⟩; replace hw := hw.symm; subst hw)
            | (go_at_call_of 16 (Value.string U); refine (kd.out _ (EE.out.below bw.out)).mono ?_; rintro e w1 ⟨rfl, b1⟩; replace bw := hide (bw.out.then_below b1); clear b1)
            | (go_at_call_of 19 (Value.string X); refine (ks.out _).mono ?_; rintro e w1 ⟨rfl, hw⟩; replace hw := hw.symm; subst hw)
            | (go_at_call_of 19 (Value.string sc); refine (ksc.out _).mono ?_; rintro e w1 ⟨rfl, hw⟩; replace hw := hw.symm; subst hw)
            | (go_at_call_of 16 (Value.string Y); refine (ke.out _ (EE.out.below bw.out)).mono ?_; rintro e w1 ⟨rfl, b1⟩; replace bw := hide (bw.out.then_below b1); clear b1))
          go_ret
          exact ⟨rfl, bw.out⟩
theorem near_walk (w : World) (sa sb sc : ByteArray) (la lb lc : List UInt8) (ha : sa.data.toList = la) (hb : sb.data.toList = lb) (hc : sc.data.toList = lc) (hla : la.length ≤ 1048576) (hlb : lb.length ≤ 1048576) (hlc : lc.length ≤ 1048576) (env : Env w) :
    Calls Tryz.prog 5 #[.string sa, .string sb, .string sc] w fun e w' => e = .returned (.bool true) ∧ Below w.heap.size w w' := by
  cases hk : okB la && okB lb with
  | false => exact near_bad w sa sb sc la lb lc ha hb hc hla hlb hlc env hk
  | true =>
    rw [Bool.and_eq_true] at hk
    obtain ⟨oka, okb⟩ := hk
    cases hO : ordB (bO la) (bO lb) with
    | false => exact near_ord w sa sb sc la lb lc ha hb hc hla hlb hlc env oka okb hO
    | true =>
      have o := ordB_iff.1 hO
      by_cases h1 : la = []
      · by_cases h2 : lb = []
        · exact near_main_nn w sa sb sc la lb lc ha hb hc hla hlb hlc env oka okb o h1 h2
        · exact near_main_nt w sa sb sc la lb lc ha hb hc hla hlb hlc env oka okb o h1 h2
      · by_cases h2 : lb = []
        · exact near_main_tn w sa sb sc la lb lc ha hb hc hla hlb hlc env oka okb o h1 h2
        · exact near_main_tt w sa sb sc la lb lc ha hb hc hla hlb hlc env oka okb o h1 h2
end Go.Proofs.YtebnjolkolobhaaGreatDoor
