/-
  The document's side (arbiterref1): edge; Compare with 0.
-/
import Derived.Test.YtebnjolkolobhaaGreatDoorRefPlainG
import Derived.Test.YtebnjolkolobhaaGreatDoorRefE
import Derived.Test.YtebnjolkolobhaaGreatDoorSimHeadG
/- ==== RefEdge ==== -/
namespace Go.Proofs.YtebnjolkolobhaaGreatDoor
open Go.RowKit
set_option linter.unusedVariables false
/-- A bound of the document's in memory; none is all zero. -/
def EDs (w : World) (v : Value) (g s : Bool) (n d : Nat) : Prop :=
  ∃ (s' : Bool) (na : Option Addr) (nl nc : Nat) (da : Option Addr) (dl dc : Nat), v = .agg #[.bool g, .bool s', .slice na nl nc, .slice da dl dc] ∧ (g = true → RR w (.agg #[.bool s', .slice na nl nc, .slice da dl dc]) s n d) ∧ (g = false → s' = false ∧ na = none ∧ nl = 0 ∧ nc = 0 ∧ da = none ∧ dl = 0 ∧ dc = 0)
theorem EDs.below {w w' : World} {v : Value} {g s : Bool} {n d : Nat} (h : EDs w v g s n d) (b : Below w.heap.size w w') : EDs w' v g s n d := by
  obtain ⟨s', na, nl, nc, da, dl, dc, rfl, h1, h2⟩ := h
  exact ⟨s', na, nl, nc, da, dl, dc, rfl, fun e => (h1 e).below b, h2⟩
theorem rrs_past4 {w w' : World} {s : Bool} {na : Option Addr} {nl nc : Nat} {da : Option Addr} {dl dc : Nat} {s1 : Bool} {n d g : Nat} {x y : Bool} {ya : Option Addr} {yl yc : Nat} {za : Option Addr} {zl zc : Nat} {t : TypeId} (h : RR w (.agg #[.bool s, .slice na nl nc, .slice da dl dc]) s1 n d) (hg : w.heap[g]? = some (.cells #[.bool x, .bool y, .slice ya yl yc, .slice za zl zc] t (0, 0))) (q : w.grownBy w' (some g)) :
    RR w' (.agg #[.bool s, .slice na nl nc, .slice da dl dc]) s1 n d := by
  obtain ⟨a1, a2, a3, b1, b2, b3, e, m1, m2⟩ := h
  exact ⟨a1, a2, a3, b1, b2, b3, e, rn_past4 m1 hg q, rn_past4 m2 hg q⟩
set_option maxRecDepth 100000 in
set_option maxHeartbeats 4000000 in
theorem redge_calls (w : World) (s : ByteArray) (l : List UInt8) (hs : s.data.toList = l) (hl : l.length ≤ 1073741824) :
    Calls Tryz.prog 43 #[.string s] w fun e w' => (∃ b, e = .returned (.tuple #[b, .bool (okB l)]) ∧ EDs w' b (okB l && decide (l ≠ [])) (cneg l) (M.dec (cup l)) (M.dec (clow l))) ∧ Below w.heap.size w w' := by
  have X1 := heap_alloc_new w (.cells #[.bool false, .bool false, .slice none 0 0, .slice none 0 0] 61)
  have B0 := alloc_below w (.cells #[.bool false, .bool false, .slice none 0 0, .slice none 0 0] 61)
  obtain ⟨W0, hW0⟩ : ∃ W0, w.alloc (.cells #[.bool false, .bool false, .slice none 0 0, .slice none 0 0] 61) = W0 := ⟨_, rfl⟩
  rw [hW0] at X1 B0
  have q1 := hide (rof_calls W0 s l hs hl)
  obtain ⟨sn1, sn2⟩ := str_nil hs
  by_cases h0 : l = []
  · have e0 := sn1 h0
    subst e0
    have ok : okB l = true := by unfold okB; rw [decide_eq_true h0]; rfl
    have g0 : (okB l && decide (l ≠ [])) = false := by rw [decide_eq_false (by simpa using h0), Bool.and_false]
    rw [g0, ok]
    obtain ⟨⟨t0, t1, t2, t3⟩, f0, f1, f2, f3⟩ := box4 X1
    clear q1 hs sn1 sn2 h0 g0 ok
    go_enter Tryz.func43, Tryz.ntmps43
    go_wp2
    refine bodyPost_ret (v := .tuple #[.agg #[.bool false, .bool false, .slice none 0 0, .slice none 0 0], .bool true]) (by simp [results, Tryz.results43, go_sem, t0, t1, t2, t3]) rfl ?_
    exact ⟨⟨_, rfl, false, none, 0, 0, none, 0, 0, rfl, (fun h => by cases h), fun _ => ⟨rfl, rfl, rfl, rfl, rfl, rfl, rfl⟩⟩, B0.then_grown (box4_grown _ _ _ _ _ _) (by rintro g ⟨⟩; exact Nat.le_refl _)⟩
  · have o6 : s.toList.isEmpty = false := by
      rw [← str_toList, hs]
      cases l with
      | nil => exact absurd rfl h0
      | cons a b => rfl
    have dt : decide (l ≠ []) = true := decide_eq_true h0
    rw [dt, Bool.and_true]
    have X1h := hide X1
    have B0h := hide B0
    cases hk : canB l with
    | false =>
      have ok : okB l = false := by unfold okB; rw [decide_eq_false h0, hk]; rfl
      have hc : ¬ CanT l := fun h => by rw [(canB_iff l).2 h] at hk; cases hk
      rw [ok]
      clear sn1 sn2 hs h0 X1 B0 dt ok hk
      go_enter Tryz.func43, Tryz.ntmps43
      go_upto_region 4 with (go_at_call 50; refine q1.out.mono ?_; rintro e w1 ⟨⟨-, h1⟩, b1⟩; have hh := h1 hc; subst hh; clear h1)
      have X2 := kept_block (kept_block X1h.out b1) (alloc_below w1 (.cells #[.bool false, .slice none 0 0, .slice none 0 0] 59))
      have B2 := B0h.out.then_below (b1.then_below (alloc_below w1 (.cells #[.bool false, .slice none 0 0, .slice none 0 0] 59)))
      have Y2 := heap_alloc_new w1 (.cells #[.bool false, .slice none 0 0, .slice none 0 0] 59)
      generalize hw2 : w1.alloc (.cells #[.bool false, .slice none 0 0, .slice none 0 0] 59) = w2 at *
      obtain ⟨⟨t0, t1, t2, t3⟩, f0, f1, f2, f3⟩ := box4 X2
      obtain ⟨y0, y1, y2, -, -, -⟩ := box3 Y2
      clear hw2
      go_wp2
      refine bodyPost_ret (v := .tuple #[.agg #[.bool false, .bool false, .slice none 0 0, .slice none 0 0], .bool false]) (by simp [results, Tryz.results43, go_sem, t0, t1, t2, t3]) rfl ?_
      exact ⟨⟨_, rfl, false, none, 0, 0, none, 0, 0, rfl, (fun h => by cases h), fun _ => ⟨rfl, rfl, rfl, rfl, rfl, rfl, rfl⟩⟩, B2.then_grown (box4_grown _ _ _ _ _ _) (by rintro g ⟨⟩; exact Nat.le_refl _)⟩
    | true =>
      have ok : okB l = true := by unfold okB; rw [hk, Bool.or_true]
      have hc := (canB_iff l).1 hk
      rw [ok]
      clear sn1 sn2 hs h0 X1 B0 dt ok hk
      go_enter Tryz.func43, Tryz.ntmps43
      go_upto_region 4 with (go_at_call 50; refine q1.out.mono ?_; rintro e w1 ⟨⟨h1, -⟩, b1⟩; obtain ⟨v, rfl, hv⟩ := h1 hc; clear h1; have hv1 := hv; obtain ⟨na, nl, nc, da, dl, dc, rfl, -, -⟩ := hv1)
      have X2 := kept_block (kept_block X1h.out b1) (alloc_below w1 (.cells #[.bool (cneg l), .slice na nl nc, .slice da dl dc] 59))
      have B2 := B0h.out.then_below (b1.then_below (alloc_below w1 (.cells #[.bool (cneg l), .slice na nl nc, .slice da dl dc] 59)))
      have Y2 := heap_alloc_new w1 (.cells #[.bool (cneg l), .slice na nl nc, .slice da dl dc] 59)
      have HV := hide (hv.below (alloc_below w1 (.cells #[.bool (cneg l), .slice na nl nc, .slice da dl dc] 59)))
      generalize hw2 : w1.alloc (.cells #[.bool (cneg l), .slice na nl nc, .slice da dl dc] 59) = w2 at *
      obtain ⟨⟨t0, t1, t2, t3⟩, f0, f1, f2, f3⟩ := box4 X2
      obtain ⟨y0, y1, y2, -, -, -⟩ := box3 Y2
      clear hw2
      go_wp2
      refine bodyPost_ret (v := .tuple #[.agg #[.bool true, .bool (cneg l), .slice na nl nc, .slice da dl dc], .bool true]) (by simp [results, Tryz.results43, go_sem, t0, t1, t2, t3]) rfl ?_
      have q := box4_grown w2 w.heap.size (.bool true) (.bool (cneg l)) (.slice na nl nc) (.slice da dl dc)
      exact ⟨⟨_, rfl, cneg l, na, nl, nc, da, dl, dc, rfl, fun _ => rrs_past4 HV.out X2 q, fun h => by cases h⟩, B2.then_grown q (by rintro g ⟨⟩; exact Nat.le_refl _)⟩
/-- Compare with 0 tells the sign. -/
theorem rcompare_zero (w : World) (va vb : Value) (s : Bool) (n d K : Nat) (ha : RR w va s n d) (hb : RR w vb false 0 1) (hd : 0 < d) (hs : s = true → n ≠ 0) (k1 : (n : Int) < M.NB ^ K) (l1 : (d : Int) < M.NB ^ K) (k0 : ((0 : Nat) : Int) < M.NB ^ K) (l2 : ((1 : Nat) : Int) < M.NB ^ K) (hK : 2 * K + 1 ≤ 17592186044) (hK1 : 1 ≤ K) :
    Calls Tryz.prog 44 #[va, vb] w fun e w' => (∃ c : Int, e = .returned (.int .i64 c) ∧ (c < 0 ↔ s = true) ∧ (0 < c ↔ s = false ∧ n ≠ 0)) ∧ Below w.heap.size w w' := by
  refine (rcompare_calls w va vb s false n d 0 1 K ha hb hd Nat.one_pos k1 l1 k0 l2 hK hK1 _ rfl).mono ?_
  rintro e w' ⟨h1, h2⟩
  refine ⟨⟨_, h1, ?_⟩, h2⟩
  clear h1 h2
  have ea : M.addS s (n * 1) (!false && !decide ((0 : Nat) = 0)) (0 * d) = (s, n) := by
    rw [Nat.zero_mul, Nat.mul_one]
    rw [show (!false && !decide ((0 : Nat) = 0)) = false from rfl]
    unfold M.addS
    cases s with
    | false => rw [if_pos rfl, Nat.add_zero]
    | true => rw [if_neg (by decide), if_pos (Nat.zero_le _), Nat.sub_zero]
  rw [ea]
  have hg : 0 < d * 1 := by omega
  by_cases hn : n = 0
  · have hsf : s = false := by
      cases s with
      | false => rfl
      | true => exact absurd hn (hs rfl)
    subst hsf
    subst hn
    have : sgn (false && !decide (0 = 0)) (0 / Nat.gcd 0 (d * 1)) = 0 := by rw [Nat.zero_div]; rfl
    show (sgn (false && !decide (0 = 0)) (0 / Nat.gcd 0 (d * 1)) < 0 ↔ _) ∧ _
    rw [this]
    simp
  · have hq : 0 < n / Nat.gcd n (d * 1) := Nat.div_pos (Nat.le_of_dvd (by omega) (Nat.gcd_dvd_left _ _)) (Nat.gcd_pos_of_pos_right _ hg)
    show (sgn (s && !decide (n = 0)) (n / Nat.gcd n (d * 1)) < 0 ↔ _) ∧ (0 < sgn (s && !decide (n = 0)) (n / Nat.gcd n (d * 1)) ↔ _)
    rw [decide_eq_false hn]
    cases s with
    | false =>
      have : sgn (false && !false) (n / Nat.gcd n (d * 1)) = 1 := by unfold sgn; rw [if_neg (by omega), if_neg (by decide)]
      rw [this]
      simp [hn]
    | true =>
      have : sgn (true && !false) (n / Nat.gcd n (d * 1)) = -1 := by unfold sgn; rw [if_neg (by omega), if_pos (by decide)]
      rw [this]
      simp
end Go.Proofs.YtebnjolkolobhaaGreatDoor
