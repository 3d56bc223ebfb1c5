/-
  Package num: the bounds of Simplest.
-/
import Derived.Test.YtebnjolkolobhaaGreatDoorSimTG
import Derived.Test.YtebnjolkolobhaaGreatDoorMulBG
import Derived.Test.YtebnjolkolobhaaGreatDoorAll8
/- ==== NumSimA ==== -/
namespace Go.Proofs.YtebnjolkolobhaaGreatDoor
open Go.RowKit
set_option linter.unusedVariables false
theorem pb_ok (w : World) (s : ByteArray) (l : List UInt8) (hs : s.data.toList = l) (hl : l.length ≤ 1073741824) (m : Int) (hM : w.cell? ⟨0, 0, none⟩ = some (.int .i64 m)) (hT : Tab w) (ok : okB l = true) (g : Bool) (hg : decide (l ≠ []) = g) :
    Calls Tryz.prog 38 #[.string s] w fun e w' => (∃ b, e = .returned (.tuple #[b, .bool true]) ∧ BD w' b g (cneg l) (M.dec (cup l)) (cden l)) ∧ Below w.heap.size w w' := by
  refine (pbound_calls w s l hs hl m hM hT).mono ?_
  rintro e w' ⟨⟨b, h1, h2⟩, h3⟩
  rw [ok] at h1
  rw [← hg]
  exact ⟨⟨b, h1, h2 ok⟩, h3⟩
set_option maxRecDepth 100000 in
set_option maxHeartbeats 4000000 in
theorem pb_no (w : World) (s : ByteArray) (l : List UInt8) (hs : s.data.toList = l) (hl : l.length ≤ 1073741824) (m : Int) (hM : w.cell? ⟨0, 0, none⟩ = some (.int .i64 m)) (hT : Tab w) (ok : okB l = false) :
    Calls Tryz.prog 38 #[.string s] w fun e w' => e = .returned (.tuple #[.agg #[.bool false, .bool false, .int .u64 0, .slice none 0 0, .int .u64 0, .slice none 0 0], .bool false]) ∧ Below w.heap.size w w' := by
  have X1 := heap_alloc_new w (.cells #[.bool false, .bool false, .int .u64 0, .slice none 0 0, .int .u64 0, .slice none 0 0] 51)
  have B0 := alloc_below w (.cells #[.bool false, .bool false, .int .u64 0, .slice none 0 0, .int .u64 0, .slice none 0 0] 51)
  obtain ⟨W0, hW0⟩ : ∃ W0, w.alloc (.cells #[.bool false, .bool false, .int .u64 0, .slice none 0 0, .int .u64 0, .slice none 0 0] 51) = W0 := ⟨_, rfl⟩
  rw [hW0] at X1 B0
  have q1 := hide (parse_calls W0 s l hs hl m (by rw [B0.cell (World.block_lt_of_cell? w _ hM)]; exact hM) (hT.below B0))
  have h0 : l ≠ [] := fun e => by subst e; cases ok
  have hc : ¬ CanT l := fun h => by unfold okB at ok; rw [(canB_iff l).2 h, Bool.or_true] at ok; cases ok
  have o6 : s.toList.isEmpty = false := by
    rw [← str_toList, hs]
    cases l with
    | nil => exact absurd rfl h0
    | cons a b => rfl
  have X1h := hide X1
  have B0h := hide B0
  clear hs h0 X1 B0 ok
  go_enter Tryz.func38, Tryz.ntmps38
  go_upto_region 4 with (go_at_call 71; refine q1.out.mono ?_; rintro e w1 ⟨⟨-, h1⟩, b1⟩; have hh := h1 hc; subst hh; clear h1)
  have X2 := kept_block (kept_block X1h.out b1) (alloc_below w1 (.cells #[.bool false, .int .u64 0, .slice none 0 0, .int .u64 0, .slice none 0 0] 45))
  have B2 := B0h.out.then_below (b1.then_below (alloc_below w1 (.cells #[.bool false, .int .u64 0, .slice none 0 0, .int .u64 0, .slice none 0 0] 45)))
  have Y2 := heap_alloc_new w1 (.cells #[.bool false, .int .u64 0, .slice none 0 0, .int .u64 0, .slice none 0 0] 45)
  generalize hw2 : w1.alloc (.cells #[.bool false, .int .u64 0, .slice none 0 0, .int .u64 0, .slice none 0 0] 45) = w2 at *
  obtain ⟨⟨t0, t1, t2, t3, t4, t5⟩, f0, f1, f2, f3, f4, f5⟩ := box6 X2
  obtain ⟨⟨y0, y1, y2, y3, y4⟩, -⟩ := ratBox Y2
  clear hw2
  go_wp2
  refine bodyPost_ret (v := .tuple #[.agg #[.bool false, .bool false, .int .u64 0, .slice none 0 0, .int .u64 0, .slice none 0 0], .bool false]) (by simp [results, Tryz.results38, go_sem, t0, t1, t2, t3, t4, t5]) rfl ?_
  exact ⟨rfl, B2.then_grown (box6_grown _ _ _ _ _ _ _ _) (by rintro g ⟨⟩; exact Nat.le_refl _)⟩
set_option maxRecDepth 100000 in
set_option maxHeartbeats 4000000 in
theorem numSim_no (w : World) (sa sb : ByteArray) (la lb : List UInt8) (ha : sa.data.toList = la) (hb : sb.data.toList = lb) (hla : la.length ≤ 1048576) (hlb : lb.length ≤ 1048576) (env : Env w) (hk : (okB la && okB lb) = false) :
    Calls Tryz.prog 13 #[.string sa, .string sb] w fun e w' => e = .returned (.tuple #[.string ⟨#[]⟩, .int .i64 1]) ∧ Below w.heap.size w w' := by
  have EE := hide env
  have qa := hide (fun W (h : Below w.heap.size w W) => (EE.out.below h : Env W))
  have p1 := hide (fun W (h : Below w.heap.size w W) (ok : okB la = true) => pb_ok W sa la ha (by omega) (qa.out W h).1.choose (qa.out W h).1.choose_spec (qa.out W h).2.1 ok _ rfl)
  have p2 := hide (fun W (h : Below w.heap.size w W) (ok : okB lb = true) => pb_ok W sb lb hb (by omega) (qa.out W h).1.choose (qa.out W h).1.choose_spec (qa.out W h).2.1 ok _ rfl)
  have n1 := hide (fun W (h : Below w.heap.size w W) (ok : okB la = false) => pb_no W sa la ha (by omega) (qa.out W h).1.choose (qa.out W h).1.choose_spec (qa.out W h).2.1 ok)
  have n2 := hide (fun W (h : Below w.heap.size w W) (ok : okB lb = false) => pb_no W sb lb hb (by omega) (qa.out W h).1.choose (qa.out W h).1.choose_spec (qa.out W h).2.1 ok)
  clear ha hb hla hlb env EE
  generalize okB la = ka at *
  generalize okB lb = kb at *
  cases ka with
  | false =>
    cases kb with
    | false =>
      replace n1 := hide (fun W h => n1.out W h rfl)
      replace n2 := hide (fun W h => n2.out W h rfl)
      clear hk p1 p2
      go_enter Tryz.func13, Tryz.ntmps13
      go_wp2_with (first
        | (go_at_call_of 38 (Value.string sa); refine (n1.out _ (Below.refl _ _)).mono ?_; rintro e wa ⟨rfl, ba⟩; replace ba := hide ba)
        | (go_at_call_of 38 (Value.string sb); refine (n2.out _ (ba.out.then_below (alloc_below _ _))).mono ?_; rintro e wb ⟨rfl, bb⟩; replace bb := hide bb))
      refine bodyPost_ret (v := .tuple #[.string ⟨#[]⟩, .int .i64 1]) (by simp [results, Tryz.results13, go_sem]) rfl ?_
      exact ⟨rfl, ((ba.out.then_below (alloc_below _ _)).then_below bb.out).then_below (alloc_below _ _)⟩
    | true =>
      replace n1 := hide (fun W h => n1.out W h rfl)
      replace p2 := hide (fun W h => p2.out W h rfl)
      clear hk p1 n2
      go_enter Tryz.func13, Tryz.ntmps13
      go_wp2_with (first
        | (go_at_call_of 38 (Value.string sa); refine (n1.out _ (Below.refl _ _)).mono ?_; rintro e wa ⟨rfl, ba⟩; replace ba := hide ba)
        | (go_at_call_of 38 (Value.string sb); refine (p2.out _ (ba.out.then_below (alloc_below _ _))).mono ?_; rintro e wb ⟨⟨b, rfl, hb1⟩, bb⟩; obtain ⟨s1, x1, x2, x3, x4, y1, y2, y3, y4, rfl, -⟩ := hb1; replace bb := hide bb))
      refine bodyPost_ret (v := .tuple #[.string ⟨#[]⟩, .int .i64 1]) (by simp [results, Tryz.results13, go_sem]) rfl ?_
      exact ⟨rfl, ((ba.out.then_below (alloc_below _ _)).then_below bb.out).then_below (alloc_below _ _)⟩
  | true =>
    cases kb with
    | true => cases hk
    | false =>
      replace p1 := hide (fun W h => p1.out W h rfl)
      replace n2 := hide (fun W h => n2.out W h rfl)
      clear hk n1 p2
      go_enter Tryz.func13, Tryz.ntmps13
      go_wp2_with (first
        | (go_at_call_of 38 (Value.string sa); refine (p1.out _ (Below.refl _ _)).mono ?_; rintro e wa ⟨⟨b, rfl, hb1⟩, ba⟩; obtain ⟨s1, x1, x2, x3, x4, y1, y2, y3, y4, rfl, -⟩ := hb1; replace ba := hide ba)
        | (go_at_call_of 38 (Value.string sb); refine (n2.out _ (ba.out.then_below (alloc_below _ _))).mono ?_; rintro e wb ⟨rfl, bb⟩; replace bb := hide bb))
      refine bodyPost_ret (v := .tuple #[.string ⟨#[]⟩, .int .i64 1]) (by simp [results, Tryz.results13, go_sem]) rfl ?_
      exact ⟨rfl, ((ba.out.then_below (alloc_below _ _)).then_below bb.out).then_below (alloc_below _ _)⟩
/-- A text's number is small. -/
theorem can_small {l : List UInt8} (h : CanT l) (hl : l.length ≤ 1048576) {L : Nat} (hL : L = 1048577) : M.dec (cup l) ≤ 2 ^ (64 * L) - 1 ∧ M.dec (clow l) ≤ 2 ^ (64 * L) - 1 := by
  obtain ⟨k1, k2⟩ := can_BB h (K := L) (by omega)
  have e : ((2 ^ (64 * L) : Nat) : Int) = M.BB ^ L := by
    rw [Nat.pow_mul, Int.natCast_pow]
    rfl
  rw [← e] at k1 k2
  have h1 : M.dec (cup l) < 2 ^ (64 * L) := by exact_mod_cast k1
  have h2 : M.dec (clow l) < 2 ^ (64 * L) := by exact_mod_cast k2
  omega
theorem small_two {L : Nat} : ((2 * (2 ^ (64 * L) - 1) : Nat) : Int) < M.BB ^ (L + 1) := by
  have e : ((2 ^ (64 * (L + 1)) : Nat) : Int) = M.BB ^ (L + 1) := by
    rw [Nat.pow_mul, Int.natCast_pow]
    rfl
  rw [← e]
  have h1 : 2 ^ (64 * (L + 1)) = 2 ^ (64 * L) * 2 ^ 64 := by
    rw [← Nat.pow_add, Nat.mul_add]
  have hp : 0 < 2 ^ (64 * L) := Nat.pow_pos (by decide)
  have : 2 * (2 ^ (64 * L) - 1) < 2 ^ (64 * (L + 1)) := by
    rw [h1]
    generalize 2 ^ (64 * L) = x at *
    omega
  exact_mod_cast this
theorem small_one {L : Nat} : 2 ^ (64 * L) - 1 < 2 ^ (64 * L) := by
  have hp : 0 < 2 ^ (64 * L) := Nat.pow_pos (by decide)
  omega
theorem one_small {L : Nat} (hL : L = 1048577) : 1 ≤ 2 ^ (64 * L) - 1 := by
  have h : 2 ^ 1 ≤ 2 ^ (64 * L) := Nat.pow_le_pow_right (by decide) (by omega)
  omega
/-- The size of a bound is small, and what simplestSize wants of it. -/
theorem szO_small {l : List UInt8} (ok : okB l = true) (hl : l.length ≤ 1048576) {L : Nat} (hL : L = 1048577) : (szO (bO l)).1 ≤ 2 ^ (64 * L) - 1 ∧ (szO (bO l)).2 ≤ 2 ^ (64 * L) - 1 := by
  by_cases h : l = []
  · subst h
    exact ⟨one_small hL, Nat.zero_le _⟩
  · have hc := okB_can ok h
    rw [bO_some h, szO_some hc]
    exact can_small hc hl hL
theorem szO_parts {l : List UInt8} (ok : okB l = true) {g : Bool} (hg : decide (l ≠ []) = g) : (if g then M.dec (cup l) else 1) = (szO (bO l)).1 ∧ (if g then lowN (cden l) else 0) = (szO (bO l)).2 := by
  by_cases h : l = []
  · subst h
    cases hg
    exact ⟨rfl, rfl⟩
  · have hc := okB_can ok h
    rw [← hg, decide_eq_true h, bO_some h, szO_some hc]
    simp only [if_true]
    exact ⟨trivial, lowN_can hc⟩
end Go.Proofs.YtebnjolkolobhaaGreatDoor
