/-
  Package num: a bound's size, and a bound read.
-/
import Derived.Test.YtebnjolkolobhaaGreatDoorSimBox
import Derived.Test.YtebnjolkolobhaaGreatDoorNumAG
import Derived.Test.YtebnjolkolobhaaGreatDoorUpG
import Derived.Test.YtebnjolkolobhaaGreatDoorMulA
import Derived.Test.YtebnjolkolobhaaGreatDoorEnvG
/- ==== SimHead ==== -/
namespace Go.Proofs.YtebnjolkolobhaaGreatDoor
open Go.RowKit
set_option linter.unusedVariables false
/-- A bound in memory. -/
def BD (w : World) (v : Value) (g s : Bool) (n d : Nat) : Prop :=
  ∃ (s' : Bool) (x1 : Int) (x2 : Option Addr) (x3 x4 : Nat) (y1 : Int) (y2 : Option Addr) (y3 y4 : Nat), v = .agg #[.bool g, .bool s', .int .u64 x1, .slice x2 x3 x4, .int .u64 y1, .slice y2 y3 y4] ∧
    (g = true → DenR w (.agg #[.bool s', .int .u64 x1, .slice x2 x3 x4, .int .u64 y1, .slice y2 y3 y4]) s n d)
theorem BD.below {w w' : World} {v : Value} {g s : Bool} {n d : Nat} (h : BD w v g s n d) (b : Below w.heap.size w w') : BD w' v g s n d := by
  obtain ⟨s', x1, x2, x3, x4, y1, y2, y3, y4, rfl, h1⟩ := h
  exact ⟨s', x1, x2, x3, x4, y1, y2, y3, y4, rfl, fun e => (h1 e).below b⟩
set_option maxRecDepth 100000 in
set_option maxHeartbeats 4000000 in
theorem bsize_calls (w : World) (v : Value) (g s : Bool) (n d : Nat) (h : BD w v g s n d) :
    Calls Tryz.prog 82 #[v] w fun e w' => (∃ r, e = .returned r ∧ PairD w' r (if g then n else 1) (if g then lowN d else 0)) ∧ Below w.heap.size w w' := by
  obtain ⟨s', x1, x2, x3, x4, y1, y2, y3, y4, rfl, h1⟩ := h
  obtain ⟨X1, Y1, B0⟩ := alloc2_facts w (.cells #[.bool g, .bool s', .int .u64 x1, .slice x2 x3 x4, .int .u64 y1, .slice y2 y3 y4] 51) (.cells #[.int .u64 0, .slice none 0 0, .int .u64 0, .slice none 0 0] 105)
  obtain ⟨W0, hW0⟩ : ∃ W0, (w.alloc (.cells #[.bool g, .bool s', .int .u64 x1, .slice x2 x3 x4, .int .u64 y1, .slice y2 y3 y4] 51)).alloc (.cells #[.int .u64 0, .slice none 0 0, .int .u64 0, .slice none 0 0] 105) = W0 := ⟨_, rfl⟩
  rw [hW0] at X1 Y1 B0
  obtain ⟨⟨t0, t1, t2, t3, t4, t5⟩, -⟩ := box6 X1
  obtain ⟨⟨z0, z1, z2, z3⟩, f0, f1, f2, f3⟩ := box4 Y1
  cases g with
  | false =>
    clear h1
    replace X1 := hide X1
    replace Y1 := hide Y1
    replace B0 := hide B0
    go_enter Tryz.func82, Tryz.ntmps82
    go_wp2_with (go_at_call 53; refine (word_calls _ 1 (by decide)).mono ?_; rintro e wb ⟨rfl, bb⟩; have Y2 := hide (kept_block Y1.out bb); obtain ⟨⟨z0, z1, z2, z3⟩, f0, f1, f2, f3⟩ := box4 Y2.out; replace bb := hide bb)
    refine bodyPost_ret (v := .agg #[.int .u64 1, .slice none 0 0, .int .u64 0, .slice none 0 0]) (by simp [results, Tryz.results82, go_sem, z0, z1, z2, z3]) rfl ?_
    exact ⟨⟨_, rfl, _, _, _, _, _, _, _, _, rfl, den_word _ 1 (by decide), den_word _ 0 (by decide)⟩, (B0.out.then_below bb.out).then_grown (box4_grown _ _ _ _ _ _) (by rintro g ⟨⟩; omega)⟩
  | true =>
    have D1 := hide ((h1 rfl).below B0)
    clear h1
    replace X1 := hide X1
    replace Y1 := hide Y1
    replace B0 := hide B0
    go_enter Tryz.func82, Tryz.ntmps82
    go_upto_region 3 with fail
    go_region_with (first
      | (go_at_call 30; refine (upper_calls _ _ s n d (D1.out.below (by repeat (first | with_reducible exact Below.refl _ _ | with_reducible refine Below.drew ?_ | with_reducible refine Below.then_below ?_ (alloc_below _ _) | with_reducible refine Below.then_below ?_ bb)))).mono ?_; rintro e wa ⟨⟨ra, rfl, da⟩, ba⟩; obtain ⟨u1, u2, u3, u4, rfl⟩ := da.shape2; have Ba : Below W0.heap.size W0 wa := (by repeat (first | with_reducible exact Below.refl _ _ | with_reducible refine Below.drew ?_ | with_reducible refine Below.then_below ?_ (alloc_below _ _) | with_reducible refine Below.then_below ?_ ba | with_reducible refine Below.then_below ?_ bb)); obtain ⟨⟨t0, t1, t2, t3, t4, t5⟩, -⟩ := box6 (kept_block X1.out Ba); have Y2 := kept_block Y1.out Ba; obtain ⟨⟨z0, z1, z2, z3⟩, f0, f1, f2, f3⟩ := box4 Y2)
      | (go_at_call 33; refine (lower_low _ _ s n d (D1.out.below (by repeat (first | with_reducible exact Below.refl _ _ | with_reducible refine Below.drew ?_ | with_reducible refine Below.then_below ?_ (alloc_below _ _) | with_reducible refine Below.then_below ?_ ba)))).mono ?_; rintro e wb ⟨⟨rb, rfl, db⟩, bb⟩; obtain ⟨l1, l2, l3, l4, rfl⟩ := db.shape2; have Bb : Below W0.heap.size W0 wb := (by repeat (first | with_reducible exact Below.refl _ _ | with_reducible refine Below.drew ?_ | with_reducible refine Below.then_below ?_ (alloc_below _ _) | with_reducible refine Below.then_below ?_ ba | with_reducible refine Below.then_below ?_ bb)); obtain ⟨⟨t0, t1, t2, t3, t4, t5⟩, -⟩ := box6 (kept_block X1.out Bb); have Y2 := kept_block Y1.out Bb; obtain ⟨⟨z0, z1, z2, z3⟩, f0, f1, f2, f3⟩ := box4 Y2))
    all_goals go_wp2_with fail
    all_goals (refine bodyPost_ret (v := .agg #[.int .u64 u1, .slice u2 u3 u4, .int .u64 l1, .slice l2 l3 l4]) (by simp [results, Tryz.results82, go_sem, z0, z1, z2, z3]) rfl ?_)
    all_goals first
      | (have dq := da.below (show Below wa.heap.size wa wb from (by repeat (first | with_reducible exact Below.refl _ _ | with_reducible refine Below.drew ?_ | with_reducible refine Below.then_below ?_ (alloc_below _ _) | with_reducible refine Below.then_below ?_ bb))); have q := box4_grown wb (w.heap.size + 1) (.int .u64 u1) (.slice u2 u3 u4) (.int .u64 l1) (.slice l2 l3 l4); exact ⟨⟨_, rfl, _, _, _, _, _, _, _, _, rfl, dq.kept q (dq.notin (nopair4 _ _ _ _ _ _ _ _) Y2), db.kept q (db.notin (nopair4 _ _ _ _ _ _ _ _) Y2)⟩, (B0.out.then_below Bb).then_grown q (by rintro g ⟨⟩; omega)⟩)
      | (have dq := db.below (show Below wb.heap.size wb wa from (by repeat (first | with_reducible exact Below.refl _ _ | with_reducible refine Below.drew ?_ | with_reducible refine Below.then_below ?_ (alloc_below _ _) | with_reducible refine Below.then_below ?_ ba))); have q := box4_grown wa (w.heap.size + 1) (.int .u64 u1) (.slice u2 u3 u4) (.int .u64 l1) (.slice l2 l3 l4); exact ⟨⟨_, rfl, _, _, _, _, _, _, _, _, rfl, da.kept q (da.notin (nopair4 _ _ _ _ _ _ _ _) Y2), dq.kept q (dq.notin (nopair4 _ _ _ _ _ _ _ _) Y2)⟩, (B0.out.then_below Ba).then_grown q (by rintro g ⟨⟩; omega)⟩)
/-- What a text says of a bound. -/
def okB (l : List UInt8) : Bool := decide (l = []) || canB l
theorem box6_grown (w : World) (g : Nat) (a b c d e f : Value) : w.grownBy ((((((w.setCell ⟨g, 0, none⟩ a).setCell ⟨g, 1, none⟩ b).setCell ⟨g, 2, none⟩ c).setCell ⟨g, 3, none⟩ d).setCell ⟨g, 4, none⟩ e).setCell ⟨g, 5, none⟩ f) (some g) :=
  grown_trans (grown_trans (box4_grown _ _ _ _ _ _) (grown_set _ _ _ _)) (grown_set _ _ _ _)
theorem nopair6 (b c : Bool) (x1 : Int) (x2 : Option Addr) (x3 x4 : Nat) (y1 : Int) (y2 : Option Addr) (y3 y4 : Nat) : NoPair #[.bool b, .bool c, .int .u64 x1, .slice x2 x3 x4, .int .u64 y1, .slice y2 y3 y4] := by
  intro j u v h1 h2
  match j with
  | 0 => simp at h1
  | 1 => simp at h1
  | 2 => simp at h2
  | 3 => simp at h1
  | 4 => simp at h2
  | 5 => simp at h1
  | k + 6 => simp at h1
theorem str_nil {s : ByteArray} {l : List UInt8} (hs : s.data.toList = l) : (l = [] → s = ⟨#[]⟩) ∧ (l ≠ [] → s ≠ ⟨#[]⟩) := by
  constructor
  · intro h
    subst h
    cases s with | mk d => cases d with | mk t => simp at hs; rw [hs]
  · rintro h rfl
    exact h hs.symm
set_option maxRecDepth 100000 in
set_option maxHeartbeats 4000000 in
theorem pbound_calls (w : World) (s : ByteArray) (l : List UInt8) (hs : s.data.toList = l) (hl : l.length ≤ 1073741824) (m : Int) (hM : w.cell? ⟨0, 0, none⟩ = some (.int .i64 m)) (hT : Tab w) :
    Calls Tryz.prog 38 #[.string s] w fun e w' => (∃ b, e = .returned (.tuple #[b, .bool (okB l)]) ∧ (okB l = true → BD w' b (decide (l ≠ [])) (cneg l) (M.dec (cup l)) (cden l))) ∧ Below w.heap.size w w' := by
  have X1 := heap_alloc_new w (.cells #[.bool false, .bool false, .int .u64 0, .slice none 0 0, .int .u64 0, .slice none 0 0] 51)
  have B0 := alloc_below w (.cells #[.bool false, .bool false, .int .u64 0, .slice none 0 0, .int .u64 0, .slice none 0 0] 51)
  obtain ⟨W0, hW0⟩ : ∃ W0, w.alloc (.cells #[.bool false, .bool false, .int .u64 0, .slice none 0 0, .int .u64 0, .slice none 0 0] 51) = W0 := ⟨_, rfl⟩
  rw [hW0] at X1 B0
  have q1 := hide (parse_calls W0 s l hs hl m (by rw [B0.cell (World.block_lt_of_cell? w _ hM)]; exact hM) (hT.below B0))
  obtain ⟨sn1, sn2⟩ := str_nil hs
  by_cases h0 : l = []
  · have e0 := sn1 h0
    subst e0
    have ok : okB l = true := by unfold okB; rw [decide_eq_true h0]; rfl
    rw [ok]
    obtain ⟨⟨t0, t1, t2, t3, t4, t5⟩, f0, f1, f2, f3, f4, f5⟩ := box6 X1
    clear q1 hs sn1 sn2
    go_enter Tryz.func38, Tryz.ntmps38
    go_wp2
    refine bodyPost_ret (v := .tuple #[.agg #[.bool false, .bool false, .int .u64 0, .slice none 0 0, .int .u64 0, .slice none 0 0], .bool true]) (by simp [results, Tryz.results38, go_sem, t0, t1, t2, t3, t4, t5]) rfl ?_
    exact ⟨⟨_, rfl, fun _ => ⟨false, 0, none, 0, 0, 0, none, 0, 0, by rw [decide_eq_false (by simpa using h0)], fun h => by rw [decide_eq_false (by simpa using h0)] at h; cases h⟩⟩, B0.then_grown (box6_grown _ _ _ _ _ _ _ _) (by rintro g ⟨⟩; exact Nat.le_refl _)⟩
  · have ne := sn2 h0
    have o6 : s.toList.isEmpty = false := by
      rw [← str_toList, hs]
      cases l with
      | nil => exact absurd rfl h0
      | cons a b => rfl
    have dt : decide (l ≠ []) = true := decide_eq_true h0
    rw [dt]
    have X1h := hide X1
    have B0h := hide B0
    cases hk : canB l with
    | false =>
      have ok : okB l = false := by unfold okB; rw [decide_eq_false h0, hk]; rfl
      have hc : ¬ CanT l := fun h => by rw [(canB_iff l).2 h] at hk; cases hk
      rw [ok]
      clear sn1 sn2 hs h0 X1 B0
      go_enter Tryz.func38, Tryz.ntmps38
      go_upto_region 4 with (go_at_call 71; refine q1.out.mono ?_; rintro e w1 ⟨⟨-, h1⟩, b1⟩; have hh := h1 hc; subst hh; clear h1)
      have X2 := kept_block (kept_block X1h.out b1) (alloc_below w1 (.cells #[.bool false, .int .u64 0, .slice none 0 0, .int .u64 0, .slice none 0 0] 45))
      have B2 := B0h.out.then_below (b1.then_below (alloc_below w1 (.cells #[.bool false, .int .u64 0, .slice none 0 0, .int .u64 0, .slice none 0 0] 45)))
      have Y2 := heap_alloc_new w1 (.cells #[.bool false, .int .u64 0, .slice none 0 0, .int .u64 0, .slice none 0 0] 45)
      generalize hw2 : w1.alloc (.cells #[.bool false, .int .u64 0, .slice none 0 0, .int .u64 0, .slice none 0 0] 45) = w2 at *
      obtain ⟨⟨t0, t1, t2, t3, t4, t5⟩, f0, f1, f2, f3, f4, f5⟩ := box6 X2
      obtain ⟨⟨y0, y1, y2, y3, y4⟩, -⟩ := ratBox Y2
      clear hw2
      go_wp2
      refine bodyPost_ret (v := .tuple #[.agg #[.bool false, .bool false, .int .u64 0, .slice none 0 0, .int .u64 0, .slice none 0 0], .bool false]) (by simp [results, Tryz.results38, go_sem, t0, t1, t2, t3, t4, t5]) rfl ?_
      exact ⟨⟨_, rfl, fun h => by cases h⟩, B2.then_grown (box6_grown _ _ _ _ _ _ _ _) (by rintro g ⟨⟩; exact Nat.le_refl _)⟩
    | true =>
      have ok : okB l = true := by unfold okB; rw [hk]; simp
      have hc := (canB_iff l).1 hk
      rw [ok]
      clear sn1 sn2 hs h0 X1 B0
      go_enter Tryz.func38, Tryz.ntmps38
      go_upto_region 4 with (go_at_call 71; refine q1.out.mono ?_; rintro e w1 ⟨⟨h1, -⟩, b1⟩; obtain ⟨r, rfl, dr⟩ := h1 hc; clear h1; obtain ⟨p1, p2, p3, p4, q1', q2, q3, q4, rfl, dn, dl⟩ := dr.shape)
      have X2 := kept_block (kept_block X1h.out b1) (alloc_below w1 (.cells #[.bool (cneg l), .int .u64 p1, .slice p2 p3 p4, .int .u64 q1', .slice q2 q3 q4] 45))
      have B2 := B0h.out.then_below (b1.then_below (alloc_below w1 (.cells #[.bool (cneg l), .int .u64 p1, .slice p2 p3 p4, .int .u64 q1', .slice q2 q3 q4] 45)))
      have Y2 := heap_alloc_new w1 (.cells #[.bool (cneg l), .int .u64 p1, .slice p2 p3 p4, .int .u64 q1', .slice q2 q3 q4] 45)
      have dn2 := dn.below (alloc_below w1 (.cells #[.bool (cneg l), .int .u64 p1, .slice p2 p3 p4, .int .u64 q1', .slice q2 q3 q4] 45))
      have dl2 := dl.below (alloc_below w1 (.cells #[.bool (cneg l), .int .u64 p1, .slice p2 p3 p4, .int .u64 q1', .slice q2 q3 q4] 45))
      generalize hw2 : w1.alloc (.cells #[.bool (cneg l), .int .u64 p1, .slice p2 p3 p4, .int .u64 q1', .slice q2 q3 q4] 45) = w2 at *
      obtain ⟨⟨t0, t1, t2, t3, t4, t5⟩, f0, f1, f2, f3, f4, f5⟩ := box6 X2
      obtain ⟨⟨y0, y1, y2, y3, y4⟩, -⟩ := ratBox Y2
      clear hw2
      replace dn2 := hide dn2
      replace dl2 := hide dl2
      go_wp2
      refine bodyPost_ret (v := .tuple #[.agg #[.bool true, .bool (cneg l), .int .u64 p1, .slice p2 p3 p4, .int .u64 q1', .slice q2 q3 q4], .bool true]) (by simp [results, Tryz.results38, go_sem, t0, t1, t2, t3, t4, t5]) rfl ?_
      have q := box6_grown w2 w.heap.size (.bool true) (.bool (cneg l)) (.int .u64 p1) (.slice p2 p3 p4) (.int .u64 q1') (.slice q2 q3 q4)
      exact ⟨⟨_, rfl, fun _ => ⟨cneg l, p1, p2, p3, p4, q1', q2, q3, q4, rfl, fun _ => ⟨p1, p2, p3, p4, q1', q2, q3, q4, rfl, dn2.out.kept q (dn2.out.notin (nopair6 _ _ _ _ _ _ _ _ _ _) X2), dl2.out.kept q (dl2.out.notin (nopair6 _ _ _ _ _ _ _ _ _ _) X2)⟩⟩⟩, B2.then_grown q (by rintro g ⟨⟩; exact Nat.le_refl _)⟩
end Go.Proofs.YtebnjolkolobhaaGreatDoor
