/-
  The laws' step: the other kinds, and all of them.
-/
import Derived.Test.YtigbclhkmjcjjaaRefStep
namespace Go.Proofs.Ytigbclhkmjcjjaa
open Go.RowKit
set_option linter.unusedVariables false
/-- The list of an order. -/
theorem list_of {w : World} {o : Oid} {s : OS} (h : Good w o s) : ∃ l, Wl o s l ∧ l.length ≤ 1000000 := by
  obtain ⟨a, b⟩ := sort_lst (A := s.A) h.hv
  refine ⟨_, a, ?_⟩
  rw [List.length_map, b, h.len]
  have := h.ord.hhl
  have := h.ord.hn
  omega
set_option maxRecDepth 100000 in
set_option maxHeartbeats 8000000 in
theorem step_decay (w : World) (sec up : Bool) (v tm : Int) (o : Oid) (s : OS) (q : Rid) (t : RS) (B : Both w o s q t) : Calls Try.prog 37 #[(POp.mk 2 sec v up tm).val, optr o, rptr q] w (StepTo w o q) := by
  have A0 : (w.alloc (.cells #[.int .i64 2, .bool sec, .int .i64 v, .bool up, .int .i64 tm] 45)).heap[w.heap.size]? = some (.cells #[.int .i64 2, .bool sec, .int .i64 v, .bool up, .int .i64 tm] 45 (0, 0)) := heap_alloc_new w _
  have CA : Chg [] w (w.alloc (.cells #[.int .i64 2, .bool sec, .int .i64 v, .bool up, .int .i64 tm] 45)) := (Chg.refl _ w).alloc _
  have BA := B.keep CA (fun _ _ => by simp) (fun _ _ => by simp)
  have hlA := B.good.alen
  unfold POp.val
  simp only
  have P := decayP _ o s BA.good BA.fit
  have RR : Hid (∀ W, ROrd W q t → Calls Try.prog 41 #[rptr q] W _) := fun W h => decayR W o q BA.hn s t BA.fit hlA BA.rel h
  obtain ⟨d0, d1, d2, d3, d4⟩ := op_cells A0
  replace P := hide P
  replace BA := hide BA
  replace CA := hide CA
  clear hlA B A0
  go_enter Try.func37, Try.ntmps37
  go_wp2_with fail
  generalize hwa : w.alloc (.cells #[.int .i64 2, .bool sec, .int .i64 v, .bool up, .int .i64 tm] 45) = wa at *
  generalize w.heap.size = g at *
  refine P.out.mono ?_
  rintro e w1 ⟨rfl, ⟨s1, G1, F1, T1⟩, C1⟩
  have R1 := BA.out.ref C1
  have RQ0 := hide (RR.out w1 R1)
  have FIN : Hid (∀ w2 t2, ROrd w2 q t2 → Chg (rblks q) w1 w2 → Rel o.n s1 t2 → (∃ s' t', Both w2 o s' q t') ∧ Chg (blks o ++ rblks q) w w2) := fun w2 t2 r2 c2 rl => ⟨⟨s1, t2, BA.out.next G1 F1 r2 c2 rl⟩, ((chg_nil CA.out).trans (chg_left C1)).trans (chg_right c2)⟩
  replace T1 := hide T1
  clear P RR C1 CA BA hwa R1 G1
  go_wp2_with fail
  refine RQ0.out.mono ?_
  rintro e w2 ⟨rfl, ⟨t2, R2, L2⟩, C2⟩
  replace R2 := hide R2
  replace L2 := hide L2
  replace C2 := hide C2
  go_wp2
  go_ret
  exact ⟨rfl, FIN.out _ t2 R2.out C2.out (L2.out _ T1.out)⟩
set_option maxRecDepth 100000 in
set_option maxHeartbeats 8000000 in
theorem step_take (w : World) (sec up : Bool) (v tm : Int) (o : Oid) (s : OS) (q : Rid) (t : RS) (B : Both w o s q t) : Calls Try.prog 37 #[(POp.mk 6 sec v up tm).val, optr o, rptr q] w (StepTo w o q) := by
  have A0 : (w.alloc (.cells #[.int .i64 6, .bool sec, .int .i64 v, .bool up, .int .i64 tm] 45)).heap[w.heap.size]? = some (.cells #[.int .i64 6, .bool sec, .int .i64 v, .bool up, .int .i64 tm] 45 (0, 0)) := heap_alloc_new w _
  have CA : Chg [] w (w.alloc (.cells #[.int .i64 6, .bool sec, .int .i64 v, .bool up, .int .i64 tm] 45)) := (Chg.refl _ w).alloc _
  have BA := B.keep CA (fun _ _ => by simp) (fun _ _ => by simp)
  unfold POp.val
  simp only
  obtain ⟨l, hl, _⟩ := list_of BA.good
  have P := takeP _ o s BA.good BA.fit l hl
  have RR : Hid (∀ W, ROrd W q t → Calls Try.prog 44 #[rptr q] W _) := fun W h => takeR W o q BA.hn s t BA.rel h l hl
  obtain ⟨d0, d1, d2, d3, d4⟩ := op_cells A0
  generalize l.headD 0 = x at *
  replace P := hide P
  replace BA := hide BA
  replace CA := hide CA
  clear B A0 hl
  go_enter Try.func37, Try.ntmps37
  go_wp2_with fail
  generalize hwa : w.alloc (.cells #[.int .i64 6, .bool sec, .int .i64 v, .bool up, .int .i64 tm] 45) = wa at *
  generalize w.heap.size = g at *
  refine P.out.mono ?_
  rintro e w1 ⟨rfl, ⟨s1, G1, F1, T1⟩, C1⟩
  have R1 := BA.out.ref C1
  have RQ0 := hide (RR.out w1 R1)
  have FIN : Hid (∀ w2 t2, ROrd w2 q t2 → Chg (rblks q) w1 w2 → Rel o.n s1 t2 → (∃ s' t', Both w2 o s' q t') ∧ Chg (blks o ++ rblks q) w w2) := fun w2 t2 r2 c2 rl => ⟨⟨s1, t2, BA.out.next G1 F1 r2 c2 rl⟩, ((chg_nil CA.out).trans (chg_left C1)).trans (chg_right c2)⟩
  replace T1 := hide T1
  clear P RR C1 CA BA hwa R1 G1
  go_wp2_with fail
  refine RQ0.out.mono ?_
  rintro e w2 ⟨rfl, ⟨t2, R2, L2⟩, C2⟩
  replace R2 := hide R2
  replace L2 := hide L2
  replace C2 := hide C2
  go_wp2
  go_ret
  exact ⟨ret_true10 (by simp), FIN.out _ t2 R2.out C2.out (L2.out _ T1.out)⟩
set_option maxRecDepth 100000 in
set_option maxHeartbeats 8000000 in
theorem step_rise (w : World) (sec up : Bool) (v tm : Int) (o : Oid) (s : OS) (q : Rid) (t : RS) (B : Both w o s q t) : Calls Try.prog 37 #[(POp.mk 4 sec v up tm).val, optr o, rptr q] w (StepTo w o q) := by
  have A0 : (w.alloc (.cells #[.int .i64 4, .bool sec, .int .i64 v, .bool up, .int .i64 tm] 45)).heap[w.heap.size]? = some (.cells #[.int .i64 4, .bool sec, .int .i64 v, .bool up, .int .i64 tm] 45 (0, 0)) := heap_alloc_new w _
  have CA : Chg [] w (w.alloc (.cells #[.int .i64 4, .bool sec, .int .i64 v, .bool up, .int .i64 tm] 45)) := (Chg.refl _ w).alloc _
  have BA := B.keep CA (fun _ _ => by simp) (fun _ _ => by simp)
  unfold POp.val
  simp only
  have P := rise_calls _ o s BA.good.ord
  have c1 := BA.rord.c1
  rw [BA.rel.rise] at c1
  have hr : s.r ≤ 1621981420 := BA.fit.rise
  obtain ⟨d0, d1, d2, d3, d4⟩ := op_cells A0
  generalize s.r = x at *
  have FIN := hide (show (∃ s' t', Both (w.alloc (.cells #[.int .i64 4, .bool sec, .int .i64 v, .bool up, .int .i64 tm] 45)) o s' q t') ∧ Chg (blks o ++ rblks q) w (w.alloc (.cells #[.int .i64 4, .bool sec, .int .i64 v, .bool up, .int .i64 tm] 45)) from ⟨⟨s, t, BA⟩, chg_nil CA⟩)
  replace P := hide P
  clear B A0 CA BA
  go_enter Try.func37, Try.ntmps37
  go_wp2_with fail
  generalize hwa : w.alloc (.cells #[.int .i64 4, .bool sec, .int .i64 v, .bool up, .int .i64 tm] 45) = wa at *
  generalize w.heap.size = g at *
  clear hwa
  refine P.out.mono ?_
  rintro e w1 ⟨rfl, hw1⟩
  have hw1 := hw1.symm
  subst hw1
  go_wp2
  go_ret
  exact ⟨ret_true10 (by simp), FIN.out⟩
set_option maxRecDepth 100000 in
set_option maxHeartbeats 8000000 in
theorem step_waiting (w : World) (sec up : Bool) (v tm : Int) (o : Oid) (s : OS) (q : Rid) (t : RS) (B : Both w o s q t) : Calls Try.prog 37 #[(POp.mk 8 sec v up tm).val, optr o, rptr q] w (StepTo w o q) := by
  have A0 : (w.alloc (.cells #[.int .i64 8, .bool sec, .int .i64 v, .bool up, .int .i64 tm] 45)).heap[w.heap.size]? = some (.cells #[.int .i64 8, .bool sec, .int .i64 v, .bool up, .int .i64 tm] 45 (0, 0)) := heap_alloc_new w _
  have CA : Chg [] w (w.alloc (.cells #[.int .i64 8, .bool sec, .int .i64 v, .bool up, .int .i64 tm] 45)) := (Chg.refl _ w).alloc _
  have BA := B.keep CA (fun _ _ => by simp) (fun _ _ => by simp)
  unfold POp.val
  simp only
  obtain ⟨l, hl, hll⟩ := list_of BA.good
  have P := waiting_calls _ o s BA.good
  obtain ⟨d0, d1, d2, d3, d4⟩ := op_cells A0
  replace P := hide P
  replace BA := hide BA
  replace CA := hide CA
  replace hl := hide hl
  clear B A0
  go_enter Try.func37, Try.ntmps37
  go_wp2_with fail
  generalize hwa : w.alloc (.cells #[.int .i64 8, .bool sec, .int .i64 v, .bool up, .int .i64 tm] 45) = wa at *
  generalize w.heap.size = g at *
  refine P.out.mono ?_
  rintro e w1 ⟨v1, l1, rfl, h1, e1, OW, B1⟩
  obtain rfl := hl.out.uniq h1
  have C1 : Chg [] wa w1 := Chg.of_below B1
  have BB := BA.out.keep C1 (fun _ _ => by simp) (fun _ _ => by simp)
  have WR := hide (rwaiting_calls w1 q t BB.rord l (BB.rel.lst BB.hn h1) hll)
  have C2 := hide ((chg_nil (S := blks o ++ rblks q) CA.out).trans (chg_nil C1))
  replace BB := hide BB
  replace OW := hide OW
  clear P B1 hl h1 e1 BA CA C1 hwa
  go_wp2_with fail
  refine WR.out.mono ?_
  rintro e w2 ⟨v2, rfl, OW2, B2⟩
  have C3 : Chg [] w1 w2 := Chg.of_below B2
  have B3 := BB.out.keep C3 (fun _ _ => by simp) (fun _ _ => by simp)
  have I1 : IRow w2 v1 l := by
    refine owns_irow (owns_same OW.out (fun g hg => ?_))
    exact B2.block g (OW.out.lt g hg).2
  have SM := hide (sameInts_calls w2 v1 v2 l I1 (owns_irow OW2) hll)
  have FIN : Hid (∀ m, (∃ s' t', Both (w2.drewN m) o s' q t') ∧ Chg (blks o ++ rblks q) w (w2.drewN m)) := fun m => ⟨⟨s, t, B3.drewN m⟩, (C2.out.trans (chg_nil C3)).drewN m⟩
  clear WR OW OW2 B2 C3 B3 I1 BB
  go_wp2_with fail
  refine SM.out.mono ?_
  rintro e w3 ⟨rfl, m, rfl⟩
  go_wp2
  go_ret
  exact ⟨rfl, FIN.out m⟩
set_option maxRecDepth 100000 in
set_option maxHeartbeats 8000000 in
theorem step_other (w : World) (k : Int) (hk : k < 1 ∨ 10 < k) (sec up : Bool) (v tm : Int) (o : Oid) (s : OS) (q : Rid) (t : RS) (B : Both w o s q t) : Calls Try.prog 37 #[(POp.mk k sec v up tm).val, optr o, rptr q] w (StepTo w o q) := by
  have A0 : (w.alloc (.cells #[.int .i64 k, .bool sec, .int .i64 v, .bool up, .int .i64 tm] 45)).heap[w.heap.size]? = some (.cells #[.int .i64 k, .bool sec, .int .i64 v, .bool up, .int .i64 tm] 45 (0, 0)) := heap_alloc_new w _
  have CA : Chg [] w (w.alloc (.cells #[.int .i64 k, .bool sec, .int .i64 v, .bool up, .int .i64 tm] 45)) := (Chg.refl _ w).alloc _
  have BA := B.keep CA (fun _ _ => by simp) (fun _ _ => by simp)
  unfold POp.val
  simp only
  obtain ⟨d0, d1, d2, d3, d4⟩ := op_cells A0
  have FIN := hide (show (∃ s' t', Both (w.alloc (.cells #[.int .i64 k, .bool sec, .int .i64 v, .bool up, .int .i64 tm] 45)) o s' q t') ∧ Chg (blks o ++ rblks q) w (w.alloc (.cells #[.int .i64 k, .bool sec, .int .i64 v, .bool up, .int .i64 tm] 45)) from ⟨⟨s, t, BA⟩, chg_nil CA⟩)
  have k1 : (k == 1) = false := by rw [beq_eq_false_iff_ne]; omega
  have k2 : (k == 2) = false := by rw [beq_eq_false_iff_ne]; omega
  have k3 : (k == 3) = false := by rw [beq_eq_false_iff_ne]; omega
  have k4 : (k == 4) = false := by rw [beq_eq_false_iff_ne]; omega
  have k5 : (k == 5) = false := by rw [beq_eq_false_iff_ne]; omega
  have k6 : (k == 6) = false := by rw [beq_eq_false_iff_ne]; omega
  have k7 : (k == 7) = false := by rw [beq_eq_false_iff_ne]; omega
  have k8 : (k == 8) = false := by rw [beq_eq_false_iff_ne]; omega
  have k9 : (k == 9) = false := by rw [beq_eq_false_iff_ne]; omega
  have k10 : (k == 10) = false := by rw [beq_eq_false_iff_ne]; omega
  clear B A0 CA BA hk
  go_enter Try.func37, Try.ntmps37
  go_wp2
  go_ret
  exact ⟨rfl, FIN.out⟩
theorem step_calls (w : World) (x : POp) (o : Oid) (s : OS) (q : Rid) (t : RS) (B : Both w o s q t) : Calls Try.prog 37 #[x.val, optr o, rptr q] w (StepTo w o q) := by
  obtain ⟨k, sec, v, up, tm⟩ := x
  by_cases hk : k < 1 ∨ 10 < k
  · exact step_other w k hk sec up v tm o s q t B
  · have : k = 1 ∨ k = 2 ∨ k = 3 ∨ k = 4 ∨ k = 5 ∨ k = 6 ∨ k = 7 ∨ k = 8 ∨ k = 9 ∨ k = 10 := by omega
    rcases this with rfl | rfl | rfl | rfl | rfl | rfl | rfl | rfl | rfl | rfl
    · exact step_bump w sec up v tm o s q t B
    · exact step_decay w sec up v tm o s q t B
    · exact step_score w sec up v tm o s q t B
    · exact step_rise w sec up v tm o s q t B
    · exact step_put w sec up v tm o s q t B
    · exact step_take w sec up v tm o s q t B
    · exact step_has w sec up v tm o s q t B
    · exact step_waiting w sec up v tm o s q t B
    · exact step_save w sec up v tm o s q t B
    · exact step_phase w sec up v tm o s q t B
end Go.Proofs.Ytigbclhkmjcjjaa
