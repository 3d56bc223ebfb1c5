/-
  The laws' step: both orders answer alike, and what holds between them holds again.
-/
import Derived.Test.YtigbclhkmjcjjaaRefSame
namespace Go.Proofs.Ytigbclhkmjcjjaa
open Go.RowKit
set_option linter.unusedVariables false
theorem no_calls13 (w : World) (x : Int) : Calls Try.prog 12 #[.int .i64 x] w fun e w' => e = .returned (.int .i64 x) ∧ w' = w := no_calls10 w x
def StepTo (w : World) (o : Oid) (q : Rid) (e : Ending) (w' : World) : Prop := e = .returned (.bool true) ∧ (∃ s' t', Both w' o s' q t') ∧ Chg (blks o ++ rblks q) w w'
theorem ret_true10 {b : Bool} (h : b = true) : Ending.returned (.bool b) = .returned (.bool true) := by rw [h]
theorem chg_nil {S : List Nat} {w w' : World} (c : Chg [] w w') : Chg S w w' := c.mono (fun b hb => by simp at hb)
set_option maxRecDepth 100000 in
set_option maxHeartbeats 8000000 in
theorem step_bump (w : World) (sec up : Bool) (v tm : Int) (o : Oid) (s : OS) (q : Rid) (t : RS) (B : Both w o s q t) : Calls Try.prog 37 #[(POp.mk 1 sec v up tm).val, optr o, rptr q] w (StepTo w o q) := by
  have A0 : (w.alloc (.cells #[.int .i64 1, .bool sec, .int .i64 v, .bool up, .int .i64 tm] 45)).heap[w.heap.size]? = some (.cells #[.int .i64 1, .bool sec, .int .i64 v, .bool up, .int .i64 tm] 45 (0, 0)) := heap_alloc_new w _
  have CA : Chg [] w (w.alloc (.cells #[.int .i64 1, .bool sec, .int .i64 v, .bool up, .int .i64 tm] 45)) := (Chg.refl _ w).alloc _
  have BA := B.keep CA (fun _ _ => by simp) (fun _ _ => by simp)
  have hlA := B.good.alen
  unfold POp.val
  simp only
  have P := bumpP _ o s BA.good BA.fit v
  have RR : Hid (∀ W, ROrd W q t → Calls Try.prog 40 #[rptr q, .int .i64 v] W _) := fun W h => bumpR W o q BA.hn s t BA.fit hlA BA.rel h v
  obtain ⟨c, hc⟩ : ∃ c, errOf o.n v = c := ⟨_, rfl⟩
  rw [hc] at P RR
  obtain ⟨d0, d1, d2, d3, d4⟩ := op_cells A0
  replace P := hide P
  replace BA := hide BA
  replace A0 := hide A0
  replace CA := hide CA
  clear hc hlA B
  go_enter Try.func37, Try.ntmps37
  go_wp2_with fail
  generalize hwa : w.alloc (.cells #[.int .i64 1, .bool sec, .int .i64 v, .bool up, .int .i64 tm] 45) = wa at *
  generalize w.heap.size = g at *
  refine P.out.mono ?_
  rintro e w1 ⟨rfl, ⟨s1, G1, F1, T1⟩, C1⟩
  have R1 := BA.out.ref C1
  have ng := BA.out.good.ord.notin A0.out
  have A1 := C1.keep A0.out ng
  obtain ⟨d0, d1, d2, d3, d4⟩ := op_cells A1
  have RQ0 := hide (RR.out w1 R1)
  have RQ1 := hide (RR.out w1.drew R1)
  have FIN : Hid (∀ w2 t2, ROrd w2 q t2 → Chg (rblks q) w1 w2 → Rel o.n s1 t2 → (∃ s' t', Both w2 o s' q t') ∧ Chg (blks o ++ rblks q) w w2) := fun w2 t2 r2 c2 rl => ⟨⟨s1, t2, BA.out.next G1 F1 r2 c2 rl⟩, ((chg_nil CA.out).trans (chg_left C1)).trans (chg_right c2)⟩
  replace T1 := hide T1
  replace G1 := hide G1
  replace R1 := hide R1
  clear P RR C1 ng A1 A0 CA BA hwa
  go_wp2_with fail
  go_region_with (first
    | (go_at_call 12; refine (no_calls13 _ _).mono ?_; rintro e wz ⟨rfl, rfl⟩)
    | (go_at_call 40; refine RQ0.out.mono ?_; rintro e w2 ⟨rfl, ⟨t2, R2, L2⟩, C2⟩; replace R2 := hide R2; replace L2 := hide L2; replace C2 := hide C2)
    | (go_at_call 40; refine RQ1.out.mono ?_; rintro e w2 ⟨rfl, ⟨t2, R2, L2⟩, C2⟩; replace R2 := hide R2; replace L2 := hide L2; replace C2 := hide C2))
  all_goals
    go_wp2
    go_ret
    refine ⟨ret_true10 (by simp), ?_⟩
    first
      | exact FIN.out _ t2 R2.out C2.out (L2.out _ T1.out)
      | exact FIN.out _ t2 R2.out ((Chg.refl _ w1).drew.trans C2.out) (L2.out _ T1.out)
      | exact FIN.out _ t2 (R2.out.drewN 1) C2.out.drew (L2.out _ T1.out)
set_option maxRecDepth 100000 in
set_option maxHeartbeats 8000000 in
theorem step_put (w : World) (sec up : Bool) (v tm : Int) (o : Oid) (s : OS) (q : Rid) (t : RS) (B : Both w o s q t) : Calls Try.prog 37 #[(POp.mk 5 sec v up tm).val, optr o, rptr q] w (StepTo w o q) := by
  have A0 : (w.alloc (.cells #[.int .i64 5, .bool sec, .int .i64 v, .bool up, .int .i64 tm] 45)).heap[w.heap.size]? = some (.cells #[.int .i64 5, .bool sec, .int .i64 v, .bool up, .int .i64 tm] 45 (0, 0)) := heap_alloc_new w _
  have CA : Chg [] w (w.alloc (.cells #[.int .i64 5, .bool sec, .int .i64 v, .bool up, .int .i64 tm] 45)) := (Chg.refl _ w).alloc _
  have BA := B.keep CA (fun _ _ => by simp) (fun _ _ => by simp)
  have hlA := B.good.alen
  unfold POp.val
  simp only
  have P := putP _ o s BA.good BA.fit v
  have RR : Hid (∀ W, ROrd W q t → Calls Try.prog 43 #[rptr q, .int .i64 v] W _) := fun W h => putR W o q BA.hn s t BA.rel h v
  obtain ⟨c, hc⟩ : ∃ c, errOf o.n v = c := ⟨_, rfl⟩
  rw [hc] at P RR
  obtain ⟨d0, d1, d2, d3, d4⟩ := op_cells A0
  replace P := hide P
  replace BA := hide BA
  replace A0 := hide A0
  replace CA := hide CA
  clear hc hlA B
  go_enter Try.func37, Try.ntmps37
  go_wp2_with fail
  generalize hwa : w.alloc (.cells #[.int .i64 5, .bool sec, .int .i64 v, .bool up, .int .i64 tm] 45) = wa at *
  generalize w.heap.size = g at *
  refine P.out.mono ?_
  rintro e w1 ⟨rfl, ⟨s1, G1, F1, T1⟩, C1⟩
  have R1 := BA.out.ref C1
  have ng := BA.out.good.ord.notin A0.out
  have A1 := C1.keep A0.out ng
  obtain ⟨d0, d1, d2, d3, d4⟩ := op_cells A1
  have RQ0 := hide (RR.out w1 R1)
  have RQ1 := hide (RR.out w1.drew R1)
  have FIN : Hid (∀ w2 t2, ROrd w2 q t2 → Chg (rblks q) w1 w2 → Rel o.n s1 t2 → (∃ s' t', Both w2 o s' q t') ∧ Chg (blks o ++ rblks q) w w2) := fun w2 t2 r2 c2 rl => ⟨⟨s1, t2, BA.out.next G1 F1 r2 c2 rl⟩, ((chg_nil CA.out).trans (chg_left C1)).trans (chg_right c2)⟩
  replace T1 := hide T1
  replace G1 := hide G1
  replace R1 := hide R1
  clear P RR C1 ng A1 A0 CA BA hwa
  go_wp2_with fail
  go_region_with (first
    | (go_at_call 12; refine (no_calls13 _ _).mono ?_; rintro e wz ⟨rfl, rfl⟩)
    | (go_at_call 43; refine RQ0.out.mono ?_; rintro e w2 ⟨rfl, ⟨t2, R2, L2⟩, C2⟩; replace R2 := hide R2; replace L2 := hide L2; replace C2 := hide C2)
    | (go_at_call 43; refine RQ1.out.mono ?_; rintro e w2 ⟨rfl, ⟨t2, R2, L2⟩, C2⟩; replace R2 := hide R2; replace L2 := hide L2; replace C2 := hide C2))
  all_goals
    go_wp2
    go_ret
    refine ⟨ret_true10 (by simp), ?_⟩
    first
      | exact FIN.out _ t2 R2.out C2.out (L2.out _ T1.out)
      | exact FIN.out _ t2 R2.out ((Chg.refl _ w1).drew.trans C2.out) (L2.out _ T1.out)
      | exact FIN.out _ t2 (R2.out.drewN 1) C2.out.drew (L2.out _ T1.out)
set_option maxRecDepth 100000 in
set_option maxHeartbeats 8000000 in
theorem step_save (w : World) (sec up : Bool) (v tm : Int) (o : Oid) (s : OS) (q : Rid) (t : RS) (B : Both w o s q t) : Calls Try.prog 37 #[(POp.mk 9 sec v up tm).val, optr o, rptr q] w (StepTo w o q) := by
  have A0 : (w.alloc (.cells #[.int .i64 9, .bool sec, .int .i64 v, .bool up, .int .i64 tm] 45)).heap[w.heap.size]? = some (.cells #[.int .i64 9, .bool sec, .int .i64 v, .bool up, .int .i64 tm] 45 (0, 0)) := heap_alloc_new w _
  have CA : Chg [] w (w.alloc (.cells #[.int .i64 9, .bool sec, .int .i64 v, .bool up, .int .i64 tm] 45)) := (Chg.refl _ w).alloc _
  have BA := B.keep CA (fun _ _ => by simp) (fun _ _ => by simp)
  have hlA := B.good.alen
  unfold POp.val
  simp only
  have P := saveP _ o s BA.good BA.fit v up
  have RR : Hid (∀ W, ROrd W q t → Calls Try.prog 47 #[rptr q, .int .i64 v, .bool up] W _) := fun W h => saveR W o q BA.hn s t BA.rel h v up
  obtain ⟨c, hc⟩ : ∃ c, errOf o.n v = c := ⟨_, rfl⟩
  rw [hc] at P RR
  obtain ⟨d0, d1, d2, d3, d4⟩ := op_cells A0
  replace P := hide P
  replace BA := hide BA
  replace A0 := hide A0
  replace CA := hide CA
  clear hc hlA B
  go_enter Try.func37, Try.ntmps37
  go_wp2_with fail
  generalize hwa : w.alloc (.cells #[.int .i64 9, .bool sec, .int .i64 v, .bool up, .int .i64 tm] 45) = wa at *
  generalize w.heap.size = g at *
  refine P.out.mono ?_
  rintro e w1 ⟨rfl, ⟨s1, G1, F1, T1⟩, C1⟩
  have R1 := BA.out.ref C1
  have ng := BA.out.good.ord.notin A0.out
  have A1 := C1.keep A0.out ng
  obtain ⟨d0, d1, d2, d3, d4⟩ := op_cells A1
  have RQ0 := hide (RR.out w1 R1)
  have RQ1 := hide (RR.out w1.drew R1)
  have FIN : Hid (∀ w2 t2, ROrd w2 q t2 → Chg (rblks q) w1 w2 → Rel o.n s1 t2 → (∃ s' t', Both w2 o s' q t') ∧ Chg (blks o ++ rblks q) w w2) := fun w2 t2 r2 c2 rl => ⟨⟨s1, t2, BA.out.next G1 F1 r2 c2 rl⟩, ((chg_nil CA.out).trans (chg_left C1)).trans (chg_right c2)⟩
  replace T1 := hide T1
  replace G1 := hide G1
  replace R1 := hide R1
  clear P RR C1 ng A1 A0 CA BA hwa
  go_wp2_with fail
  go_region_with (first
    | (go_at_call 12; refine (no_calls13 _ _).mono ?_; rintro e wz ⟨rfl, rfl⟩)
    | (go_at_call 47; refine RQ0.out.mono ?_; rintro e w2 ⟨rfl, ⟨t2, R2, L2⟩, C2⟩; replace R2 := hide R2; replace L2 := hide L2; replace C2 := hide C2)
    | (go_at_call 47; refine RQ1.out.mono ?_; rintro e w2 ⟨rfl, ⟨t2, R2, L2⟩, C2⟩; replace R2 := hide R2; replace L2 := hide L2; replace C2 := hide C2))
  all_goals
    go_wp2
    go_ret
    refine ⟨ret_true10 (by simp), ?_⟩
    first
      | exact FIN.out _ t2 R2.out C2.out (L2.out _ T1.out)
      | exact FIN.out _ t2 R2.out ((Chg.refl _ w1).drew.trans C2.out) (L2.out _ T1.out)
      | exact FIN.out _ t2 (R2.out.drewN 1) C2.out.drew (L2.out _ T1.out)
set_option maxRecDepth 100000 in
set_option maxHeartbeats 8000000 in
theorem step_score (w : World) (sec up : Bool) (v tm : Int) (o : Oid) (s : OS) (q : Rid) (t : RS) (B : Both w o s q t) : Calls Try.prog 37 #[(POp.mk 3 sec v up tm).val, optr o, rptr q] w (StepTo w o q) := by
  have A0 : (w.alloc (.cells #[.int .i64 3, .bool sec, .int .i64 v, .bool up, .int .i64 tm] 45)).heap[w.heap.size]? = some (.cells #[.int .i64 3, .bool sec, .int .i64 v, .bool up, .int .i64 tm] 45 (0, 0)) := heap_alloc_new w _
  have CA : Chg [] w (w.alloc (.cells #[.int .i64 3, .bool sec, .int .i64 v, .bool up, .int .i64 tm] 45)) := (Chg.refl _ w).alloc _
  have BA := B.keep CA (fun _ _ => by simp) (fun _ _ => by simp)
  have hlA := B.good.alen
  unfold POp.val
  simp only
  have P := scoreP _ o s BA.good v
  have RR := fun m => scoreR ((w.alloc (.cells #[.int .i64 3, .bool sec, .int .i64 v, .bool up, .int .i64 tm] 45)).drewN m) o q BA.hn s t BA.rel (BA.rord.drewN m) v
  have hb : scoreOf o.n s v ≤ 1621981420 := by
    unfold scoreOf
    split
    · omega
    · exact BA.fit.act _
  obtain ⟨c, hc⟩ : ∃ c, errOf o.n v = c := ⟨_, rfl⟩
  obtain ⟨x, hx⟩ : ∃ x, scoreOf o.n s v = x := ⟨_, rfl⟩
  rw [hc, hx] at P
  have RQ := RR 0
  rw [hc, hx] at RQ
  rw [hx] at hb
  obtain ⟨d0, d1, d2, d3, d4⟩ := op_cells A0
  replace P := hide P
  replace RQ := hide (show Calls Try.prog 42 #[rptr q, .int .i64 v] (w.alloc (.cells #[.int .i64 3, .bool sec, .int .i64 v, .bool up, .int .i64 tm] 45)) _ from RQ)
  have FIN : Hid (∀ m, (∃ s' t', Both ((w.alloc (.cells #[.int .i64 3, .bool sec, .int .i64 v, .bool up, .int .i64 tm] 45)).drewN m) o s' q t') ∧ Chg (blks o ++ rblks q) w ((w.alloc (.cells #[.int .i64 3, .bool sec, .int .i64 v, .bool up, .int .i64 tm] 45)).drewN m)) := fun m => ⟨⟨s, t, BA.drewN m⟩, (chg_nil CA).drewN m⟩
  clear hc hx hlA B RR BA CA A0
  go_enter Try.func37, Try.ntmps37
  go_wp2_with fail
  generalize hwa : w.alloc (.cells #[.int .i64 3, .bool sec, .int .i64 v, .bool up, .int .i64 tm] 45) = wa at *
  generalize w.heap.size = g at *
  clear hwa
  refine P.out.mono ?_
  rintro e w1 ⟨rfl, hw1⟩
  have hw1 := hw1.symm
  subst hw1
  go_wp2_with fail
  refine RQ.out.mono ?_
  rintro e w2 ⟨rfl, m, rfl⟩
  go_wp2_with (go_at_call 12; refine (no_calls13 _ _).mono ?_; rintro e wz ⟨rfl, rfl⟩)
  go_ret
  exact ⟨ret_true10 (by simp), FIN.out m⟩
set_option maxRecDepth 100000 in
set_option maxHeartbeats 8000000 in
theorem step_has (w : World) (sec up : Bool) (v tm : Int) (o : Oid) (s : OS) (q : Rid) (t : RS) (B : Both w o s q t) : Calls Try.prog 37 #[(POp.mk 7 sec v up tm).val, optr o, rptr q] w (StepTo w o q) := by
  have A0 : (w.alloc (.cells #[.int .i64 7, .bool sec, .int .i64 v, .bool up, .int .i64 tm] 45)).heap[w.heap.size]? = some (.cells #[.int .i64 7, .bool sec, .int .i64 v, .bool up, .int .i64 tm] 45 (0, 0)) := heap_alloc_new w _
  have CA : Chg [] w (w.alloc (.cells #[.int .i64 7, .bool sec, .int .i64 v, .bool up, .int .i64 tm] 45)) := (Chg.refl _ w).alloc _
  have BA := B.keep CA (fun _ _ => by simp) (fun _ _ => by simp)
  have hlA := B.good.alen
  unfold POp.val
  simp only
  have P := hasP _ o s BA.good v
  have RR := fun m => hasR ((w.alloc (.cells #[.int .i64 7, .bool sec, .int .i64 v, .bool up, .int .i64 tm] 45)).drewN m) o q BA.hn s t BA.rel (BA.rord.drewN m) v
  obtain ⟨c, hc⟩ : ∃ c, errOf o.n v = c := ⟨_, rfl⟩
  obtain ⟨x, hx⟩ : ∃ x, hasOf o.n s v = x := ⟨_, rfl⟩
  rw [hc, hx] at P
  have RQ := RR 0
  rw [hc, hx] at RQ
  obtain ⟨d0, d1, d2, d3, d4⟩ := op_cells A0
  replace P := hide P
  replace RQ := hide (show Calls Try.prog 45 #[rptr q, .int .i64 v] (w.alloc (.cells #[.int .i64 7, .bool sec, .int .i64 v, .bool up, .int .i64 tm] 45)) _ from RQ)
  have FIN : Hid (∀ m, (∃ s' t', Both ((w.alloc (.cells #[.int .i64 7, .bool sec, .int .i64 v, .bool up, .int .i64 tm] 45)).drewN m) o s' q t') ∧ Chg (blks o ++ rblks q) w ((w.alloc (.cells #[.int .i64 7, .bool sec, .int .i64 v, .bool up, .int .i64 tm] 45)).drewN m)) := fun m => ⟨⟨s, t, BA.drewN m⟩, (chg_nil CA).drewN m⟩
  clear hc hx hlA B RR BA CA A0
  go_enter Try.func37, Try.ntmps37
  go_wp2_with fail
  generalize hwa : w.alloc (.cells #[.int .i64 7, .bool sec, .int .i64 v, .bool up, .int .i64 tm] 45) = wa at *
  generalize w.heap.size = g at *
  clear hwa
  refine P.out.mono ?_
  rintro e w1 ⟨rfl, hw1⟩
  have hw1 := hw1.symm
  subst hw1
  go_wp2_with fail
  refine RQ.out.mono ?_
  rintro e w2 ⟨rfl, m, rfl⟩
  go_wp2_with (go_at_call 12; refine (no_calls13 _ _).mono ?_; rintro e wz ⟨rfl, rfl⟩)
  go_ret
  exact ⟨ret_true10 (by simp), FIN.out m⟩
set_option maxRecDepth 100000 in
set_option maxHeartbeats 8000000 in
theorem step_phase (w : World) (sec up : Bool) (v tm : Int) (o : Oid) (s : OS) (q : Rid) (t : RS) (B : Both w o s q t) : Calls Try.prog 37 #[(POp.mk 10 sec v up tm).val, optr o, rptr q] w (StepTo w o q) := by
  have A0 : (w.alloc (.cells #[.int .i64 10, .bool sec, .int .i64 v, .bool up, .int .i64 tm] 45)).heap[w.heap.size]? = some (.cells #[.int .i64 10, .bool sec, .int .i64 v, .bool up, .int .i64 tm] 45 (0, 0)) := heap_alloc_new w _
  have CA : Chg [] w (w.alloc (.cells #[.int .i64 10, .bool sec, .int .i64 v, .bool up, .int .i64 tm] 45)) := (Chg.refl _ w).alloc _
  have BA := B.keep CA (fun _ _ => by simp) (fun _ _ => by simp)
  have hlA := B.good.alen
  unfold POp.val
  simp only
  have P := phaseP _ o s BA.good v
  have RR := fun m => phaseR ((w.alloc (.cells #[.int .i64 10, .bool sec, .int .i64 v, .bool up, .int .i64 tm] 45)).drewN m) o q BA.hn s t BA.rel (BA.rord.drewN m) v
  obtain ⟨c, hc⟩ : ∃ c, errOf o.n v = c := ⟨_, rfl⟩
  obtain ⟨x, hx⟩ : ∃ x, phaseOf o.n s v = x := ⟨_, rfl⟩
  rw [hc, hx] at P
  have RQ := RR 0
  rw [hc, hx] at RQ
  obtain ⟨d0, d1, d2, d3, d4⟩ := op_cells A0
  replace P := hide P
  replace RQ := hide (show Calls Try.prog 49 #[rptr q, .int .i64 v] (w.alloc (.cells #[.int .i64 10, .bool sec, .int .i64 v, .bool up, .int .i64 tm] 45)) _ from RQ)
  have FIN : Hid (∀ m, (∃ s' t', Both ((w.alloc (.cells #[.int .i64 10, .bool sec, .int .i64 v, .bool up, .int .i64 tm] 45)).drewN m) o s' q t') ∧ Chg (blks o ++ rblks q) w ((w.alloc (.cells #[.int .i64 10, .bool sec, .int .i64 v, .bool up, .int .i64 tm] 45)).drewN m)) := fun m => ⟨⟨s, t, BA.drewN m⟩, (chg_nil CA).drewN m⟩
  clear hc hx hlA B RR BA CA A0
  go_enter Try.func37, Try.ntmps37
  go_wp2_with fail
  generalize hwa : w.alloc (.cells #[.int .i64 10, .bool sec, .int .i64 v, .bool up, .int .i64 tm] 45) = wa at *
  generalize w.heap.size = g at *
  clear hwa
  refine P.out.mono ?_
  rintro e w1 ⟨rfl, hw1⟩
  have hw1 := hw1.symm
  subst hw1
  go_wp2_with fail
  refine RQ.out.mono ?_
  rintro e w2 ⟨rfl, m, rfl⟩
  go_wp2_with (go_at_call 12; refine (no_calls13 _ _).mono ?_; rintro e wz ⟨rfl, rfl⟩)
  go_ret
  exact ⟨ret_true10 (by simp), FIN.out m⟩
end Go.Proofs.Ytigbclhkmjcjjaa
