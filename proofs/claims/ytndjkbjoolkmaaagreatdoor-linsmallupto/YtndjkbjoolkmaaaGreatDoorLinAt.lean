/-
  Package lin: DCmp and At of numbers that are canonical; the law's own helpers.
-/
import Derived.Test.YtndjkbjoolkmaaaGreatDoorLinDel
namespace Go.Proofs.YtndjkbjoolkmaaaGreatDoor
open Go.RowKit
set_option linter.unusedVariables false
theorem okB_t (x : Rat) : okB (tB x) = true := tB_can x
theorem delAt_two (w : World) (a b c d : ByteArray) : DelAt (w.alloc (.cells #[.string a, .string b, .string c, .string d] 27)) w.heap.size [⟨a, b⟩, ⟨c, d⟩] := fun j hj => by
  have X := heap_alloc_new w (.cells #[.string a, .string b, .string c, .string d] 27)
  have hj : j < 2 := hj
  rcases (by omega : j = 0 ∨ j = 1) with rfl | rfl
  · exact ⟨by rw [cell_of_row _ _ _ _ _ (0, 0) X]; rfl, by rw [cell_of_row _ _ _ _ _ (0, 0) X]; rfl⟩
  · exact ⟨by rw [cell_of_row _ _ _ _ _ (0, 0) X]; rfl, by rw [cell_of_row _ _ _ _ _ (0, 0) X]; rfl⟩
theorem delAt_one (w : World) (a b : ByteArray) : DelAt (w.alloc (.cells #[.string a, .string b] 27)) w.heap.size [⟨a, b⟩] := fun j hj => by
  have X := heap_alloc_new w (.cells #[.string a, .string b] 27)
  have hj : j < 1 := hj
  obtain rfl : j = 0 := by omega
  exact ⟨by rw [cell_of_row _ _ _ _ _ (0, 0) X]; rfl, by rw [cell_of_row _ _ _ _ _ (0, 0) X]; rfl⟩
theorem strAt_one (w : World) (a : ByteArray) : StrAt (w.alloc (.cells #[.string a] 9)) w.heap.size [a] := fun j hj => by
  have X := heap_alloc_new w (.cells #[.string a] 9)
  have hj : j < 1 := hj
  obtain rfl : j = 0 := by omega
  rw [cell_of_row _ _ _ _ _ (0, 0) X]; rfl
/-- Two delta numbers handed over side by side. -/
theorem chkTwo (w : World) (a b c d : ByteArray) (z1 : a.size ≤ 1073741824) (z2 : b.size ≤ 1073741824) (z3 : c.size ≤ 1073741824) (z4 : d.size ≤ 1073741824) (env : LEnv w) :
    Calls Tryz.prog 10 #[.slice (some ⟨w.heap.size, 0, none⟩) 2 2] (w.alloc (.cells #[.string a, .string b, .string c, .string d] 27)) fun e w' => e = .returned (.int .i64 (if okB a && okB b && (okB c && okB d) then 0 else 1)) ∧ Below w.heap.size w w' := by
  have b := (Below.refl w.heap.size w).alloc (Nat.le_refl _) (.cells #[.string a, .string b, .string c, .string d] 27)
  refine (chkDel_calls _ w.heap.size 2 _ (delAt_two w a _ c d) (by simp) (fun x hx => ?_) (env.below b)).mono ?_
  · simp only [List.mem_cons, List.not_mem_nil, or_false] at hx
    rcases hx with rfl | rfl
    · exact ⟨z1, z2⟩
    · exact ⟨z3, z4⟩
  · rintro e w' ⟨rfl, q⟩
    refine ⟨?_, b.then_below q⟩
    simp [okD]
set_option maxRecDepth 100000 in
set_option maxHeartbeats 4000000 in
theorem dcmp_calls (w : World) (la lb ha hb : Rat) (z1 : Sz la) (z2 : Sz lb) (z3 : Sz ha) (z4 : Sz hb) (env : LEnv w) :
    Calls Tryz.prog 8 #[.agg #[.string (tB la), .string (tB lb)], .agg #[.string (tB ha), .string (tB hb)]] w fun e w' => e = .returned (.tuple #[.int .i64 (cmpD la lb ha hb), .int .i64 0]) ∧ Below w.heap.size w w' := by
  have bA := hide (((Below.refl _ w).alloc (Nat.le_refl _) (.cells #[.string (tB la), .string (tB lb)] 27)).alloc (by simp) (.cells #[.string (tB ha), .string (tB hb)] 27))
  have q0 := chkTwo _ (tB la) (tB lb) (tB ha) (tB hb) z1 z2 z3 z4 (env.below bA.out)
  rw [okB_t, okB_t, okB_t, okB_t, show (true && true && (true && true)) = true from rfl, if_pos rfl, World.size_alloc, World.size_alloc] at q0
  replace q0 := hide q0
  have q1 := hide (fun W (q : Below w.heap.size w W) => cmpDel_calls W la lb ha hb z1 z2 z3 z4 (env.below q))
  clear env
  generalize tB la = A at *
  generalize tB lb = B at *
  generalize tB ha = C at *
  generalize tB hb = D at *
  generalize cmpD la lb ha hb = R at *
  have X0 := hide (show ((w.alloc (.cells #[.string A, .string B] 27)).alloc (.cells #[.string C, .string D] 27)).heap[w.heap.size]? = some (.cells #[.string A, .string B] 27 (0, 0)) from (heap_alloc_old _ _ (by simp)).trans (heap_alloc_new _ _))
  have X1 := hide (show ((w.alloc (.cells #[.string A, .string B] 27)).alloc (.cells #[.string C, .string D] 27)).heap[w.heap.size + 1]? = some (.cells #[.string C, .string D] 27 (0, 0)) from by have := heap_alloc_new (w.alloc (.cells #[.string A, .string B] 27)) (.cells #[.string C, .string D] 27); simpa using this)
  go_enter Tryz.func8, Tryz.ntmps8
  go_wp2_with fail
  refine q0.out.mono ?_
  rintro e w1 ⟨rfl, b1⟩
  have Y0 := (b1.block _ (by omega)).trans X0.out
  have Y1 := (b1.block _ (by omega)).trans X1.out
  have y0 : w1.cell? ⟨w.heap.size, 0, none⟩ = some (.string A) := by rw [cell_of_row w1 _ _ _ _ (0, 0) Y0]; rfl
  have y1 : w1.cell? ⟨w.heap.size, 1, none⟩ = some (.string B) := by rw [cell_of_row w1 _ _ _ _ (0, 0) Y0]; rfl
  have y2 : w1.cell? ⟨w.heap.size + 1, 0, none⟩ = some (.string C) := by rw [cell_of_row w1 _ _ _ _ (0, 0) Y1]; rfl
  have y3 : w1.cell? ⟨w.heap.size + 1, 1, none⟩ = some (.string D) := by rw [cell_of_row w1 _ _ _ _ (0, 0) Y1]; rfl
  have B1 : Hid (Below w.heap.size w w1) := by
    have := b1
    exact bA.out.trans (b1.mono (by omega))
  clear Y0 Y1 X0 X1 b1 bA q0
  go_wp2_with fail
  refine (q1.out _ B1.out).mono ?_
  rintro e w2 ⟨rfl, b2⟩
  replace b2 := hide (B1.out.then_below b2)
  go_wp2
  refine bodyPost_ret (v := .tuple #[.int .i64 R, .int .i64 0]) (by simp [results, Tryz.results8, go_sem]) rfl ?_
  exact ⟨rfl, b2.out⟩
theorem fld_num (s : ByteArray) (W : World) : (Instr.field 39 (.agg #[.string s]) 0).run Tryz.prog W = .ok (.string s) W := by
  simp [Instr.field, run_underlying Tryz.underlying39, asAgg, go_sem]
theorem two_zero (w : World) : (w.alloc (.cells #[.int .i64 0, .int .i64 0] 23)).cell? ⟨w.heap.size, 0, none⟩ = some (.int .i64 0) ∧ (w.alloc (.cells #[.int .i64 0, .int .i64 0] 23)).cell? ⟨w.heap.size, 1, none⟩ = some (.int .i64 0) := two_cells w (.int .i64 0) (.int .i64 0) 23
set_option maxRecDepth 100000 in
set_option maxHeartbeats 4000000 in
theorem at_calls (w : World) (a b d : Rat) (z1 : Sz a) (z2 : Sz b) (z3 : Sz d) (z4 : Sz (b * d)) (env : LEnv w) :
    Calls Tryz.prog 9 #[.agg #[.string (tB a), .string (tB b)], .string (tB d)] w fun e w' => e = .returned (.tuple #[.string (tB (a + b * d)), .int .i64 0]) ∧ Below w.heap.size w w' := by
  have bA := hide ((Below.refl _ w).alloc (Nat.le_refl _) (.cells #[.string (tB a), .string (tB b)] 27))
  have q0 : Calls Tryz.prog 10 #[.slice (some ⟨w.heap.size + 1, 0, none⟩) 1 1] ((w.alloc (.cells #[.string (tB a), .string (tB b)] 27)).alloc (.cells #[.string (tB a), .string (tB b)] 27)) fun e w' => e = .returned (.int .i64 0) ∧ Below (w.heap.size + 1) (w.alloc (.cells #[.string (tB a), .string (tB b)] 27)) w' := by
    have bb := (Below.refl (w.alloc (.cells #[.string (tB a), .string (tB b)] 27)).heap.size (w.alloc (.cells #[.string (tB a), .string (tB b)] 27))).alloc (Nat.le_refl _) (.cells #[.string (tB a), .string (tB b)] 27)
    have h := chkDel_calls _ _ 1 _ (delAt_one (w.alloc (.cells #[.string (tB a), .string (tB b)] 27)) (tB a) (tB b)) (by simp) (fun x hx => by rw [List.mem_singleton] at hx; subst hx; exact ⟨z1, z2⟩) ((env.below bA.out).below bb)
    rw [show [(⟨tB a, tB b⟩ : Dl)].all okD = true by simp [okD, okB_t], if_pos rfl] at h
    have e : (w.alloc (.cells #[.string (tB a), .string (tB b)] 27)).heap.size = w.heap.size + 1 := by simp
    rw [e] at h bb
    exact h.mono fun x w' ⟨h1, h2⟩ => ⟨h1, bb.trans (h2.mono (by simp))⟩
  replace q0 := hide q0
  have q1 : Hid (∀ W, Below w.heap.size w W → Calls Tryz.prog 19 #[.slice (some ⟨W.heap.size, 0, none⟩) 1 1] (W.alloc (.cells #[.string (tB d)] 9)) fun e w' => e = .returned (.int .i64 0) ∧ Below W.heap.size W w') := fun W q => by
    have bb := (Below.refl W.heap.size W).alloc (Nat.le_refl _) (.cells #[.string (tB d)] 9)
    have h := chkNum_calls _ W.heap.size 1 _ (strAt_one W (tB d)) (by simp) (fun x hx => by rw [List.mem_singleton] at hx; subst hx; exact z3) ((env.below q).below bb)
    rw [show [tB d].all okB = true by simp [okB_t], if_pos rfl] at h
    exact h.mono fun x w' ⟨h1, h2⟩ => ⟨h1, bb.then_below h2⟩
  have q2 := hide (fun W (q : Below w.heap.size w W) => ltimes_calls W b d z2 z3 (env.below q))
  have q3 := hide (fun W (q : Below w.heap.size w W) => lplus_calls W a (b * d) z1 z4 (env.below q))
  clear env
  generalize tB a = A at *
  generalize tB b = B at *
  generalize tB d = D at *
  generalize tB (b * d) = P at *
  generalize tB (a + b * d) = R at *
  have X0 := hide (heap_alloc_new w (.cells #[.string A, .string B] 27))
  go_enter Tryz.func9, Tryz.ntmps9
  go_wp2_with fail
  refine q0.out.mono ?_
  rintro e w1 ⟨rfl, b1⟩
  have X1 := hide ((b1.block w.heap.size (by omega)).trans X0.out)
  have B1 : Hid (Below w.heap.size w w1) := bA.out.trans (b1.mono (by omega))
  have z1 := B1.out.size
  have l1 := (Array.getElem?_eq_some_iff.1 X1.out).1
  clear q0 b1 bA X0
  go_wp2_with fail
  refine (q1.out w1 B1.out).mono ?_
  rintro e w2 ⟨rfl, b2⟩
  have B2 := hide (B1.out.then_below b2)
  have z2 := b2.size
  have X2 := hide ((b2.block w.heap.size l1).trans X1.out)
  obtain ⟨e0, e1⟩ := two_zero w2
  have B3 := hide ((B2.out.alloc B2.out.size (.cells #[.int .i64 0, .int .i64 0] 23)))
  have X3 := hide ((heap_alloc_old w2 (.cells #[.int .i64 0, .int .i64 0] 23) (Array.getElem?_eq_some_iff.1 X2.out).1).trans X2.out)
  clear q1 b2 X1 l1
  go_wp2_with fail
  refine (first_no _ _ e0 e1).mono ?_
  rintro e w3 ⟨rfl, hw⟩
  subst hw
  clear e0 e1
  have y0 : (w2.alloc (.cells #[.int .i64 0, .int .i64 0] 23)).cell? ⟨w.heap.size, 0, none⟩ = some (.string A) := by rw [cell_of_row _ _ _ _ _ (0, 0) X3.out]; rfl
  have y1 : (w2.alloc (.cells #[.int .i64 0, .int .i64 0] 23)).cell? ⟨w.heap.size, 1, none⟩ = some (.string B) := by rw [cell_of_row _ _ _ _ _ (0, 0) X3.out]; rfl
  generalize w2.alloc (.cells #[.int .i64 0, .int .i64 0] 23) = wz at y0 y1 B3 ⊢
  have gl := World.block_lt_of_cell? wz _ y0
  have KS : ∀ {W : World}, Below wz.heap.size wz W → W.cell? ⟨w.heap.size, 0, none⟩ = some (.string A) ∧ W.cell? ⟨w.heap.size, 1, none⟩ = some (.string B) := fun q => ⟨(q.cell (p := ⟨w.heap.size, 0, none⟩) gl).trans y0, (q.cell (p := ⟨w.heap.size, 1, none⟩) gl).trans y1⟩
  have KD : Below wz.heap.size wz wz.drew := (Below.refl _ wz).drew
  have hf := fld_num R
  clear X2 X3
  go_wp2_with fail
  go_region_held3 (fun W => W.cell? ⟨w.heap.size, 0, none⟩ = some (.string A) ∧ W.cell? ⟨w.heap.size, 1, none⟩ = some (.string B))
    (first
      | with_reducible exact KS (Below.refl _ _)
      | with_reducible exact KS KD
      | with_reducible exact KS b4
      | with_reducible exact KS b5)
    (first
      | (go_at_call 21; refine (q2.out _ (B3.out.then_below KD)).mono ?_; rintro e w4 ⟨rfl, b4⟩; replace b4 := KD.then_below b4)
      | (go_at_call 20; refine (q3.out _ (B3.out.then_below b4)).mono ?_; rintro e w5 ⟨rfl, b5⟩; replace b5 := b4.then_below b5))
  go_wp2
  refine bodyPost_ret (v := .tuple #[.string R, .int .i64 0]) (by simp [results, Tryz.results9, go_sem]) rfl ?_
  exact ⟨rfl, B3.out.then_below b5⟩
end Go.Proofs.YtndjkbjoolkmaaaGreatDoor
