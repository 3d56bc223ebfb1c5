/-
  Package lin: its numbers, told by rationals.
-/
import Derived.Test.YtlepicdpelkmlaaGreatDoorLinA
import Derived.Laws.StructEq
namespace Go.Proofs.YtlepicdpelkmlaaGreatDoor
open Go.RowKit
set_option linter.unusedVariables false
/-- What lin's calls want of the world. -/
def LEnv (w : World) : Prop := Env w ∧ w.cell? ⟨1, 0, none⟩ = some (.string ⟨#[48]⟩) ∧ w.cell? ⟨0, 0, none⟩ = some (.string ⟨#[49]⟩)
theorem LEnv.below {w W : World} (h : LEnv w) (b : Below w.heap.size w W) : LEnv W :=
  ⟨h.1.below b, (b.cell (p := ⟨1, 0, none⟩) (World.block_lt_of_cell? w _ h.2.1)).trans h.2.1, (b.cell (p := ⟨0, 0, none⟩) (World.block_lt_of_cell? w _ h.2.2)).trans h.2.2⟩
theorem ne_list {s : ByteArray} {b : UInt8} (h : ¬ s = ⟨#[b]⟩) : ¬ s.toList = [b] := fun e => h (by
  have e2 : s.data.toList = [b] := by rw [str_toList]; exact e
  obtain ⟨d⟩ := s
  congr 1
  exact Array.toList_inj.1 e2)
theorem third_box (w : World) (o1 o2 o3 : Obj) {w1 : World} (b : Below (((w.alloc o1).alloc o2).alloc o3).heap.size (((w.alloc o1).alloc o2).alloc o3) w1) : w1.heap[w.heap.size + 1 + 1]? = some o3 :=
  (b.block _ (by simp)).trans (by have := heap_alloc_new ((w.alloc o1).alloc o2) o3; simpa using this)
theorem three_below (w : World) (o1 o2 o3 : Obj) : Below w.heap.size w (((w.alloc o1).alloc o2).alloc o3) := (((Below.refl _ w).alloc (Nat.le_refl _) _).alloc (by simp) _).alloc (by simp; omega) _
set_option maxRecDepth 100000 in
set_option maxHeartbeats 4000000 in
theorem lminus_calls (w : World) (x y : Rat) (zx : Sz x) (zy : Sz y) (env : LEnv w) :
    Calls Tryz.prog 11 #[.agg #[.string (tB x)], .agg #[.string (tB y)]] w fun e w' => e = .returned (.agg #[.string (tB (x - y))]) ∧ Below w.heap.size w w' := by
  have q0 := hide (fun W (q : Below w.heap.size w W) => nSub W x y zx zy (env.1.below q))
  obtain ⟨-, g0, g1⟩ := env
  generalize tB x = X at *
  generalize tB y = Y at *
  generalize tB (x - y) = Z at *
  have bA := hide (three_below w (.cells #[.string X] 46) (.cells #[.string Y] 46) (.cells #[.string ⟨#[]⟩] 46))
  have h0 := World.block_lt_of_cell? w _ g0
  have h1 := World.block_lt_of_cell? w _ g1
  simp only at h0 h1
  go_enter Tryz.func11, Tryz.ntmps11
  go_wp2_with fail
  refine (q0.out _ bA.out).mono ?_
  rintro e w1 ⟨rfl, b1⟩
  have X1 := third_box _ _ _ _ b1
  have y0 : w1.cell? ⟨w.heap.size + 1 + 1, 0, none⟩ = some (.string ⟨#[]⟩) := by rw [cell_of_row w1 _ _ _ _ (0, 0) X1]; rfl
  have fz := fun j => frozen_of_row w1 (w.heap.size + 1 + 1) j _ _ X1
  have B1 := hide (bA.out.then_below b1)
  clear X1 b1 q0 bA
  go_wp2
  refine bodyPost_ret (v := .agg #[.string Z]) (by simp [results, Tryz.results11, go_sem, y0]) rfl ?_
  exact ⟨rfl, B1.out.setCell (show w.heap.size ≤ w.heap.size + 1 + 1 by omega) _⟩
set_option maxRecDepth 100000 in
set_option maxHeartbeats 4000000 in
theorem lover_calls (w : World) (x y : Rat) (hy : y ≠ 0) (zx : Sz x) (zy : Sz y) (env : LEnv w) :
    Calls Tryz.prog 13 #[.agg #[.string (tB x)], .agg #[.string (tB y)]] w fun e w' => e = .returned (.agg #[.string (tB (x / y))]) ∧ Below w.heap.size w w' := by
  have q0 := hide (fun W (q : Below w.heap.size w W) => nQuo W x y hy zx zy (env.1.below q))
  obtain ⟨-, g0, g1⟩ := env
  generalize tB x = X at *
  generalize tB y = Y at *
  generalize tB (x / y) = Z at *
  have bA := hide (three_below w (.cells #[.string X] 46) (.cells #[.string Y] 46) (.cells #[.string ⟨#[]⟩] 46))
  have h0 := World.block_lt_of_cell? w _ g0
  have h1 := World.block_lt_of_cell? w _ g1
  simp only at h0 h1
  go_enter Tryz.func13, Tryz.ntmps13
  go_wp2_with fail
  refine (q0.out _ bA.out).mono ?_
  rintro e w1 ⟨rfl, b1⟩
  have X1 := third_box _ _ _ _ b1
  have y0 : w1.cell? ⟨w.heap.size + 1 + 1, 0, none⟩ = some (.string ⟨#[]⟩) := by rw [cell_of_row w1 _ _ _ _ (0, 0) X1]; rfl
  have fz := fun j => frozen_of_row w1 (w.heap.size + 1 + 1) j _ _ X1
  have B1 := hide (bA.out.then_below b1)
  clear X1 b1 q0 bA
  go_wp2
  refine bodyPost_ret (v := .agg #[.string Z]) (by simp [results, Tryz.results13, go_sem, y0]) rfl ?_
  exact ⟨rfl, B1.out.setCell (show w.heap.size ≤ w.heap.size + 1 + 1 by omega) _⟩
set_option maxRecDepth 100000 in
set_option maxHeartbeats 4000000 in
theorem lcompare_calls (w : World) (x y : Rat) (zx : Sz x) (zy : Sz y) (env : LEnv w) :
    Calls Tryz.prog 14 #[.agg #[.string (tB x)], .agg #[.string (tB y)]] w fun e w' => e = .returned (.int .i64 (cmpQ x y)) ∧ Below w.heap.size w w' := by
  have q0 := hide (fun W (q : Below w.heap.size w W) => nCmp W x y zx zy (env.1.below q))
  clear env
  generalize tB x = X at *
  generalize tB y = Y at *
  generalize cmpQ x y = Z at *
  have bA := hide (((Below.refl _ w).alloc (Nat.le_refl _) (.cells #[.string X] 46)).alloc (by simp) (.cells #[.string Y] 46))
  go_enter Tryz.func14, Tryz.ntmps14
  go_wp2_with fail
  refine (q0.out _ bA.out).mono ?_
  rintro e w1 ⟨rfl, b1⟩
  have B1 := hide (bA.out.then_below b1)
  clear b1 q0 bA
  go_wp2
  go_ret
  exact ⟨rfl, B1.out⟩
def sgnQ (x : Rat) : Int := if x = 0 then 0 else if x < 0 then -1 else 1
set_option maxRecDepth 100000 in
set_option maxHeartbeats 4000000 in
theorem lsign_calls (w : World) (x : Rat) (env : LEnv w) :
    Calls Tryz.prog 12 #[.agg #[.string (tB x)]] w fun e w' => e = .returned (.int .i64 (sgnQ x)) ∧ Below w.heap.size w w' := by
  obtain ⟨-, g0, g1⟩ := env
  have h0 := World.block_lt_of_cell? w _ g0
  simp only at h0
  by_cases hx : x = 0
  · subst hx
    rw [← t_zero]
    have e : sgnQ 0 = 0 := by decide +kernel
    rw [e]
    go_enter Tryz.func12, Tryz.ntmps12
    go_wp2
    go_ret
    exact ⟨rfl, (Below.refl _ w).alloc (Nat.le_refl _) _⟩
  · have nX : ¬ (tB x).toList = [48] := ne_list fun e => hx (tB_inj (e.trans t_zero))
    obtain ⟨p1, p2, p3⟩ := tB_head x
    have hb := byteAt (tB x) _ rfl 0 p3
    by_cases hn : x < 0
    · have e : sgnQ x = -1 := by unfold sgnQ; rw [if_neg hx, if_pos hn]
      have hc := p1 hn
      rw [e]
      rw [hc] at hb
      generalize tB x = X at *
      have hbb : X[0]'p3 = 45 := hb
      clear p1 p2 hx hn hc e hb
      go_enter Tryz.func12, Tryz.ntmps12
      go_wp2
      go_ret
      exact ⟨rfl, (Below.refl _ w).alloc (Nat.le_refl _) _⟩
    · have e : sgnQ x = 1 := by unfold sgnQ; rw [if_neg hx, if_neg hn]
      have hc := p2 hn
      rw [e]
      obtain ⟨c, hcc⟩ : ∃ c, (tB x).data.toList.getD 0 0 = c := ⟨_, rfl⟩
      rw [hcc] at hb hc
      generalize tB x = X at *
      have hne : ¬ (c.toNat : Int) = 45 := fun q => hc (UInt8.toNat_inj.1 (by show c.toNat = 45; omega))
      clear p1 p2 hx hn hc e hcc
      go_enter Tryz.func12, Tryz.ntmps12
      go_wp2
      go_ret
      exact ⟨rfl, (Below.refl _ w).alloc (Nat.le_refl _) _⟩
end Go.Proofs.YtlepicdpelkmlaaGreatDoor
