/-
  The law LinSmall.
-/
import Derived.Test.YtndjkbjoolkmaaaGreatDoorLinPick
namespace Go.Proofs.YtndjkbjoolkmaaaGreatDoor
open Go.RowKit
set_option linter.unusedVariables false
theorem lno (w : World) (z : Int) : Calls Tryz.prog 5 #[.int .i64 z] w fun e w' => e = .returned (.int .i64 z) ∧ w' = w := by
  go_enter Tryz.func5, Tryz.ntmps5
  go_wp2
  go_ret
  exact ⟨rfl, rfl⟩
set_option maxRecDepth 100000 in
theorem lawCmp (w : World) (x y : Rat) (zx : Sz x) (zy : Sz y) (env : LEnv w) :
    Calls Tryz.prog 6 #[.string (tB x), .string (tB y)] w fun e w' => e = .returned (.int .i64 (cmpQ x y)) ∧ Below w.heap.size w w' := by
  have q := hide (nCmp w x y zx zy env.1)
  clear env
  generalize tB x = X at *
  generalize tB y = Y at *
  generalize cmpQ x y = r at *
  go_enter Tryz.func6, Tryz.ntmps6
  go_wp2_with fail
  refine q.out.mono ?_
  rintro e w1 ⟨rfl, b1⟩
  replace b1 := hide b1
  go_wp2_with (go_at_call 5; refine (lno _ _).mono ?_; rintro e w2 ⟨rfl, hw⟩; subst hw)
  go_ret
  exact ⟨rfl, b1.out⟩
set_option maxRecDepth 100000 in
theorem lawCmp_no (w : World) (s : ByteArray) (hs : s.size ≤ 1073741824) (hk : okB s = false) (env : LEnv w) :
    Calls Tryz.prog 6 #[.string s, .string (tB 0)] w fun e w' => e = .returned (.int .i64 2) ∧ Below w.heap.size w w' := by
  have q := nLook w s hs env.1
  rw [show canB s.data.toList = false from hk, if_neg (by decide)] at q
  replace q := hide q
  clear env
  generalize tB 0 = Y at *
  go_enter Tryz.func6, Tryz.ntmps6
  go_wp2_with fail
  refine q.out.mono ?_
  rintro e w1 ⟨⟨c, rfl⟩, b1⟩
  replace b1 := hide b1
  go_wp2_with (go_at_call 5; refine (lno _ _).mono ?_; rintro e w2 ⟨rfl, hw⟩; subst hw)
  go_ret
  exact ⟨rfl, b1.out⟩
set_option maxRecDepth 100000 in
theorem lawMul (w : World) (x y : Rat) (zx : Sz x) (zy : Sz y) (env : LEnv w) :
    Calls Tryz.prog 7 #[.string (tB x), .string (tB y)] w fun e w' => e = .returned (.string (tB (x * y))) ∧ Below w.heap.size w w' := by
  have q := hide (nMul w x y zx zy env.1)
  clear env
  generalize tB x = X at *
  generalize tB y = Y at *
  generalize tB (x * y) = r at *
  go_enter Tryz.func7, Tryz.ntmps7
  go_wp2_with fail
  refine q.out.mono ?_
  rintro e w1 ⟨rfl, b1⟩
  replace b1 := hide b1
  go_wp2_with (go_at_call 5; refine (lno _ _).mono ?_; rintro e w2 ⟨rfl, hw⟩; subst hw)
  go_ret
  exact ⟨rfl, b1.out⟩
/-- The pair that is asked at any rate. -/
def pq0 : Pq := ⟨⟨#[48]⟩, ⟨#[49]⟩, ⟨#[49, 47, 50]⟩, ⟨#[45, 49]⟩⟩
theorem t_quarter : (⟨#[49, 47, 52]⟩ : ByteArray) = tB (mkRat 1 4) := (of_can (s := ⟨#[49, 47, 52]⟩) (by decide +kernel)).trans (congrArg tB (by decide +kernel))
theorem pick0 {d : ByteArray} {c : Int} (h : PickA [pq0] d c) : d = ⟨#[49, 47, 52]⟩ ∧ c = 0 := by
  have ok : ([pq0] : List Pq).all Pq.ok = true := by decide +kernel
  have pk : pickR (([pq0] : List Pq).map Pq.q) 1 = some (mkRat 1 4) := by decide +kernel
  rcases h with ⟨-, -, h⟩ | ⟨-, ⟨-, -, h⟩ | ⟨h0, m, h1, h2⟩⟩
  · rw [ok] at h; cases h
  · rw [pk] at h; cases h
  · rw [pk] at h1
    obtain rfl := Option.some.inj h1
    exact ⟨h2.trans t_quarter.symm, h0⟩
theorem qrow0 (w : World) : QRow (w.alloc (.cells #[.string ⟨#[48]⟩, .string ⟨#[49]⟩, .string ⟨#[49, 47, 50]⟩, .string ⟨#[45, 49]⟩] 29)) (.slice (some ⟨w.heap.size, 0, none⟩) 1 1) [pq0] := by
  have X := heap_alloc_new w (.cells #[.string ⟨#[48]⟩, .string ⟨#[49]⟩, .string ⟨#[49, 47, 50]⟩, .string ⟨#[45, 49]⟩] 29)
  refine ⟨_, 1, rfl, by simp, by decide, fun _ => ⟨w.heap.size, 0, rfl, fun j hj => ?_⟩⟩
  have hj : j < 1 := hj
  obtain rfl : j = 0 := by omega
  exact ⟨by rw [cell_of_row _ _ _ _ _ (0, 0) X]; rfl, by rw [cell_of_row _ _ _ _ _ (0, 0) X]; rfl, by rw [cell_of_row _ _ _ _ _ (0, 0) X]; rfl, by rw [cell_of_row _ _ _ _ _ (0, 0) X]; rfl⟩
theorem Bd.wide {j k : Nat} {q : Rat} (h : Bd j q) (hk : j ≤ k) : Bd k q := ⟨Nat.lt_of_lt_of_le h.1 (Nat.pow_le_pow_right (by decide) hk), Nat.lt_of_lt_of_le h.2 (Nat.pow_le_pow_right (by decide) hk)⟩
/-- A number that pairs are asked at. -/
def MB2 (m : Rat) : Prop := Bd 5242882 m
theorem MB.two {m : Rat} (h : MB m) : MB2 m := Bd.wide h (by decide)
theorem MB.times {m x : Rat} (h : MB m) (hx : Bd 1048576 x) : MB2 (m * x) := by
  have h2 := Bd.mul h hx
  rw [show 4194306 + 1048576 = 5242882 from by decide] at h2
  exact h2
theorem MB2.sz {m : Rat} (h : MB2 m) : Sz m := Bd.sz (by decide) (by decide) h
theorem MB2.prod {m x : Rat} (h : MB2 m) (hx : Bd 1048576 x) : Sz (x * m) := Bd.sz (by decide) (by decide) (hx.mul h)
theorem MB2.sum {m x y : Rat} (h : MB2 m) (hx : Bd 1048576 x) (hy : Bd 1048576 y) : Sz (y + x * m) := Bd.sz (by decide) (by decide) (hy.add (hx.mul h))
end Go.Proofs.YtndjkbjoolkmaaaGreatDoor
