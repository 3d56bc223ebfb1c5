/-
  The law's comparing of clauses.
-/
import Derived.Test.YtkdalejceclanaaRdSame
namespace Go.Proofs.Ytkdalejceclanaa
open Go.RowKit
set_option linter.unusedVariables false
/-- The slice v holds the clauses cls. -/
def CI (w : World) (v : Value) (cls : List (List Int)) : Prop :=
  ∃ a cap, v = .slice a cls.length cap ∧ cls.length ≤ 35184372088832 ∧ ∀ j, j < cls.length → ∃ g x, a = some ⟨g, 0, none⟩ ∧ w.cell? ⟨g, j, none⟩ = some x ∧ IV w x (cls.getD j [])
theorem CI.shape {w : World} {v : Value} {cls : List (List Int)} (h : CI w v cls) : ∃ a cap, v = .slice a cls.length cap ∧ cls.length ≤ 35184372088832 := by
  obtain ⟨a, cap, e, h1, -⟩ := h
  exact ⟨a, cap, e, h1⟩
theorem CI.at_ {w : World} {a : Option Addr} {n cap : Nat} {cls : List (List Int)} (h : CI w (.slice a n cap) cls) {j : Nat} (hj : j < cls.length) : ∃ g x, a = some ⟨g, 0, none⟩ ∧ w.cell? ⟨g, j, none⟩ = some x ∧ IV w x (cls.getD j []) := by
  obtain ⟨a', cap', e, -, h⟩ := h
  cases e
  exact h j hj
theorem IV.cells {w w' : World} {v : Value} {l : List Int} (h : IV w v l) (q : ∀ p : Addr, p.block < w.heap.size → w'.cell? p = w.cell? p) : IV w' v l := by
  obtain ⟨a, cap, e, h1, h2⟩ := h
  refine ⟨a, cap, e, h1, fun j hj => ?_⟩
  obtain ⟨g, e1, c⟩ := h2 j hj
  exact ⟨g, e1, (q _ (World.block_lt_of_cell? _ _ c)).trans c⟩
theorem CI.cells {w w' : World} {v : Value} {cls : List (List Int)} (h : CI w v cls) (q : ∀ p : Addr, p.block < w.heap.size → w'.cell? p = w.cell? p) : CI w' v cls := by
  obtain ⟨a, cap, e, h1, h2⟩ := h
  refine ⟨a, cap, e, h1, fun j hj => ?_⟩
  obtain ⟨g, x, e1, c, i⟩ := h2 j hj
  exact ⟨g, x, e1, (q _ (World.block_lt_of_cell? _ _ c)).trans c, i.cells q⟩
theorem ci_of {w : World} {B : Nat} {v : Value} {vals : List Value} {cls : List (List Int)} (h : CV w B v vals cls) (hl : cls.length ≤ 35184372088832) (hm : ∀ j, j < cls.length → (cls.getD j []).length ≤ 35184372088832) : CI w v cls := by
  obtain ⟨h0, h1, h2, -⟩ := h
  rcases id h1.2 with ⟨rfl, e⟩ | ⟨g, cap, cur, rfl, -⟩
  · exact ⟨none, 0, by rw [e], hl, fun j hj => by omega⟩
  · refine ⟨_, cap, rfl, hl, fun j hj => ⟨g, vals.getD j nilS, rfl, ?_, iv_of (h2 j hj) (hm j hj)⟩⟩
    have := h1.cells (g := g) rfl j (vals.getD j nilS) (by
      rw [List.getD_eq_getElem?_getD, List.getElem?_eq_getElem (by omega)]
      rfl)
    rw [Addr.add_lit, Nat.zero_add] at this
    exact this
theorem three_box {w : World} {bx : Nat} {a b c : Value} {t : TypeId} (h : w.heap[bx]? = some (.cells #[a, b, c] t (0, 0))) : w.cell? ⟨bx, 0, none⟩ = some a ∧ w.cell? ⟨bx, 1, none⟩ = some b ∧ w.cell? ⟨bx, 2, none⟩ = some c := by
  refine ⟨?_, ?_, ?_⟩ <;> rw [cell_of_row _ _ _ _ _ _ h] <;> rfl
theorem kept_blockR {w w' : World} {g : Nat} {o : Obj} (h : w.heap[g]? = some o) (b : Below w.heap.size w w') : w'.heap[g]? = some o := by
  rw [b.block _ (Array.getElem?_eq_some_iff.1 h).1]; exact h
set_option maxRecDepth 100000 in
set_option maxHeartbeats 8000000 in
theorem rsame_calls (w : World) (V : Int) (ca ta cb tb : Value) (cls : List (List Int)) (tops : List Int) (ha : CI w ca cls) (hb : CI w cb cls) (hta : IV w ta tops) (htb : IV w tb tops) :
    Calls Try.prog 26 #[.agg #[.int .i64 V, ca, ta], .agg #[.int .i64 V, cb, tb]] w fun e w' => e = .returned (.bool true) ∧ Below w.heap.size w w' := by
  obtain ⟨a1, k1, rfl, hn⟩ := ha.shape
  obtain ⟨a2, k2, rfl, -⟩ := hb.shape
  obtain ⟨a3, k3, rfl, hm⟩ := hta.shape
  obtain ⟨a4, k4, rfl, -⟩ := htb.shape
  have X0 := heap_alloc_new w (.cells #[.int .i64 V, .slice a1 cls.length k1, .slice a3 tops.length k3] 25)
  have Y0 := heap_alloc_new (w.alloc (.cells #[.int .i64 V, .slice a1 cls.length k1, .slice a3 tops.length k3] 25)) (.cells #[.int .i64 V, .slice a2 cls.length k2, .slice a4 tops.length k4] 25)
  have Q1 : Below w.heap.size w (w.alloc (.cells #[.int .i64 V, .slice a1 cls.length k1, .slice a3 tops.length k3] 25)) := (Below.refl _ w).alloc (Nat.le_refl _) _
  have Q2 := hide (Q1.alloc Q1.size (.cells #[.int .i64 V, .slice a2 cls.length k2, .slice a4 tops.length k4] 25))
  have X1 := hide (kept_blockR (w' := (w.alloc (.cells #[.int .i64 V, .slice a1 cls.length k1, .slice a3 tops.length k3] 25)).alloc (.cells #[.int .i64 V, .slice a2 cls.length k2, .slice a4 tops.length k4] 25)) X0 ((Below.refl _ _).alloc (Nat.le_refl _) _))
  have sx : (w.alloc (.cells #[.int .i64 V, .slice a1 cls.length k1, .slice a3 tops.length k3] 25)).heap.size = w.heap.size + 1 := by show (w.heap.push _).size = _; simp
  rw [sx] at Y0
  replace Y0 := hide Y0
  have HA := hide (ha.cells (fun p hp => Q2.out.cell (p := p) hp))
  have HB := hide (hb.cells (fun p hp => Q2.out.cell (p := p) hp))
  have TA := hta.cells (fun p hp => Q2.out.cell (p := p) hp)
  have TB := htb.cells (fun p hp => Q2.out.cell (p := p) hp)
  have q0 := hide (rsameInts_calls _ _ _ tops TA TB)
  clear X0 Q1 sx ha hb hta htb TA TB
  have t1 : (V != V) = false := by simp
  have t2 : ((cls.length : Int) != (cls.length : Int)) = false := by simp
  go_enter Try.func26, Try.ntmps26
  go_upto_region 1 with fail
  generalize (w.alloc (.cells #[.int .i64 V, .slice a1 cls.length k1, .slice a3 tops.length k3] 25)).alloc (.cells #[.int .i64 V, .slice a2 cls.length k2, .slice a4 tops.length k4] 25) = W1 at *
  obtain ⟨i0, i1, i2⟩ := three_box X1.out
  obtain ⟨j0, j1, j2⟩ := three_box Y0.out
  go_wp2_with (go_at_call 54; refine q0.out.mono ?_; rintro e w2 ⟨rfl, m2, hw2⟩; have J : ∀ p, w2.cell? p = W1.cell? p := (fun p => by rw [hw2]; rfl); rw [← J] at i0 i1 i2 j0 j1 j2; have HW2 : Hid (∃ m, w2 = W1.drewN m) := ⟨m2, hw2⟩; clear J hw2)
  go_loopw [5] (fun x wr => ∃ k : Nat, x = .int .i64 (k : Int) ∧ k ≤ cls.length ∧ Hid (∃ m, wr = W1.drewN m)) (fun x _ => cls.length - (intOf x).toNat)
  case atStart => exact ⟨0, rfl, Nat.zero_le _, HW2⟩
  case round =>
    clear HW2 i0 i1 i2 j0 j1 j2
    obtain ⟨k, rfl, hk, HW⟩ := hrel
    have HWn : Hid (∀ m', ∃ m, wr.drewN m' = W1.drewN m) := by
      intro m'
      obtain ⟨m, e⟩ := HW.out
      exact ⟨m + m', by rw [e]; exact World.drewN_drewN _ _ _⟩
    have HB' : Hid (Below w.heap.size w wr) := by
      obtain ⟨m, e⟩ := HW.out
      show Below _ _ _
      rw [e]
      exact below_drewN Q2.out m
    have CW : ∀ p, wr.cell? p = W1.cell? p := fun p => by obtain ⟨m, e⟩ := HW.out; rw [e]; rfl
    have sz : wr.heap.size = W1.heap.size := by obtain ⟨m, e⟩ := HW.out; rw [e]; rfl
    obtain ⟨i0, i1, i2⟩ := three_box X1.out
    obtain ⟨j0, j1, j2⟩ := three_box Y0.out
    rw [← CW] at i0 i1 i2 j0 j1 j2
    by_cases hlt : k < cls.length
    · obtain ⟨g1, x1, rfl, c1, I1⟩ := HA.out.at_ hlt
      obtain ⟨g2, x2, rfl, c2, I2⟩ := HB.out.at_ hlt
      rw [← CW] at c1 c2
      have S := hide (fun n => rsameInts_calls (wr.drewN n) x1 x2 _ (I1.cells (fun p _ => CW p)) (I2.cells (fun p _ => CW p)))
      have g1' : (k : Int) < (cls.length : Int) := by omega
      have g0' : (0 : Int) ≤ (k : Int) := by omega
      clear I1 I2 CW sz
      go_wp2_with fail
      go_quiet ((go_at_call 54; exact Calls.quiet_of (unhide S _)))
      go_wp2
      go_roundw
      case rel => exact ⟨k + 1, by go_num, by omega, HWn.out _⟩
      case measure => simp [intOf]; omega
    · obtain rfl : k = cls.length := by omega
      clear hlt hk CW sz
      go_wp2_with fail
      go_ret
      exact ⟨rfl, HB'.out⟩
end Go.Proofs.Ytkdalejceclanaa
