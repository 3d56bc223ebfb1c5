/-
  The scanner's own small methods, on: open, keep, tell.
-/
import Derived.Test.YtjbalgjdcdmjjaaDoorScanOps
namespace Go.Proofs.YtjbalgjdcdmjjaaDoor
open Go.RowKit
set_option linter.unusedVariables false
set_option maxRecDepth 100000 in
set_option maxHeartbeats 1600000 in
theorem open_calls {F : Nat → Prop} {w : World} {g : Nat} {c : Sc} {acc : List UInt8} {ts : List S.Tok} {tv ov : Value} (h : SS F w g c acc ts tv ov) (k : Nat) :
    Calls Tryd.prog 63 #[.pointer (some ⟨g, 0, none⟩), .int .i64 k] w fun e w' => e = .returned (.tuple #[]) ∧ Left F w w' g { c with kind := k, beg := c.i } [] ts := by
  obtain ⟨-, -, c2, c3, c4, -, c6, -⟩ := h.cells
  have fz := h.frozen
  have h1 := (h.set 4 (.int .i64 k) { c with kind := k } rfl).set 3 (.int .i64 c.i) { c with kind := k, beg := c.i } rfl
  obtain ⟨ao, cap, ⟨n, rfl⟩, hsl, h2⟩ := h1.noText
  have k2 := hide ((((Kp.refl F w).set h.mine 4 (.int .i64 k)).set h.mine 3 (.int .i64 c.i)).set h.mine 6 (.slice ao 0 cap))
  clear h h1
  replace h2 := hide h2
  obtain ⟨st, sp, i, bg, kd, mo, cb, le, lo, tp, cs, cp, en, fa, pl⟩ := c
  simp only at *
  go_enter Tryd.func63, Tryd.ntmps63
  go_wp2
  go_region
  all_goals go_wp2
  all_goals go_end0
  all_goals exact ⟨rfl, ⟨_, _, h2.out.drewN _⟩, k2.out.drewN _⟩
section
variable {F : Nat → Prop} {w : World} {g : Nat} {c : Sc} {acc : List UInt8} {ts : List S.Tok} {tv ov : Value}
theorem own_shape {w : World} {e : TypeId} {size : Nat} {v : Value} {n : Nat} {xs : List Value} (h : w.ownsRow 0 e size v n xs) : ∃ ao cap, v = .slice ao n cap := by
  rcases h.2 with ⟨rfl, rfl⟩ | ⟨b, cap, cur, rfl, _⟩
  · exact ⟨_, _, rfl⟩
  · exact ⟨_, _, rfl⟩
theorem SS.grown {W w1 : World} (h : SS F W g c acc ts tv ov) {r : Option Nat} (q : W.grownBy w1 r) (hr : r ≠ some g) : (∀ j v, W.cell? ⟨g, j, none⟩ = some v → w1.cell? ⟨g, j, none⟩ = some v) ∧ ∀ j, w1.frozen? ⟨g, j, none⟩ = false := by
  have hb : w1.heap[g]? = W.heap[g]? := q.block g h.lt (fun e => hr e.symm)
  constructor
  · intro j v hv
    rw [World.cell?_of_block (w := W) (a := ⟨g, j, none⟩) hb]
    exact hv
  · intro j
    rw [World.frozen?_of_block (w := W) (a := ⟨g, j, none⟩) hb]
    exact h.frozen j
end
set_option maxRecDepth 100000 in
theorem keep_none {F : Nat → Prop} {w : World} {g : Nat} {c : Sc} {acc : List UInt8} {ts : List S.Tok} {tv ov : Value} (h : SS F w g c acc ts tv ov) (b : UInt8) (hk : c.kind = 0) :
    Calls Tryd.prog 64 #[.pointer (some ⟨g, 0, none⟩), .int .u8 b.toNat] w fun e w' => e = .returned (.tuple #[]) ∧ Left F w w' g c acc ts := by
  obtain ⟨-, -, -, -, c4, -⟩ := h.cells
  rw [hk] at c4
  have h1 := hide h
  clear h
  go_enter Tryd.func64, Tryd.ntmps64
  go_wp2
  go_end0
  exact ⟨rfl, ⟨_, _, h1.out⟩, Kp.refl F w⟩
set_option maxRecDepth 100000 in
set_option maxHeartbeats 1600000 in
theorem keep_calls {F : Nat → Prop} {w : World} {g : Nat} {c : Sc} {acc : List UInt8} {ts : List S.Tok} {tv ov : Value} (h : SS F w g c acc ts tv ov) (b : UInt8) (hk : c.kind ≠ 0) (hl : acc.length ≤ 1099511627776) :
    Calls Tryd.prog 64 #[.pointer (some ⟨g, 0, none⟩), .int .u8 b.toNat] w fun e w' => e = .returned (.tuple #[]) ∧ Left F w w' g c (acc ++ [b]) ts := by
  obtain ⟨i0, hi, hz0, hz1, hz2⟩ := info_parts infoByte
  obtain ⟨-, -, -, -, c4, -, c6, -⟩ := h.cells
  have hA := h.alloc (.cells #[.int .u8 b.toNat] 5)
  have c6' := hide (hA.cell 6 tv rfl)
  have HA := hide hA
  have HT := hide hA.text
  have HK := hide ((Kp.refl F w).alloc (.cells #[.int .u8 b.toNat] 5))
  have hk' : ¬ ((c.kind : Int) = 0) := by omega
  obtain ⟨L, hL⟩ : ∃ L, acc.length = L := ⟨_, rfl⟩
  rw [hL] at HT hl
  clear h hA
  go_enter Tryd.func64, Tryd.ntmps64
  go_wp2_with (at_builtin; (refine wpList_append_mine rfl _ _ 70 rfl 0 5 i0 (.int .u8 0) 1 1 sliceByte hi hz0 hz1 hz2 rfl (by decide) tv _ _ rfl HT.out ⟨w.heap.size, 0, none⟩ 1 1 [.int .u8 b.toNat] rfl rfl (cell_one_new _ _ _) (by simp [Value.oneCell']) (by unfold maxLen; omega) (by omega) (Nat.zero_le _) ?_; intro v' w1 o1 g1 m1; obtain ⟨ao, cap, rfl⟩ := own_shape o1; obtain ⟨d6, dz⟩ := HA.out.grown g1 HA.out.tne; have d6' := d6 6 tv c6'.out; clear d6; replace o1 := hide o1; replace g1 := hide g1; replace m1 := hide m1))
  go_end0
  have e := HA.out.newText (acc' := acc ++ [b]) (by have := o1.out; rw [← hL] at this ⊢; simpa [byteV] using this) g1.out m1.out
  exact ⟨rfl, ⟨_, _, e.1⟩, HK.out.trans e.2⟩
end Go.Proofs.YtjbalgjdcdmjjaaDoor
