/-
  Package sexp: 'standing': an iterator over the places of what stands one behind the other.
-/
import Derived.RangeFuncBox
import Derived.RangeFuncLeaves
import Derived.RangeFuncNested
import Derived.RangeFuncBound
import Derived.RangeFuncCalls
import Derived.Shelf.Abstract
import Derived.Shelf.RegionOpen
import Derived.OwnWalkIn
import Derived.TacticsInMore
import Derived.LoopNIn
import Derived.LoopIn
import Derived.Test.YtjbalgjdcdmjjaaDoorNodeAll
/- ==== NodeStands ==== -/
namespace Go.Proofs.YtjbalgjdcdmjjaaDoor
open Go.RowKit Go.Shelf
set_option linter.unusedVariables false
attribute [local go_sem] Oper.semAt_some
set_option maxHeartbeats 1000000 in
theorem standing_in (F : Fence) (n : Nat) (h5 : F.fn 32) (hro : F.round = none) (a : Option Addr) (len cap : Nat) (p e : Int) (w : World) :
    CallsIn F n Tryd.prog 32 #[.slice a len cap, .int .i64 p, .int .i64 e] w fun r w' =>
      r = .returned (.func (.func 53) #[] #[.pointer (some ⟨w.heap.size + 1, 0, none⟩), .pointer (some ⟨w.heap.size + 2, 0, none⟩), .pointer (some ⟨w.heap.size, 0, none⟩)]) ∧
      w' = ((w.alloc (.cells #[.slice a len cap] 43)).alloc (.cells #[.int .i64 p] 3)).alloc (.cells #[.int .i64 e] 3) := by
  refine callsIn_of_wp Tryd.func32 rfl h5 ?_ hro
  simp only [Tryd.ntmps32, List.size_toArray, List.length_cons, List.length_nil, Nat.reduceAdd, Nat.reduceSub, Array.replicate_succ, Array.replicate_zero, List.push_toArray, List.append_toArray, List.nil_append, List.cons_append]
  gi_wp2
  go_ret
  exact ⟨rfl, rfl⟩
/-- What a round must keep: all below n₀, and the three boxes of the iterator. -/
def KpS (n₀ lo : Nat) (W W' : World) : Prop := Below n₀ W W' ∧ ∀ k, lo ≤ k → k < lo + 3 → W'.heap[k]? = W.heap[k]?
theorem KpS_t {n₀ lo : Nat} {A B C : World} (h : KpS n₀ lo A B) (k : KpS n₀ lo B C) : KpS n₀ lo A C := ⟨h.1.trans k.1, fun j h1 h2 => (k.2 j h1 h2).trans (h.2 j h1 h2)⟩
theorem KpS_b {n₀ lo : Nat} {w : World} (hn : n₀ ≤ w.heap.size) (hl : lo + 3 ≤ w.heap.size) (W : World) (l : Nat) (o o' : Obj) (h1 : w.heap.size ≤ l) (h2 : W.heap[l]? = some o) (h3 : o.isCells = false) (h4 : o.isWalk = false) : KpS n₀ lo W (W.putObj l o') :=
  ⟨belowK_b hn W l o o' h1 h2 h3 h4, fun k _ hk => World.putObj_heap_other (by omega)⟩
theorem KpS_refl (n₀ lo : Nat) (W : World) : KpS n₀ lo W W := ⟨Below.refl _ _, fun _ _ _ => rfl⟩
theorem KpS.cell {n₀ lo : Nat} {W W' : World} (h : KpS n₀ lo W W') {k : Nat} (h1 : lo ≤ k) (h2 : k < lo + 3) (o : Nat) : W'.cell? ⟨k, o, none⟩ = W.cell? ⟨k, o, none⟩ := by
  simp [World.cell?, h.2 k h1 h2]
set_option maxRecDepth 100000 in
set_option maxHeartbeats 2000000 in
/-- The iterator, for every loop body that keeps what lay below n₀ and the iterator's boxes. -/
theorem stand1_in (F : Fence) (n : Nat) (h7 : F.fn 53) (hro : F.round = none) (hn : 1 ≤ n) (l lo n₀ : Nat) (a : Option Addr) (len cap : Nat) (ns : List Nd) (hS : Szs ns) (p0 E : Nat) (hE : E ≤ ns.length) (J Jx : List Nat → World → Prop)
    (hY : ∀ pre x W, J pre W → pre.length < ns.length → YieldAt F (n - 1) Tryd.prog l #[.int .i64 ((x : Nat) : Int)] W fun e W' =>
      (e = .returned (.bool true) ∧ J (pre ++ [x]) W' ∧ KpS n₀ lo W W') ∨ (e = .returned (.bool false) ∧ Jx (pre ++ [x]) W'))
    (W : World) (hb0 : W.cell? ⟨lo, 0, none⟩ = some (.slice a len cap)) (hb1 : W.cell? ⟨lo + 1, 0, none⟩ = some (.int .i64 p0)) (hb2 : W.cell? ⟨lo + 2, 0, none⟩ = some (.int .i64 E)) (hN : Nds n₀ W (.slice a len cap) ns) (h0 : J [] W) :
    CallsIn F n Tryd.prog 53 #[.func (.yield l) #[] #[], .pointer (some ⟨lo + 1, 0, none⟩), .pointer (some ⟨lo + 2, 0, none⟩), .pointer (some ⟨lo, 0, none⟩)] W fun e W' => (∃ v, e = .returned v) ∧
      ((∃ ys, ys = kl ns E ns.length p0 ∧ J ys W') ∨ (∃ pre, pre <+: kl ns E ns.length p0 ∧ Jx pre W')) := by
  have hN' := hide hN
  obtain ⟨a', cap', e1, h1, ⟨h2, h2'⟩, h3, h4⟩ := hN
  cases e1
  clear h3 h4
  refine callsIn_of_wp Tryd.func53 rfl h7 ?_ hro
  simp only [Tryd.ntmps53, List.size_toArray, List.length_cons, List.length_nil, Nat.reduceAdd, Nat.reduceSub, Array.replicate_succ, Array.replicate_zero, List.push_toArray, List.append_toArray, List.nil_append, List.cons_append]
  gi_wp2
  gi_loopw [5] (fun j wr => ∃ (pre : List Nat) (k p : Nat), j = .int .i64 p ∧ Hid (kl ns E ns.length p0 = pre ++ kl ns E k p) ∧ Hid (E - p ≤ k) ∧ Hid (J pre wr) ∧ Hid (KpS n₀ lo W wr)) (fun j _ => E - (intOf j).toNat)
  case atStart => exact ⟨[], ns.length, p0, rfl, rfl, by simp only [Hid]; omega, h0, KpS_refl _ _ _⟩
  case round =>
    obtain ⟨pre, k, p, rfl, hpre, hk, hJ, hKp⟩ := hrel
    have hb2' : wr.cell? ⟨lo + 2, 0, none⟩ = some (.int .i64 E) := (hKp.out.cell (by omega) (by omega) 0).trans hb2
    by_cases hlt : p < E
    · have hpn : p < ns.length := by omega
      obtain ⟨k, rfl⟩ : ∃ k', k = k' + 1 := ⟨k - 1, by have := hk.out; omega⟩
      have hgo := hide (kl_go ns E k p hlt)
      have hlen : pre.length < ns.length := by
        have h5 := kl_length ns E ns.length p0
        have h6 := congrArg List.length hpre.out
        rw [hgo.out] at h6
        simp at h6
        omega
      have hs := hS p hpn
      obtain ⟨b, off, rfl, hb, -, -, -, c3, -⟩ := (hN'.out.below hKp.out.1).at_ hpn
      generalize (ns.getD p Nd.z).size = sz at *
      obtain ⟨z, rfl⟩ : ∃ z : Nat, sz = z := ⟨sz.toNat, by omega⟩
      obtain ⟨fn, tmps, assign, body, hy, hR⟩ := hY pre p wr hJ.out hlen
      replace hR := hide hR
      gi_wp2
      refine hR.out.mono ?_
      rintro e W3 (⟨rfl, hJ3, hk3⟩ | ⟨rfl, hJx3⟩)
      · have d0 : W3.cell? ⟨lo, 0, none⟩ = some (.slice (some ⟨b, off, none⟩) ns.length cap) := (hk3.cell (by omega) (by omega) 0).trans ((hKp.out.cell (by omega) (by omega) 0).trans hb0)
        have d3 : W3.cell? ⟨b, off + p * 5 + 3, none⟩ = some (.int .i64 z) := (hk3.1.cell (p := ⟨b, off + p * 5 + 3, none⟩) hb).trans c3
        replace hk3 := hide hk3
        replace hJ3 := hide hJ3
        gi_wp2
        go_roundw
        case rel => exact ⟨pre ++ [p], k, p + z, by simp, by rw [hpre.out, hgo.out]; simp [Hid], by have := hk.out; simp only [Hid]; omega, hJ3, KpS_t hKp.out hk3.out⟩
        case measure => simp [intOf]; omega
      · replace hJx3 := hide hJx3
        gi_wp2
        refine bodyPost_ret (results_none rfl _ _ _) rfl ?_
        exact ⟨⟨_, rfl⟩, .inr ⟨pre ++ [p], ⟨kl ns E k (p + z), by rw [hpre.out, hgo.out]; simp⟩, hJx3.out⟩⟩
    · have e1 := hide (kl_end ns E k p (by omega))
      have hfin : Hid (pre = kl ns E ns.length p0) := by rw [hpre.out, e1.out]; simp [Hid]
      gi_wp2
      go_end0
      exact ⟨⟨_, rfl⟩, .inl ⟨pre, hfin.out, hJ.out⟩⟩
end Go.Proofs.YtjbalgjdcdmjjaaDoor
