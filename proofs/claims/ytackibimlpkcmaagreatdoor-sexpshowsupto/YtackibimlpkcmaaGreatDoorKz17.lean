/- Laid together of: NodeStands, NodeForestP. -/
import Derived.RangeFuncBox
import Derived.RangeFuncLeaves
import Derived.RangeFuncNested
import Derived.RangeFuncBound
import Derived.RangeFuncCalls
import Derived.Shelf.Abstract
import Derived.Shelf.RegionOpen
import Derived.OwnWalkIn
import Derived.TacticsInMore
import Derived.LoopNIn
import Derived.LoopIn
import Derived.Test.YtackibimlpkcmaaGreatDoorKz16
import Derived.Laws.OwnMore
/- ==== NodeStands ==== -/
namespace Go.Proofs.YtackibimlpkcmaaGreatDoor
open Go.RowKit Go.Shelf
set_option linter.unusedVariables false
attribute [local go_sem] Oper.semAt_some
set_option maxHeartbeats 1000000 in
theorem standing_in (F : Fence) (n : Nat) (h5 : F.fn 16) (hro : F.round = none) (a : Option Addr) (len cap : Nat) (p e : Int) (w : World) :
    CallsIn F n Tryz.prog 16 #[.slice a len cap, .int .i64 p, .int .i64 e] w fun r w' =>
      r = .returned (.func (.func 31) #[] #[.pointer (some ⟨w.heap.size + 1, 0, none⟩), .pointer (some ⟨w.heap.size + 2, 0, none⟩), .pointer (some ⟨w.heap.size, 0, none⟩)]) ∧
      w' = ((w.alloc (.cells #[.slice a len cap] 22)).alloc (.cells #[.int .i64 p] 3)).alloc (.cells #[.int .i64 e] 3) := by
  refine callsIn_of_wp Tryz.func16 rfl h5 ?_ hro
  simp only [Tryz.ntmps16, List.size_toArray, List.length_cons, List.length_nil, Nat.reduceAdd, Nat.reduceSub, Array.replicate_succ, Array.replicate_zero, List.push_toArray, List.append_toArray, List.nil_append, List.cons_append]
  gi_wp2
  go_ret
  exact ⟨rfl, rfl⟩
/-- What a round must keep: all below n₀, and the three boxes of the iterator. -/
def KpS (n₀ lo : Nat) (W W' : World) : Prop := Below n₀ W W' ∧ ∀ k, lo ≤ k → k < lo + 3 → W'.heap[k]? = W.heap[k]?
theorem KpS_t {n₀ lo : Nat} {A B C : World} (h : KpS n₀ lo A B) (k : KpS n₀ lo B C) : KpS n₀ lo A C := ⟨h.1.trans k.1, fun j h1 h2 => (k.2 j h1 h2).trans (h.2 j h1 h2)⟩
theorem KpS_b {n₀ lo : Nat} {w : World} (hn : n₀ ≤ w.heap.size) (hl : lo + 3 ≤ w.heap.size) (W : World) (l : Nat) (o o' : Obj) (h1 : w.heap.size ≤ l) (h2 : W.heap[l]? = some o) (h3 : o.isCells = false) (h4 : o.isWalk = false) : KpS n₀ lo W (W.putObj l o') :=
  ⟨belowK_b hn W l o o' h1 h2 h3 h4, fun k _ hk => World.putObj_heap_other (by omega)⟩
theorem KpS_refl (n₀ lo : Nat) (W : World) : KpS n₀ lo W W := ⟨Below.refl _ _, fun _ _ _ => rfl⟩
theorem KpS.cell {n₀ lo : Nat} {W W' : World} (h : KpS n₀ lo W W') {k : Nat} (h1 : lo ≤ k) (h2 : k < lo + 3) (o : Nat) : W'.cell? ⟨k, o, none⟩ = W.cell? ⟨k, o, none⟩ := by
  simp [World.cell?, h.2 k h1 h2]
set_option maxRecDepth 100000 in
set_option maxHeartbeats 2000000 in
/-- The iterator, for every loop body that keeps what lay below n₀ and the iterator's boxes. -/
theorem stand1_in (F : Fence) (n : Nat) (h7 : F.fn 31) (hro : F.round = none) (hn : 1 ≤ n) (l lo n₀ : Nat) (a : Option Addr) (len cap : Nat) (ns : List Nd) (hS : Szs ns) (p0 E : Nat) (hE : E ≤ ns.length) (J Jx : List Nat → World → Prop)
    (hY : ∀ pre x W, J pre W → pre.length < ns.length → YieldAt F (n - 1) Tryz.prog l #[.int .i64 ((x : Nat) : Int)] W fun e W' =>
      (e = .returned (.bool true) ∧ J (pre ++ [x]) W' ∧ KpS n₀ lo W W') ∨ (e = .returned (.bool false) ∧ Jx (pre ++ [x]) W'))
    (W : World) (hb0 : W.cell? ⟨lo, 0, none⟩ = some (.slice a len cap)) (hb1 : W.cell? ⟨lo + 1, 0, none⟩ = some (.int .i64 p0)) (hb2 : W.cell? ⟨lo + 2, 0, none⟩ = some (.int .i64 E)) (hN : Nds n₀ W (.slice a len cap) ns) (h0 : J [] W) :
    CallsIn F n Tryz.prog 31 #[.func (.yield l) #[] #[], .pointer (some ⟨lo + 1, 0, none⟩), .pointer (some ⟨lo + 2, 0, none⟩), .pointer (some ⟨lo, 0, none⟩)] W fun e W' => (∃ v, e = .returned v) ∧
      ((∃ ys, ys = kl ns E ns.length p0 ∧ J ys W') ∨ (∃ pre, pre <+: kl ns E ns.length p0 ∧ Jx pre W')) := by
  have hN' := hide hN
  obtain ⟨a', cap', e1, h1, ⟨h2, h2'⟩, h3, h4⟩ := hN
  cases e1
  clear h3 h4
  refine callsIn_of_wp Tryz.func31 rfl h7 ?_ hro
  simp only [Tryz.ntmps31, List.size_toArray, List.length_cons, List.length_nil, Nat.reduceAdd, Nat.reduceSub, Array.replicate_succ, Array.replicate_zero, List.push_toArray, List.append_toArray, List.nil_append, List.cons_append]
  gi_wp2
  gi_loopw [5] (fun j wr => ∃ (pre : List Nat) (k p : Nat), j = .int .i64 p ∧ Hid (kl ns E ns.length p0 = pre ++ kl ns E k p) ∧ Hid (E - p ≤ k) ∧ Hid (J pre wr) ∧ Hid (KpS n₀ lo W wr)) (fun j _ => E - (intOf j).toNat)
  case atStart => exact ⟨[], ns.length, p0, rfl, rfl, by simp only [Hid]; omega, h0, KpS_refl _ _ _⟩
  case round =>
    obtain ⟨pre, k, p, rfl, hpre, hk, hJ, hKp⟩ := hrel
    have hb2' : wr.cell? ⟨lo + 2, 0, none⟩ = some (.int .i64 E) := (hKp.out.cell (by omega) (by omega) 0).trans hb2
    by_cases hlt : p < E
    · have hpn : p < ns.length := by omega
      obtain ⟨k, rfl⟩ : ∃ k', k = k' + 1 := ⟨k - 1, by have := hk.out; omega⟩
      have hgo := hide (kl_go ns E k p hlt)
      have hlen : pre.length < ns.length := by
        have h5 := kl_length ns E ns.length p0
        have h6 := congrArg List.length hpre.out
        rw [hgo.out] at h6
        simp at h6
        omega
      have hs := hS p hpn
      obtain ⟨b, off, rfl, hb, -, -, -, c3, -⟩ := (hN'.out.below hKp.out.1).at_ hpn
      generalize (ns.getD p Nd.z).size = sz at *
      obtain ⟨z, rfl⟩ : ∃ z : Nat, sz = z := ⟨sz.toNat, by omega⟩
      obtain ⟨fn, tmps, assign, body, hy, hR⟩ := hY pre p wr hJ.out hlen
      replace hR := hide hR
      gi_wp2
      refine hR.out.mono ?_
      rintro e W3 (⟨rfl, hJ3, hk3⟩ | ⟨rfl, hJx3⟩)
      · have d0 : W3.cell? ⟨lo, 0, none⟩ = some (.slice (some ⟨b, off, none⟩) ns.length cap) := (hk3.cell (by omega) (by omega) 0).trans ((hKp.out.cell (by omega) (by omega) 0).trans hb0)
        have d3 : W3.cell? ⟨b, off + p * 5 + 3, none⟩ = some (.int .i64 z) := (hk3.1.cell (p := ⟨b, off + p * 5 + 3, none⟩) hb).trans c3
        replace hk3 := hide hk3
        replace hJ3 := hide hJ3
        gi_wp2
        go_roundw
        case rel => exact ⟨pre ++ [p], k, p + z, by simp, by rw [hpre.out, hgo.out]; simp [Hid], by have := hk.out; simp only [Hid]; omega, hJ3, KpS_t hKp.out hk3.out⟩
        case measure => simp [intOf]; omega
      · replace hJx3 := hide hJx3
        gi_wp2
        refine bodyPost_ret (results_none rfl _ _ _) rfl ?_
        exact ⟨⟨_, rfl⟩, .inr ⟨pre ++ [p], ⟨kl ns E k (p + z), by rw [hpre.out, hgo.out]; simp⟩, hJx3.out⟩⟩
    · have e1 := hide (kl_end ns E k p (by omega))
      have hfin : Hid (pre = kl ns E ns.length p0) := by rw [hpre.out, e1.out]; simp [Hid]
      gi_wp2
      go_end0
      exact ⟨⟨_, rfl⟩, .inl ⟨pre, hfin.out, hJ.out⟩⟩
end Go.Proofs.YtackibimlpkcmaaGreatDoor
/- ==== NodeForestP ==== -/
namespace Go.Proofs.YtackibimlpkcmaaGreatDoor
open Go.RowKit
set_option linter.unusedVariables false
theorem cell_alloc_keep {w : World} {p : Addr} {u : Value} (h : w.cell? p = some u) (hb : p.block < w.heap.size) (o : Obj) : (w.alloc o).cell? p = some u :=
  (((Below.refl w.heap.size w).alloc (Nat.le_refl _) o).cell hb).trans h
theorem belowN {B : Nat} {a w : World} (h : Below B a w) (n : Nat) : Below B a (w.drewN n) := ⟨h.os, h.tape, h.output, h.size, h.block⟩
theorem ownsN {w : World} {B : Nat} {e : TypeId} {size n : Nat} {v : Value} {xs : List Value} (h : w.ownsRow B e size v n xs) (k : Nat) : (w.drewN k).ownsRow B e size v n xs := h
theorem node_block (w : World) (e : TypeId) (k p f s t : Value) :
    (w.alloc (.cells #[k, p, f, s, t] e)).cell? ⟨w.heap.size, 0, none⟩ = some k ∧ (w.alloc (.cells #[k, p, f, s, t] e)).cell? ⟨w.heap.size, 3, none⟩ = some s ∧ (w.alloc (.cells #[k, p, f, s, t] e)).cell? ⟨w.heap.size, 4, none⟩ = some t := by
  have h : (w.alloc (.cells #[k, p, f, s, t] e)).heap[w.heap.size]? = some (.cells #[k, p, f, s, t] e (0, 0)) := by
    show (w.heap.push _)[w.heap.size]? = _
    rw [Array.getElem?_push_size]
  exact ⟨(cell_of_row _ _ 0 _ e (0, 0) h).trans rfl, (cell_of_row _ _ 3 _ e (0, 0) h).trans rfl, (cell_of_row _ _ 4 _ e (0, 0) h).trans rfl⟩
set_option maxRecDepth 100000 in
set_option maxHeartbeats 3200000 in
theorem forest_calls (w : World) (B : Nat) (v : Value) (ns : List Nd) (h : Nds B w v ns) (hB : B ≤ w.heap.size) :
    Calls Tryz.prog 15 #[v] w fun e w' => e = .returned (.bool (forestB ns)) ∧ Below w.heap.size w w' := by
  obtain ⟨i0, hi, hz0, hz1, hz2⟩ := info_parts ndInfoInt
  have hN := hide h
  obtain ⟨a, cap, rfl, h1, h2, h3, h4⟩ := h
  clear h3 h4
  have B1 : Hid (Below w.heap.size w (w.alloc (.cells #[.int .i64 ns.length] 3))) := (Below.refl _ w).alloc (Nat.le_refl _) _
  have O1 : Hid (OwnS (w.alloc (.cells #[.int .i64 ns.length] 3)) w.heap.size (.slice (some ⟨w.heap.size, 0, none⟩) 1 1) (stk [ns.length])) := World.ownsRow_lit w #[.int .i64 ns.length] 1 (Nat.le_refl _) (by unfold maxLen; omega) rfl
  go_enter Tryz.func15, Tryz.ntmps15
  go_wp2
  go_loopw [3, 11] (fun u j wr => ∃ (q : Nat) (S : List Nat), q ≤ ns.length ∧ j = .int .i64 q ∧ Hid (FoI ns q S) ∧ Hid (OwnS wr w.heap.size u (stk S)) ∧ Hid (Below w.heap.size w wr)) (fun _ j _ => ns.length - (intOf j).toNat)
  case atStart => exact ⟨0, [ns.length], Nat.zero_le _, rfl, FoI.start ns, O1, B1⟩
  case round =>
    obtain ⟨q, S, hq, rfl, hF, hO, hBw⟩ := hrel
    clear O1 B1
    by_cases hlt : q < ns.length
    · have hNw := hN.out.below (hBw.out.mono hB)
      obtain ⟨b, off, rfl, hb, c0, c1, c2, c3, c4⟩ := hNw.at_ hlt
      clear hNw
      obtain ⟨x, hx⟩ : ∃ x, ns.getD q Nd.z = x := ⟨_, rfl⟩
      rw [hx] at c0 c1 c2 c3 c4
      replace hx := hide hx
      have hBx := hBw.out.size
      have W2 : ∀ o, Hid (Below w.heap.size w (wr.alloc o)) := fun o => hBw.out.alloc hBx o
      have O2 : ∀ o, Hid (OwnS (wr.alloc o) w.heap.size u3 (stk S)) := fun o => World.ownsRow.alloc hO.out o
      go_wp2
      generalize hX : wr.alloc _ = X at *
      have BX : Hid (Below w.heap.size w X) := by rw [← hX]; exact (W2 _).out
      have OX : Hid (OwnS X w.heap.size u3 (stk S)) := by rw [← hX]; exact (O2 _).out
      have hn := node_block wr 42 (.int .i64 x.kind) (.int .i64 x.pos) (.int .i64 x.fin) (.int .i64 x.size) (.string x.text)
      rw [hX] at hn
      obtain ⟨d0, d3, d4⟩ := hn
      have hXs := BX.out.size
      have hXg : wr.heap.size < X.heap.size := by rw [← hX]; simp
      clear W2 O2 hO hX c0 c1 c2 c3 c4 hBw
      generalize wr.heap.size = n0 at *
      go_loopw [3] (fun u wr' => ∃ S, wr' = X ∧ Hid (FoI ns q S) ∧ Hid (OwnS X w.heap.size u (stk S))) (fun u _ => lenOf u)
      case atStart => exact ⟨S, rfl, hF, OX⟩
      case round =>
        clear hF OX
        obtain ⟨S, hwr, hF, hO⟩ := hrel
        subst hwr
        obtain ⟨top, T, rfl, htop⟩ := hF.out.top
        obtain ⟨g, cp, rfl, hc1, hc2, hg1, hg2, hcell, hpop⟩ := stack_top hO.out
        have hT := hF.out.2.2.2
        rw [List.length_cons] at hT
        have hwr2 : IntKind.i64.wrap ((T.length : Int) + 1 - 1) = (T.length : Int) := by rw [IntKind.wrap_i64]; omega
        have hwr3 : IntKind.i64.wrap (T.length : Int) = (T.length : Int) := by rw [IntKind.wrap_i64]; omega
        have hwr4 : IntKind.i64.wrap ((top : Int) - q) = (top : Int) - q := by rw [IntKind.wrap_i64]; omega
        have hwr5 : (0 : Int) ≤ (T.length : Int) := by omega
        have hwr6 : (T.length : Int) < (T.length : Int) + 1 := by omega
        by_cases htq : top = q
        · subst htq
          have hF2 := hide (hF.out.pop hlt)
          replace hpop := hide hpop
          go_wp2
          go_roundw
          case rel => exact ⟨T, trivial, hF2, hpop⟩
          case measure => simp [lenOf]
        · replace hpop := hide hpop
          have hOk : ∀ (x : Nd), x.ok q top ↔ (x.kind = 1 ∧ x.text.toList = [] ∧ 1 ≤ x.size ∧ x.size ≤ (top : Int) - q) ∨ (x.kind ≠ 1 ∧ 3 ≤ x.kind ∧ x.kind ≤ 10 ∧ x.size = 1) := fun x => Iff.rfl
          have hno : Hid (¬ (ns.getD q Nd.z).ok q top → forestB ns = false) := fun hk => hF.out.no hlt htq hk
          have A1 : Hid ((ns.getD q Nd.z).ok q top → (ns.getD q Nd.z).kind = 1 → FoI ns (q + 1) ((q + (ns.getD q Nd.z).size.toNat) :: top :: T)) := fun hk h1 => hF.out.list hlt htq hk h1
          have A2 : Hid ((ns.getD q Nd.z).ok q top → (ns.getD q Nd.z).kind ≠ 1 → FoI ns (q + 1) (top :: T)) := fun hk h1 => hF.out.atom hlt htq hk h1
          rw [hx.out, hOk] at hno A1 A2
          clear hx
          clear hOk
          have hO2 := hO.out
          unfold OwnS at hO2
          rw [stk_len, List.length_cons] at hO2
          replace hO2 := hide hO2
          generalize x.size = sz at *
          generalize x.kind = kd at *
          generalize x.text = tx at *
          by_cases hk1 : kd = 1
          · subst hk1
            by_cases ht : tx.toList = []
            · by_cases hs1 : sz < 1
              · have hs2 := hs1
                have e1 := hide (hno.out (by rintro (⟨h1, h2, h3, h4⟩ | ⟨h1, h2, h3, h4⟩) <;> omega))
                go_wp2
                go_quiet (fail)
                go_wp2
                go_ret
                exact ⟨congrArg (fun b => Ending.returned (.bool b)) e1.out.symm, belowN BX.out nq⟩
              by_cases hs3 : (top : Int) - q < sz
              · have hs2 := hs1
                have e1 := hide (hno.out (by rintro (⟨h1, h2, h3, h4⟩ | ⟨h1, h2, h3, h4⟩) <;> omega))
                go_wp2
                go_quiet (fail)
                go_wp2
                go_ret
                exact ⟨congrArg (fun b => Ending.returned (.bool b)) e1.out.symm, belowN BX.out nq⟩
              · have A4 := hide (A1.out (Or.inl ⟨rfl, ht, by omega, by omega⟩) rfl)
                obtain ⟨z, rfl⟩ : ∃ z : Nat, sz = z := ⟨sz.toNat, by omega⟩
                go_wp2
                go_quiet (fail)
                have OY : Hid ((wr.drewN nq).ownsRow w.heap.size 3 1 (.slice (some ⟨g, 0, none⟩) (T.length + 1) cp) (T.length + 1) ((stk (top :: T)).map (Value.int .i64))) := ownsN hO2.out nq
                have BY : Hid (Below w.heap.size w (wr.drewN nq)) := belowN BX.out nq
                have d3' : (wr.drewN nq).cell? ⟨n0, 3, none⟩ = some (.int .i64 z) := d3
                have hYs : Hid ((wr.drewN nq).heap.size = wr.heap.size) := rfl
                generalize wr.drewN nq = Y at *
                go_wp2_with (at_builtin; (refine wpList_append_own _ rfl _ _ 59 rfl w.heap.size 3 i0 (.int .i64 0) 1 8 ndSliceInt hi hz0 hz1 hz2 rfl (by decide) _ _ _ rfl (OY.out.alloc _) ⟨Y.heap.size, 0, none⟩ 1 1 [.int .i64 (q + z)] rfl rfl (cell_one_new _ _ _) (by simp [Value.oneCell']) (by unfold maxLen; omega) (by omega) (by have := hYs.out; simp; omega) ?_; intro v7 w7 hown7 hgrow7 _; replace hown7 := hide hown7; replace hgrow7 := hide hgrow7; have B7 : Hid (Below w.heap.size w w7) := (BY.out.alloc (by have := hYs.out; omega) _).grown hgrow7.out (by have := hYs.out; simp; omega) (fun g hg => ((OY.out.lt g hg).1))))
                go_roundw
                case rel => exact ⟨q + 1, _, by omega, by simp, A4.out, by rw [stk_cons]; exact OwnS.snoc (by rw [stk_len]; simpa using hown7.out), B7⟩
                case measure => simp [intOf]; omega
            · have e1 := hide (hno.out (by simp [ht]))
              have hte : tx.toList.isEmpty = false := by simp [ht]
              go_wp2
              go_quiet (fail)
              go_wp2
              go_ret
              exact ⟨congrArg (fun b => Ending.returned (.bool b)) e1.out.symm, belowN BX.out nq⟩
          · by_cases k3 : kd < 3
            · have k4 := k3
              have e1 := hide (hno.out (by rintro (⟨h1, h2, h3, h4⟩ | ⟨h1, h2, h3, h4⟩) <;> omega))
              go_wp2
              go_ret
              exact ⟨congrArg (fun b => Ending.returned (.bool b)) e1.out.symm, BX.out⟩
            by_cases k10 : 10 < kd
            · have k4 := k10
              have e1 := hide (hno.out (by rintro (⟨h1, h2, h3, h4⟩ | ⟨h1, h2, h3, h4⟩) <;> omega))
              go_wp2
              go_ret
              exact ⟨congrArg (fun b => Ending.returned (.bool b)) e1.out.symm, BX.out⟩
            by_cases hs : sz = 1
            · subst hs
              have A4 := hide (A2.out (Or.inr ⟨hk1, by omega, by omega, rfl⟩) hk1)
              go_wp2
              go_roundw
              case rel => exact ⟨q + 1, _, by omega, by simp, A4, hO, BX⟩
              case measure => simp [intOf]; omega
            · have k4 := k10
              have e1 := hide (hno.out (by rintro (⟨h1, h2, h3, h4⟩ | ⟨h1, h2, h3, h4⟩) <;> omega))
              go_wp2
              go_ret
              exact ⟨congrArg (fun b => Ending.returned (.bool b)) e1.out.symm, BX.out⟩
    · obtain rfl : q = ns.length := by omega
      have e1 := hide hF.out.fin
      go_wp2
      go_ret
      exact ⟨congrArg (fun b => Ending.returned (.bool b)) e1.out.symm, hBw.out⟩
end Go.Proofs.YtackibimlpkcmaaGreatDoor
