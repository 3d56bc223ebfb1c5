/- Laid together of: NodeStack, NodeStands. -/
import Derived.Test.YtackibimlpkcmaaDoorq5
import Derived.WalkSmall
import Derived.RangeFuncBox
import Derived.RangeFuncLeaves
import Derived.RangeFuncNested
import Derived.RangeFuncBound
import Derived.RangeFuncCalls
import Derived.Shelf.Abstract
import Derived.Shelf.RegionOpen
import Derived.OwnWalkIn
import Derived.TacticsInMore
import Derived.LoopNIn
import Derived.LoopIn
/- ==== NodeStack ==== -/
namespace Go.Proofs.YtackibimlpkcmaaDoor
open Go.RowKit
set_option linter.unusedVariables false
def lenOf : Value → Nat | .slice _ n _ => n | _ => 0
/-- The stack S (its top first) as it lies in memory. -/
def stk (S : List Nat) : List Int := (S.reverse).map (fun n : Nat => (n : Int))
theorem stk_len (S : List Nat) : (stk S).length = S.length := by simp [stk]
theorem stk_cons (a : Nat) (S : List Nat) : stk (a :: S) = stk S ++ [(a : Int)] := by simp [stk]
theorem stack_top {w : World} {B : Nat} {v : Value} {a : Nat} {T : List Nat} (h : OwnS w B v (stk (a :: T))) :
    ∃ g cap, v = .slice (some ⟨g, 0, none⟩) (T.length + 1) cap ∧ T.length + 1 ≤ cap ∧ cap ≤ 9223372036854775807 ∧ B ≤ g ∧ g < w.heap.size ∧
      w.cell? ⟨g, T.length, none⟩ = some (.int .i64 a) ∧ OwnS w B (.slice (some ⟨g, 0, none⟩) T.length cap) (stk T) := by
  have hr := h.row
  unfold OwnS at h
  rw [stk_len, List.length_cons] at h
  have h' := h
  obtain ⟨h1, h2⟩ := h
  rcases h2 with ⟨_, h0⟩ | ⟨g, cap, cur, rfl, hB, hg, hn, hm, hs, ht⟩
  · omega
  · refine ⟨g, cap, rfl, hn, by unfold maxLen at hm; omega, hB, (Array.getElem?_eq_some_iff.1 hg).1, ?_, ?_⟩
    · obtain ⟨ao, c, e, _, _, hc⟩ := hr
      rw [stk_len, List.length_cons] at e
      cases e
      obtain ⟨b, off, e, _, hc⟩ := hc (by rw [stk_cons]; simp)
      cases e
      have := hc T.length (by rw [stk_len, List.length_cons]; omega)
      rw [Nat.zero_add] at this
      rw [this, stk_cons]
      have e2 : (stk T ++ [(a : Int)]).getD T.length 0 = a := by
        rw [List.getD_eq_getElem?_getD, List.getElem?_append_right (by rw [stk_len]; exact Nat.le_refl _), stk_len]
        simp
      rw [e2]
    · rw [stk_cons, List.map_append] at h'
      have := ownsRow_pop (by rw [List.length_map, stk_len]; simp) h'
      unfold OwnS
      rw [stk_len]
      exact this
theorem ownsRow_below {w w' : World} {B : Nat} {e : TypeId} {size n : Nat} {v : Value} {xs : List Value} (h : w.ownsRow B e size v n xs) (b : Below w.heap.size w w') : w'.ownsRow B e size v n xs := by
  obtain ⟨h1, h2⟩ := h
  refine ⟨h1, ?_⟩
  rcases h2 with h2 | ⟨g, cap, cur, hv, hB, hg, hr⟩
  · exact .inl h2
  · exact .inr ⟨g, cap, cur, hv, hB, (b.block g (Array.getElem?_eq_some_iff.1 hg).1).trans hg, hr⟩
theorem OwnS.belowS {w w' : World} {B : Nat} {v : Value} {xs : List Int} (h : OwnS w B v xs) (b : Below w.heap.size w w') : OwnS w' B v xs := ownsRow_below h b
theorem thenB {B : Nat} {a w w' : World} (h : Below B a w) (b : Below w.heap.size w w') (hB : B ≤ w.heap.size) : Below B a w' := h.trans (b.mono hB)
theorem nd_drop_cons {ns : List Nd} {q : Nat} (h : q < ns.length) : ns.drop q = ns.getD q Nd.z :: ns.drop (q + 1) := by
  rw [List.drop_eq_getElem_cons h, List.getD_eq_getElem?_getD, List.getElem?_eq_getElem h]
  rfl
/-- What is known between two nodes. -/
def FoI (ns : List Nd) (q : Nat) (S : List Nat) : Prop :=
  fo (ns.drop q) q S = forestB ns ∧ (∀ e ∈ S, e ≤ ns.length) ∧ S.getLast? = some ns.length ∧ S.length ≤ q + 1
theorem FoI.start (ns : List Nd) : FoI ns 0 [ns.length] := ⟨rfl, by simp, rfl, by simp⟩
theorem FoI.fin {ns : List Nd} {S : List Nat} (h : FoI ns ns.length S) : forestB ns = true := by
  rw [← h.1, List.drop_length]; rfl
theorem FoI.top {ns : List Nd} {q : Nat} {S : List Nat} (h : FoI ns q S) : ∃ a T, S = a :: T ∧ a ≤ ns.length := by
  cases S with
  | nil => have := h.2.2.1; simp at this
  | cons a T => exact ⟨a, T, rfl, h.2.1 a (by simp)⟩
theorem FoI.pop {ns : List Nd} {q : Nat} {T : List Nat} (h : FoI ns q (q :: T)) (hq : q < ns.length) : FoI ns q T := by
  obtain ⟨h1, h2, h3, h4⟩ := h
  refine ⟨by rw [← h1, fo_pop], fun e he => h2 e (by simp [he]), ?_, by simp at h4; omega⟩
  cases T with
  | nil => simp at h3; omega
  | cons b T => rw [List.getLast?_cons_cons] at h3; exact h3
theorem FoI.no {ns : List Nd} {q a : Nat} {T : List Nat} (h : FoI ns q (a :: T)) (hq : q < ns.length) (ha : a ≠ q) (hk : ¬ (ns.getD q Nd.z).ok q a) : forestB ns = false := by
  rw [← h.1, nd_drop_cons hq, fo_no ha hk]
theorem FoI.list {ns : List Nd} {q a : Nat} {T : List Nat} (h : FoI ns q (a :: T)) (hq : q < ns.length) (ha : a ≠ q) (hk : (ns.getD q Nd.z).ok q a) (h1 : (ns.getD q Nd.z).kind = 1) :
    FoI ns (q + 1) ((q + (ns.getD q Nd.z).size.toNat) :: a :: T) := by
  obtain ⟨g1, g2, g3, g4⟩ := h
  have hs : 1 ≤ (ns.getD q Nd.z).size ∧ (ns.getD q Nd.z).size ≤ a - q := by
    rcases hk with ⟨_, _, h2, h3⟩ | ⟨h2, _⟩
    · exact ⟨h2, h3⟩
    · exact absurd h1 h2
  have ha2 := g2 a (by simp)
  refine ⟨by rw [← g1, nd_drop_cons hq, fo_open ha hk h1], ?_, by rw [List.getLast?_cons_cons]; exact g3, by simp only [List.length_cons] at g4 ⊢; omega⟩
  intro e he
  rcases List.mem_cons.1 he with rfl | he
  · omega
  · exact g2 e he
theorem FoI.atom {ns : List Nd} {q a : Nat} {T : List Nat} (h : FoI ns q (a :: T)) (hq : q < ns.length) (ha : a ≠ q) (hk : (ns.getD q Nd.z).ok q a) (h1 : (ns.getD q Nd.z).kind ≠ 1) :
    FoI ns (q + 1) (a :: T) := by
  obtain ⟨g1, g2, g3, g4⟩ := h
  exact ⟨by rw [← g1, nd_drop_cons hq, fo_atom ha hk h1], g2, g3, by omega⟩
theorem FoI.one {ns : List Nd} {q a : Nat} {T : List Nat} (h : FoI ns q (a :: T)) (hq : q < ns.length) (ha : a ≠ q) (hk : (ns.getD q Nd.z).ok q a) (h1 : (ns.getD q Nd.z).kind = 1) (h2 : (ns.getD q Nd.z).size = 1) :
    FoI ns (q + 1) (a :: T) := by
  have h3 := h.list hq ha hk h1
  obtain ⟨g1, g2, g3, g4⟩ := h
  obtain ⟨k1, k2, k3, k4⟩ := h3
  refine ⟨?_, g2, g3, by omega⟩
  rw [h2] at k1
  exact (fo_pop _ _ _).symm.trans k1
theorem ok_size {x : Nd} {q a : Nat} (h : x.ok q a) (ha : a ≠ q) : 1 ≤ x.size ∧ (x.kind = 1 → x.size ≤ (a : Int) - q) ∧ (x.kind ≠ 1 → x.size = 1) := by
  rcases h with ⟨h1, _, h2, h3⟩ | ⟨h1, _, _, h2⟩
  · exact ⟨h2, fun _ => h3, fun h => absurd h1 h⟩
  · exact ⟨by omega, fun h => absurd h h1, fun _ => h2⟩
end Go.Proofs.YtackibimlpkcmaaDoor
/- ==== NodeStands ==== -/
namespace Go.Proofs.YtackibimlpkcmaaDoor
open Go.RowKit Go.Shelf
set_option linter.unusedVariables false
attribute [local go_sem] Oper.semAt_some
set_option maxHeartbeats 1000000 in
theorem standing_in (F : Fence) (n : Nat) (h5 : F.fn 36) (hro : F.round = none) (a : Option Addr) (len cap : Nat) (p e : Int) (w : World) :
    CallsIn F n Tryd.prog 36 #[.slice a len cap, .int .i64 p, .int .i64 e] w fun r w' =>
      r = .returned (.func (.func 56) #[] #[.pointer (some ⟨w.heap.size + 1, 0, none⟩), .pointer (some ⟨w.heap.size + 2, 0, none⟩), .pointer (some ⟨w.heap.size, 0, none⟩)]) ∧
      w' = ((w.alloc (.cells #[.slice a len cap] 44)).alloc (.cells #[.int .i64 p] 3)).alloc (.cells #[.int .i64 e] 3) := by
  refine callsIn_of_wp Tryd.func36 rfl h5 ?_ hro
  simp only [Tryd.ntmps36, List.size_toArray, List.length_cons, List.length_nil, Nat.reduceAdd, Nat.reduceSub, Array.replicate_succ, Array.replicate_zero, List.push_toArray, List.append_toArray, List.nil_append, List.cons_append]
  gi_wp2
  go_ret
  exact ⟨rfl, rfl⟩
/-- What a round must keep: all below n₀, and the three boxes of the iterator. -/
def KpS (n₀ lo : Nat) (W W' : World) : Prop := Below n₀ W W' ∧ ∀ k, lo ≤ k → k < lo + 3 → W'.heap[k]? = W.heap[k]?
theorem KpS_t {n₀ lo : Nat} {A B C : World} (h : KpS n₀ lo A B) (k : KpS n₀ lo B C) : KpS n₀ lo A C := ⟨h.1.trans k.1, fun j h1 h2 => (k.2 j h1 h2).trans (h.2 j h1 h2)⟩
theorem KpS_b {n₀ lo : Nat} {w : World} (hn : n₀ ≤ w.heap.size) (hl : lo + 3 ≤ w.heap.size) (W : World) (l : Nat) (o o' : Obj) (h1 : w.heap.size ≤ l) (h2 : W.heap[l]? = some o) (h3 : o.isCells = false) (h4 : o.isWalk = false) : KpS n₀ lo W (W.putObj l o') :=
  ⟨belowK_b hn W l o o' h1 h2 h3 h4, fun k _ hk => World.putObj_heap_other (by omega)⟩
theorem KpS_refl (n₀ lo : Nat) (W : World) : KpS n₀ lo W W := ⟨Below.refl _ _, fun _ _ _ => rfl⟩
theorem KpS.cell {n₀ lo : Nat} {W W' : World} (h : KpS n₀ lo W W') {k : Nat} (h1 : lo ≤ k) (h2 : k < lo + 3) (o : Nat) : W'.cell? ⟨k, o, none⟩ = W.cell? ⟨k, o, none⟩ := by
  simp [World.cell?, h.2 k h1 h2]
set_option maxRecDepth 100000 in
set_option maxHeartbeats 2000000 in
/-- The iterator, for every loop body that keeps what lay below n₀ and the iterator's boxes. -/
theorem stand1_in (F : Fence) (n : Nat) (h7 : F.fn 56) (hro : F.round = none) (hn : 1 ≤ n) (l lo n₀ : Nat) (a : Option Addr) (len cap : Nat) (ns : List Nd) (hS : Szs ns) (p0 E : Nat) (hE : E ≤ ns.length) (J Jx : List Nat → World → Prop)
    (hY : ∀ pre x W, J pre W → pre.length < ns.length → YieldAt F (n - 1) Tryd.prog l #[.int .i64 ((x : Nat) : Int)] W fun e W' =>
      (e = .returned (.bool true) ∧ J (pre ++ [x]) W' ∧ KpS n₀ lo W W') ∨ (e = .returned (.bool false) ∧ Jx (pre ++ [x]) W'))
    (W : World) (hb0 : W.cell? ⟨lo, 0, none⟩ = some (.slice a len cap)) (hb1 : W.cell? ⟨lo + 1, 0, none⟩ = some (.int .i64 p0)) (hb2 : W.cell? ⟨lo + 2, 0, none⟩ = some (.int .i64 E)) (hN : Nds n₀ W (.slice a len cap) ns) (h0 : J [] W) :
    CallsIn F n Tryd.prog 56 #[.func (.yield l) #[] #[], .pointer (some ⟨lo + 1, 0, none⟩), .pointer (some ⟨lo + 2, 0, none⟩), .pointer (some ⟨lo, 0, none⟩)] W fun e W' => (∃ v, e = .returned v) ∧
      ((∃ ys, ys = kl ns E ns.length p0 ∧ J ys W') ∨ (∃ pre, pre <+: kl ns E ns.length p0 ∧ Jx pre W')) := by
  have hN' := hide hN
  obtain ⟨a', cap', e1, h1, ⟨h2, h2'⟩, h3, h4⟩ := hN
  cases e1
  clear h3 h4
  refine callsIn_of_wp Tryd.func56 rfl h7 ?_ hro
  simp only [Tryd.ntmps56, List.size_toArray, List.length_cons, List.length_nil, Nat.reduceAdd, Nat.reduceSub, Array.replicate_succ, Array.replicate_zero, List.push_toArray, List.append_toArray, List.nil_append, List.cons_append]
  gi_wp2
  gi_loopw [5] (fun j wr => ∃ (pre : List Nat) (k p : Nat), j = .int .i64 p ∧ Hid (kl ns E ns.length p0 = pre ++ kl ns E k p) ∧ Hid (E - p ≤ k) ∧ Hid (J pre wr) ∧ Hid (KpS n₀ lo W wr)) (fun j _ => E - (intOf j).toNat)
  case atStart => exact ⟨[], ns.length, p0, rfl, rfl, by simp only [Hid]; omega, h0, KpS_refl _ _ _⟩
  case round =>
    obtain ⟨pre, k, p, rfl, hpre, hk, hJ, hKp⟩ := hrel
    have hb2' : wr.cell? ⟨lo + 2, 0, none⟩ = some (.int .i64 E) := (hKp.out.cell (by omega) (by omega) 0).trans hb2
    by_cases hlt : p < E
    · have hpn : p < ns.length := by omega
      obtain ⟨k, rfl⟩ : ∃ k', k = k' + 1 := ⟨k - 1, by have := hk.out; omega⟩
      have hgo := hide (kl_go ns E k p hlt)
      have hlen : pre.length < ns.length := by
        have h5 := kl_length ns E ns.length p0
        have h6 := congrArg List.length hpre.out
        rw [hgo.out] at h6
        simp at h6
        omega
      have hs := hS p hpn
      obtain ⟨b, off, rfl, hb, -, -, -, c3, -⟩ := (hN'.out.below hKp.out.1).at_ hpn
      generalize (ns.getD p Nd.z).size = sz at *
      obtain ⟨z, rfl⟩ : ∃ z : Nat, sz = z := ⟨sz.toNat, by omega⟩
      obtain ⟨fn, tmps, assign, body, hy, hR⟩ := hY pre p wr hJ.out hlen
      replace hR := hide hR
      gi_wp2
      refine hR.out.mono ?_
      rintro e W3 (⟨rfl, hJ3, hk3⟩ | ⟨rfl, hJx3⟩)
      · have d0 : W3.cell? ⟨lo, 0, none⟩ = some (.slice (some ⟨b, off, none⟩) ns.length cap) := (hk3.cell (by omega) (by omega) 0).trans ((hKp.out.cell (by omega) (by omega) 0).trans hb0)
        have d3 : W3.cell? ⟨b, off + p * 5 + 3, none⟩ = some (.int .i64 z) := (hk3.1.cell (p := ⟨b, off + p * 5 + 3, none⟩) hb).trans c3
        replace hk3 := hide hk3
        replace hJ3 := hide hJ3
        gi_wp2
        go_roundw
        case rel => exact ⟨pre ++ [p], k, p + z, by simp, by rw [hpre.out, hgo.out]; simp [Hid], by have := hk.out; simp only [Hid]; omega, hJ3, KpS_t hKp.out hk3.out⟩
        case measure => simp [intOf]; omega
      · replace hJx3 := hide hJx3
        gi_wp2
        refine bodyPost_ret (results_none rfl _ _ _) rfl ?_
        exact ⟨⟨_, rfl⟩, .inr ⟨pre ++ [p], ⟨kl ns E k (p + z), by rw [hpre.out, hgo.out]; simp⟩, hJx3.out⟩⟩
    · have e1 := hide (kl_end ns E k p (by omega))
      have hfin : Hid (pre = kl ns E ns.length p0) := by rw [hpre.out, e1.out]; simp [Hid]
      gi_wp2
      go_end0
      exact ⟨⟨_, rfl⟩, .inl ⟨pre, hfin.out, hJ.out⟩⟩
end Go.Proofs.YtackibimlpkcmaaDoor
