/- Laid together of: NodeForestP, NodeKids. -/
import Derived.Test.YtackibimlpkcmaaDoorq6
import Derived.Laws.OwnMore
import Derived.Maps.AppendAt
import Derived.Deep.Onto
/- ==== NodeForestP ==== -/
namespace Go.Proofs.YtackibimlpkcmaaDoor
open Go.RowKit
set_option linter.unusedVariables false
theorem cell_alloc_keep {w : World} {p : Addr} {u : Value} (h : w.cell? p = some u) (hb : p.block < w.heap.size) (o : Obj) : (w.alloc o).cell? p = some u :=
  (((Below.refl w.heap.size w).alloc (Nat.le_refl _) o).cell hb).trans h
theorem belowN {B : Nat} {a w : World} (h : Below B a w) (n : Nat) : Below B a (w.drewN n) := ⟨h.os, h.tape, h.output, h.size, h.block⟩
theorem ownsN {w : World} {B : Nat} {e : TypeId} {size n : Nat} {v : Value} {xs : List Value} (h : w.ownsRow B e size v n xs) (k : Nat) : (w.drewN k).ownsRow B e size v n xs := h
theorem node_block (w : World) (e : TypeId) (k p f s t : Value) :
    (w.alloc (.cells #[k, p, f, s, t] e)).cell? ⟨w.heap.size, 0, none⟩ = some k ∧ (w.alloc (.cells #[k, p, f, s, t] e)).cell? ⟨w.heap.size, 3, none⟩ = some s ∧ (w.alloc (.cells #[k, p, f, s, t] e)).cell? ⟨w.heap.size, 4, none⟩ = some t := by
  have h : (w.alloc (.cells #[k, p, f, s, t] e)).heap[w.heap.size]? = some (.cells #[k, p, f, s, t] e (0, 0)) := by
    show (w.heap.push _)[w.heap.size]? = _
    rw [Array.getElem?_push_size]
  exact ⟨(cell_of_row _ _ 0 _ e (0, 0) h).trans rfl, (cell_of_row _ _ 3 _ e (0, 0) h).trans rfl, (cell_of_row _ _ 4 _ e (0, 0) h).trans rfl⟩
set_option maxRecDepth 100000 in
set_option maxHeartbeats 3200000 in
theorem forest_calls (w : World) (B : Nat) (v : Value) (ns : List Nd) (h : Nds B w v ns) (hB : B ≤ w.heap.size) :
    Calls Tryd.prog 35 #[v] w fun e w' => e = .returned (.bool (forestB ns)) ∧ Below w.heap.size w w' := by
  obtain ⟨i0, hi, hz0, hz1, hz2⟩ := info_parts ndInfoInt
  have hN := hide h
  obtain ⟨a, cap, rfl, h1, h2, h3, h4⟩ := h
  clear h3 h4
  have B1 : Hid (Below w.heap.size w (w.alloc (.cells #[.int .i64 ns.length] 3))) := (Below.refl _ w).alloc (Nat.le_refl _) _
  have O1 : Hid (OwnS (w.alloc (.cells #[.int .i64 ns.length] 3)) w.heap.size (.slice (some ⟨w.heap.size, 0, none⟩) 1 1) (stk [ns.length])) := World.ownsRow_lit w #[.int .i64 ns.length] 1 (Nat.le_refl _) (by unfold maxLen; omega) rfl
  go_enter Tryd.func35, Tryd.ntmps35
  go_wp2
  go_loopw [3, 11] (fun u j wr => ∃ (q : Nat) (S : List Nat), q ≤ ns.length ∧ j = .int .i64 q ∧ Hid (FoI ns q S) ∧ Hid (OwnS wr w.heap.size u (stk S)) ∧ Hid (Below w.heap.size w wr)) (fun _ j _ => ns.length - (intOf j).toNat)
  case atStart => exact ⟨0, [ns.length], Nat.zero_le _, rfl, FoI.start ns, O1, B1⟩
  case round =>
    obtain ⟨q, S, hq, rfl, hF, hO, hBw⟩ := hrel
    clear O1 B1
    by_cases hlt : q < ns.length
    · have hNw := hN.out.below (hBw.out.mono hB)
      obtain ⟨b, off, rfl, hb, c0, c1, c2, c3, c4⟩ := hNw.at_ hlt
      clear hNw
      obtain ⟨x, hx⟩ : ∃ x, ns.getD q Nd.z = x := ⟨_, rfl⟩
      rw [hx] at c0 c1 c2 c3 c4
      replace hx := hide hx
      have hBx := hBw.out.size
      have W2 : ∀ o, Hid (Below w.heap.size w (wr.alloc o)) := fun o => hBw.out.alloc hBx o
      have O2 : ∀ o, Hid (OwnS (wr.alloc o) w.heap.size u3 (stk S)) := fun o => World.ownsRow.alloc hO.out o
      go_wp2
      generalize hX : wr.alloc _ = X at *
      have BX : Hid (Below w.heap.size w X) := by rw [← hX]; exact (W2 _).out
      have OX : Hid (OwnS X w.heap.size u3 (stk S)) := by rw [← hX]; exact (O2 _).out
      have hn := node_block wr 51 (.int .i64 x.kind) (.int .i64 x.pos) (.int .i64 x.fin) (.int .i64 x.size) (.string x.text)
      rw [hX] at hn
      obtain ⟨d0, d3, d4⟩ := hn
      have hXs := BX.out.size
      have hXg : wr.heap.size < X.heap.size := by rw [← hX]; simp
      clear W2 O2 hO hX c0 c1 c2 c3 c4 hBw
      generalize wr.heap.size = n0 at *
      go_loopw [3] (fun u wr' => ∃ S, wr' = X ∧ Hid (FoI ns q S) ∧ Hid (OwnS X w.heap.size u (stk S))) (fun u _ => lenOf u)
      case atStart => exact ⟨S, rfl, hF, OX⟩
      case round =>
        clear hF OX
        obtain ⟨S, hwr, hF, hO⟩ := hrel
        subst hwr
        obtain ⟨top, T, rfl, htop⟩ := hF.out.top
        obtain ⟨g, cp, rfl, hc1, hc2, hg1, hg2, hcell, hpop⟩ := stack_top hO.out
        have hT := hF.out.2.2.2
        rw [List.length_cons] at hT
        have hwr2 : IntKind.i64.wrap ((T.length : Int) + 1 - 1) = (T.length : Int) := by rw [IntKind.wrap_i64]; omega
        have hwr3 : IntKind.i64.wrap (T.length : Int) = (T.length : Int) := by rw [IntKind.wrap_i64]; omega
        have hwr4 : IntKind.i64.wrap ((top : Int) - q) = (top : Int) - q := by rw [IntKind.wrap_i64]; omega
        have hwr5 : (0 : Int) ≤ (T.length : Int) := by omega
        have hwr6 : (T.length : Int) < (T.length : Int) + 1 := by omega
        by_cases htq : top = q
        · subst htq
          have hF2 := hide (hF.out.pop hlt)
          replace hpop := hide hpop
          go_wp2
          go_roundw
          case rel => exact ⟨T, trivial, hF2, hpop⟩
          case measure => simp [lenOf]
        · replace hpop := hide hpop
          have hOk : ∀ (x : Nd), x.ok q top ↔ (x.kind = 1 ∧ x.text.toList = [] ∧ 1 ≤ x.size ∧ x.size ≤ (top : Int) - q) ∨ (x.kind ≠ 1 ∧ 3 ≤ x.kind ∧ x.kind ≤ 10 ∧ x.size = 1) := fun x => Iff.rfl
          have hno : Hid (¬ (ns.getD q Nd.z).ok q top → forestB ns = false) := fun hk => hF.out.no hlt htq hk
          have A1 : Hid ((ns.getD q Nd.z).ok q top → (ns.getD q Nd.z).kind = 1 → FoI ns (q + 1) ((q + (ns.getD q Nd.z).size.toNat) :: top :: T)) := fun hk h1 => hF.out.list hlt htq hk h1
          have A2 : Hid ((ns.getD q Nd.z).ok q top → (ns.getD q Nd.z).kind ≠ 1 → FoI ns (q + 1) (top :: T)) := fun hk h1 => hF.out.atom hlt htq hk h1
          rw [hx.out, hOk] at hno A1 A2
          clear hx
          clear hOk
          have hO2 := hO.out
          unfold OwnS at hO2
          rw [stk_len, List.length_cons] at hO2
          replace hO2 := hide hO2
          generalize x.size = sz at *
          generalize x.kind = kd at *
          generalize x.text = tx at *
          by_cases hk1 : kd = 1
          · subst hk1
            by_cases ht : tx.toList = []
            · by_cases hs1 : sz < 1
              · have hs2 := hs1
                have e1 := hide (hno.out (by rintro (⟨h1, h2, h3, h4⟩ | ⟨h1, h2, h3, h4⟩) <;> omega))
                go_wp2
                go_quiet (fail)
                go_wp2
                go_ret
                exact ⟨congrArg (fun b => Ending.returned (.bool b)) e1.out.symm, belowN BX.out nq⟩
              by_cases hs3 : (top : Int) - q < sz
              · have hs2 := hs1
                have e1 := hide (hno.out (by rintro (⟨h1, h2, h3, h4⟩ | ⟨h1, h2, h3, h4⟩) <;> omega))
                go_wp2
                go_quiet (fail)
                go_wp2
                go_ret
                exact ⟨congrArg (fun b => Ending.returned (.bool b)) e1.out.symm, belowN BX.out nq⟩
              · have A4 := hide (A1.out (Or.inl ⟨rfl, ht, by omega, by omega⟩) rfl)
                obtain ⟨z, rfl⟩ : ∃ z : Nat, sz = z := ⟨sz.toNat, by omega⟩
                go_wp2
                go_quiet (fail)
                have OY : Hid ((wr.drewN nq).ownsRow w.heap.size 3 1 (.slice (some ⟨g, 0, none⟩) (T.length + 1) cp) (T.length + 1) ((stk (top :: T)).map (Value.int .i64))) := ownsN hO2.out nq
                have BY : Hid (Below w.heap.size w (wr.drewN nq)) := belowN BX.out nq
                have d3' : (wr.drewN nq).cell? ⟨n0, 3, none⟩ = some (.int .i64 z) := d3
                have hYs : Hid ((wr.drewN nq).heap.size = wr.heap.size) := rfl
                generalize wr.drewN nq = Y at *
                go_wp2_with (at_builtin; (refine wpList_append_own _ rfl _ _ 53 rfl w.heap.size 3 i0 (.int .i64 0) 1 8 ndSliceInt hi hz0 hz1 hz2 rfl (by decide) _ _ _ rfl (OY.out.alloc _) ⟨Y.heap.size, 0, none⟩ 1 1 [.int .i64 (q + z)] rfl rfl (cell_one_new _ _ _) (by simp [Value.oneCell']) (by unfold maxLen; omega) (by omega) (by have := hYs.out; simp; omega) ?_; intro v7 w7 hown7 hgrow7 _; replace hown7 := hide hown7; replace hgrow7 := hide hgrow7; have B7 : Hid (Below w.heap.size w w7) := (BY.out.alloc (by have := hYs.out; omega) _).grown hgrow7.out (by have := hYs.out; simp; omega) (fun g hg => ((OY.out.lt g hg).1))))
                go_roundw
                case rel => exact ⟨q + 1, _, by omega, by simp, A4.out, by rw [stk_cons]; exact OwnS.snoc (by rw [stk_len]; simpa using hown7.out), B7⟩
                case measure => simp [intOf]; omega
            · have e1 := hide (hno.out (by simp [ht]))
              have hte : tx.toList.isEmpty = false := by simp [ht]
              go_wp2
              go_quiet (fail)
              go_wp2
              go_ret
              exact ⟨congrArg (fun b => Ending.returned (.bool b)) e1.out.symm, belowN BX.out nq⟩
          · by_cases k3 : kd < 3
            · have k4 := k3
              have e1 := hide (hno.out (by rintro (⟨h1, h2, h3, h4⟩ | ⟨h1, h2, h3, h4⟩) <;> omega))
              go_wp2
              go_ret
              exact ⟨congrArg (fun b => Ending.returned (.bool b)) e1.out.symm, BX.out⟩
            by_cases k10 : 10 < kd
            · have k4 := k10
              have e1 := hide (hno.out (by rintro (⟨h1, h2, h3, h4⟩ | ⟨h1, h2, h3, h4⟩) <;> omega))
              go_wp2
              go_ret
              exact ⟨congrArg (fun b => Ending.returned (.bool b)) e1.out.symm, BX.out⟩
            by_cases hs : sz = 1
            · subst hs
              have A4 := hide (A2.out (Or.inr ⟨hk1, by omega, by omega, rfl⟩) hk1)
              go_wp2
              go_roundw
              case rel => exact ⟨q + 1, _, by omega, by simp, A4, hO, BX⟩
              case measure => simp [intOf]; omega
            · have k4 := k10
              have e1 := hide (hno.out (by rintro (⟨h1, h2, h3, h4⟩ | ⟨h1, h2, h3, h4⟩) <;> omega))
              go_wp2
              go_ret
              exact ⟨congrArg (fun b => Ending.returned (.bool b)) e1.out.symm, BX.out⟩
    · obtain rfl : q = ns.length := by omega
      have e1 := hide hF.out.fin
      go_wp2
      go_ret
      exact ⟨congrArg (fun b => Ending.returned (.bool b)) e1.out.symm, hBw.out⟩
end Go.Proofs.YtackibimlpkcmaaDoor
/- ==== NodeKids ==== -/
namespace Go.Proofs.YtackibimlpkcmaaDoor
open Go.RowKit Go.Shelf
set_option linter.unusedVariables false
attribute [local go_sem] Oper.semAt_some
theorem stand_stops (F : Fence) (n : Nat) (h7 : F.fn 56) (hro : F.round = none) (hn : 1 ≤ n) (lo n₀ : Nat) (a : Option Addr) (len cap : Nat) (ns : List Nd) (hS : Szs ns) (p0 E : Nat) (hE : E ≤ ns.length)
    (w : World) (hlo : lo + 3 ≤ w.heap.size) (hn0 : n₀ ≤ w.heap.size) (hb0 : w.cell? ⟨lo, 0, none⟩ = some (.slice a len cap)) (hb1 : w.cell? ⟨lo + 1, 0, none⟩ = some (.int .i64 p0)) (hb2 : w.cell? ⟨lo + 2, 0, none⟩ = some (.int .i64 E)) (hN : Nds n₀ w (.slice a len cap) ns) :
    SeqStopsK F n Tryd.prog 56 #[.pointer (some ⟨lo + 1, 0, none⟩), .pointer (some ⟨lo + 2, 0, none⟩), .pointer (some ⟨lo, 0, none⟩)] (fun x : Nat => #[Value.int .i64 (x : Int)]) (KpS n₀ lo) (fun ys => ys = kl ns E ns.length p0) (fun pre => pre <+: kl ns E ns.length p0) ns.length w := fun l J Jx W hW _ _ hY h0 =>
  stand1_in F n h7 hro hn l lo n₀ a len cap ns hS p0 E hE J Jx hY W ((hW.cell (p := ⟨lo, 0, none⟩) (by simp; omega)).trans hb0) ((hW.cell (p := ⟨lo + 1, 0, none⟩) (by simp; omega)).trans hb1) ((hW.cell (p := ⟨lo + 2, 0, none⟩) (by simp; omega)).trans hb2) (hN.below (hW.mono hn0)) h0
theorem appendedK {W w1 : World} {n₀ B lo base : Nat} {t e : TypeId} {size : Nat} {v v' : Value} {k m : Nat} {xs ys : List Value} {tmp : Obj}
    (hv : Boxed W B t v) (hte : t ≠ e) (hrow : W.ownsRow base e size v k xs) (hn₀ : n₀ ≤ W.heap.size) (hB : n₀ ≤ B) (hBl : B < lo) (hlb : lo + 3 ≤ base) (hlW : lo + 3 ≤ W.heap.size)
    (hown' : w1.ownsRow base e size v' m ys) (hgrow : (W.alloc tmp).grownBy w1 v.ownBlock) :
    Boxed w1 B t v ∧ Boxed (w1.setCell ⟨B, 0, none⟩ v') B t v' ∧ (w1.setCell ⟨B, 0, none⟩ v').ownsRow base e size v' m ys ∧ KeepsOthers W (w1.setCell ⟨B, 0, none⟩ v') ∧ KpS n₀ lo W (w1.setCell ⟨B, 0, none⟩ v') := by
  obtain ⟨h1, h2, h3, h4, h5⟩ := hv.appended hte (hrow.mono (by omega)) hn₀ hB (hown'.mono (by omega)) hgrow
  refine ⟨h1, h2, hown'.kept (grownBy_setCell' w1 B v') (.inr (h1.not_row hte hown').symm), h4, h5, fun j hj1 hj2 => ?_⟩
  have e1 : (w1.setCell ⟨B, 0, none⟩ v').heap[j]? = w1.heap[j]? := Below.heap_setCell _ _ _ j (by simp; omega)
  have e2 : w1.heap[j]? = (W.alloc tmp).heap[j]? := hgrow.block j (by simp; omega) (fun e => by have := (hrow.lt j e.symm).1; omega)
  rw [e1, e2]
  exact Below.heap_alloc _ _ _ (by omega)
/-- What Kids answers. -/
def kidsC (ns : List Nd) (i : Int) : Int := if forestB ns = true then (if -1 ≤ i ∧ i < ns.length then 0 else 30) else 22
def kidsX (ns : List Nd) (i : Int) : List Int := if forestB ns = true ∧ (-1 ≤ i ∧ i < ns.length) then (kidsL ns i).map (fun n : Nat => (n : Int)) else []
theorem rowI_nil (w : World) : RowI w (.slice none 0 0) [] := ⟨none, 0, rfl, by simp, by decide, fun h => absurd rfl h⟩
set_option maxRecDepth 100000 in
set_option maxHeartbeats 2000000 in
theorem kids_calls (w : World) (B : Nat) (v : Value) (ns : List Nd) (h : Nds B w v ns) (hB : B ≤ w.heap.size) (i : Int) :
    Calls Tryd.prog 18 #[v, .int .i64 i] w fun e w' => (∃ r, e = .returned (.tuple #[r, .int .i64 (kidsC ns i)]) ∧ RowI w' r (kidsX ns i)) ∧ Below w.heap.size w w' := by
  have hN := hide h
  have hFo := hide (forest_calls w B v ns h hB)
  obtain ⟨a, cap, rfl, h1, ⟨h2, h2'⟩, h3, h4⟩ := h
  clear h3 h4
  cases hf : forestB ns
  · have e1 : Hid (kidsC ns i = 22) := by unfold Hid kidsC; rw [hf]; rfl
    have e2 : Hid (kidsX ns i = []) := by unfold Hid kidsX; rw [hf]; simp
    rw [hf] at hFo
    go_enter Tryd.func18, Tryd.ntmps18
    go_wp2_with (go_at_call 35; refine (hFo.out).mono ?_; rintro e w5 ⟨rfl, b5⟩; replace b5 := hide b5)
    go_ret2
    exact ⟨⟨.slice none 0 0, by rw [e1.out]; rfl, by rw [e2.out]; exact rowI_nil _⟩, b5.out⟩
  rw [hf] at hFo
  have hS := hide (forest_sizes hf)
  by_cases hlo : i < -1
  · have e1 : Hid (kidsC ns i = 30) := by unfold Hid kidsC; rw [hf, if_pos rfl, if_neg (by omega)]
    have e2 : Hid (kidsX ns i = []) := by unfold Hid kidsX; rw [if_neg (by omega)]
    go_enter Tryd.func18, Tryd.ntmps18
    go_wp2_with (go_at_call 35; refine (hFo.out).mono ?_; rintro e w5 ⟨rfl, b5⟩; replace b5 := hide b5)
    go_ret2
    exact ⟨⟨.slice none 0 0, by rw [e1.out]; rfl, by rw [e2.out]; exact rowI_nil _⟩, b5.out⟩
  by_cases hhi : (ns.length : Int) ≤ i
  · have e1 : Hid (kidsC ns i = 30) := by unfold Hid kidsC; rw [hf, if_pos rfl, if_neg (by omega)]
    have e2 : Hid (kidsX ns i = []) := by unfold Hid kidsX; rw [if_neg (by omega)]
    go_enter Tryd.func18, Tryd.ntmps18
    go_wp2_with (go_at_call 35; refine (hFo.out).mono ?_; rintro e w5 ⟨rfl, b5⟩; replace b5 := hide b5)
    go_ret2
    exact ⟨⟨.slice none 0 0, by rw [e1.out]; rfl, by rw [e2.out]; exact rowI_nil _⟩, b5.out⟩
  have e1 : Hid (kidsC ns i = 0) := by unfold Hid kidsC; rw [hf, if_pos rfl, if_pos (by omega)]
  have e2 : Hid (kidsX ns i = (kidsL ns i).map (fun n : Nat => (n : Int))) := by unfold Hid kidsX; rw [if_pos ⟨hf, by omega⟩]
  obtain ⟨i0, hi, hz0, hz1, hz2⟩ := info_parts ndInfoInt
  refine (callsIn_wide (n := 4)).1 ?_
  by_cases hneg : i < 0
  · obtain rfl : i = -1 := by omega
    refine callsIn_of_wp_marks Tryd.func18 rfl trivial ?_ rfl
    simp only [Tryd.ntmps18, List.size_toArray, List.length_cons, List.length_nil, Nat.reduceAdd, Nat.reduceSub, Array.replicate_succ, Array.replicate_zero, List.push_toArray, List.append_toArray, List.nil_append, List.cons_append]
    gi_wp2_with (first
      | (refine ⟨trivial, ?_⟩; gi_at_call 35; refine (callsIn_wide.2 hFo.out).mono ?_; rintro e w5 ⟨rfl, b5⟩; replace b5 := hide b5)
      | (refine ⟨trivial, ?_⟩; gi_at_call 36; refine (standing_in Fence.wide _ trivial rfl _ _ _ _ _ _).mono ?_; rintro e w' ⟨rfl, rfl⟩))
    have hs5 := b5.out.size
    have bO := (((Boxed.new w5 53 (.slice none 0 0)).alloc (.cells #[.slice a ns.length cap] 44)).alloc (.cells #[.int .i64 0] 3)).alloc (.cells #[.int .i64 ns.length] 3)
    have b1 := ((Boxed.new (w5.alloc (.cells #[.slice none 0 0] 53)) 44 (.slice a ns.length cap)).alloc (.cells #[.int .i64 0] 3)).alloc (.cells #[.int .i64 ns.length] 3)
    have b2 := (Boxed.new ((w5.alloc (.cells #[.slice none 0 0] 53)).alloc (.cells #[.slice a ns.length cap] 44)) 3 (.int .i64 0)).alloc (.cells #[.int .i64 ns.length] 3)
    have b3 := Boxed.new (((w5.alloc (.cells #[.slice none 0 0] 53)).alloc (.cells #[.slice a ns.length cap] 44)).alloc (.cells #[.int .i64 0] 3)) 3 (.int .i64 ns.length)
    have hB0 : Below w5.heap.size w5 ((((w5.alloc (.cells #[.slice none 0 0] 53)).alloc (.cells #[.slice a ns.length cap] 44)).alloc (.cells #[.int .i64 0] 3)).alloc (.cells #[.int .i64 ns.length] 3)) := ((((Below.refl _ w5).alloc (Nat.le_refl _) _).alloc (by simp) _).alloc (by simp; omega) _).alloc (by simp; omega) _
    have hW0 : ((((w5.alloc (.cells #[.slice none 0 0] 53)).alloc (.cells #[.slice a ns.length cap] 44)).alloc (.cells #[.int .i64 0] 3)).alloc (.cells #[.int .i64 ns.length] 3)).heap.size = w5.heap.size + 4 := by simp
    simp only [World.size_alloc] at b1 b2 b3
    generalize hX : (((w5.alloc (.cells #[.slice none 0 0] 53)).alloc (.cells #[.slice a ns.length cap] 44)).alloc (.cells #[.int .i64 0] 3)).alloc (.cells #[.int .i64 ns.length] 3) = X at *
    clear hX
    refine wpIn_rangeFunc_ownG rfl (by omega) (gf := 56) (lb := #[.pointer (some ⟨w5.heap.size + 1 + 1, 0, none⟩), .pointer (some ⟨w5.heap.size + 1 + 2, 0, none⟩), .pointer (some ⟨w5.heap.size + 1, 0, none⟩)]) rfl trivial (enters_of Tryd.func56 (by kernel_rfl) rfl)
      (stand_stops Fence.wide _ trivial rfl (by omega) (w5.heap.size + 1) w5.heap.size _ _ _ ns hS.out 0 ns.length (Nat.le_refl _) X (by omega) (by omega) b1.cell (by exact b2.cell) (by exact b3.cell) ((hN.out.below (b5.out.mono hB)).mono (by omega) |>.below hB0)) KpS_t (KpS_b (by omega) (by omega)) (Below.refl _ _) (fun _ => rfl)
      (fun pre W => (∃ v, Boxed W w5.heap.size 53 v ∧ W.ownsRow (w5.heap.size + 4) 3 1 v pre.length (pre.map (fun n : Nat => Value.int .i64 (n : Int))) ∧ True) ∧ (Below w5.heap.size w5 W ∧ w5.heap.size + 4 ≤ W.heap.size))
      (fun _ _ _ => False)
      (OwnFrom.and (Own.from (holdsRow_own (w5.heap.size + 4) w5.heap.size 53 3 1 (fun pre : List Nat => pre.length) (fun pre : List Nat => pre.map (fun n : Nat => Value.int .i64 (n : Int))) (fun _ _ => True)) _) (OwnFrom.and (ownFrom_below (Nat.le_refl _) (by omega)) (fun s W W' row h hg _ => Nat.le_trans h hg.size)))
      (fun _ _ _ _ _ hs _ _ => hs)
      ⟨⟨_, bO, World.ownsRow_nil _ _ _ _, trivial⟩, hB0, by omega⟩
      (fun x => { tmps := #[.slice a ns.length cap, .int .i64 (-1), undef, undef, .slice none 0 0, .int .i64 0, .int .i64 ns.length, .pointer (some ⟨w5.heap.size, 0, none⟩), .int .i64 (x : Int), .slice a ns.length cap, .bool true, .bool false, .int .i64 (-1), .bool false, .bool false, .int .i64 (-1), .slice a ns.length cap, .int .i64 ns.length, .bool (decide ((ns.length : Int) ≤ -1)), .bool (decide ((ns.length : Int) ≤ -1)), .slice a ns.length cap, .int .i64 ns.length, .int .i64 (-1), .bool false, undef, undef, undef, undef, undef, undef, undef, .slice a ns.length cap, .int .i64 (-1), .int .i64 0, .int .i64 ns.length, .func (.func 56) #[] #[.pointer (some ⟨w5.heap.size + 1 + 1, 0, none⟩), .pointer (some ⟨w5.heap.size + 1 + 2, 0, none⟩), .pointer (some ⟨w5.heap.size + 1, 0, none⟩)], .int .i64 (x : Int), undef, undef, undef, undef, undef], defers := [] }) ?assign ?body ?done ?stop
    case assign =>
      intro l x W K hK
      gi_wp2
      exact hK
    case body =>
      rintro l pre x W ⟨⟨v, hv, hrow, -⟩, hB', hW4⟩ hlt
      have hc := hv.cell
      gi_wp2_with (gi_at_builtin; refine wpListIn_append_own _ rfl _ _ 53 rfl (w5.heap.size + 4) 3 i0 (.int .i64 0) 1 8 ndSliceInt hi hz0 hz1 hz2 rfl (by decide) _ _ _ rfl (hrow.alloc _) ⟨W.heap.size, 0, none⟩ 1 1 [.int .i64 x] rfl rfl (cell_one_new _ _ _) (by simp [Value.oneCell']) (by unfold maxLen; omega) (by omega) (by simp; omega) ?_; intro v' w1 hown' hgrow _; obtain ⟨g', cap', rfl⟩ := ownsRow_succ hown'; obtain ⟨hv1, hv2, hr2, hk2, hb2⟩ := appendedK (n₀ := w5.heap.size) (lo := w5.heap.size + 1) hv (by decide) hrow (by omega) (Nat.le_refl _) (by omega) (by omega) (by omega) hown' hgrow; have hc1 := hv1.cell; have hf1 := hv1.frozen)
      exact ⟨hk2.from _, hb2, ⟨_, hv2, by simpa using hr2, trivial⟩, hB'.trans hb2.1, Nat.le_trans hW4 hk2.size⟩
    case done =>
      rintro D ys W hD rfl ⟨⟨v, hv, hrow, -⟩, hB', hW4⟩ hK
      have hc := hv.cell
      gi_wp2
      refine ⟨by simp, .inl ⟨_, _, rfl, run_takeDeferred hK, ?_⟩⟩
      refine ⟨.tuple #[v, .int .i64 0], ?_, ⟨v, by rw [e1.out], ?_⟩, ?_⟩
      · simp [results, Tryd.f18, go_sem]
      · rw [e2.out]
        refine OwnS.row (B := w5.heap.size + 4) ?_
        unfold OwnS
        have := ownsRow_putObj hrow (.deferred none) hK rfl
        rw [List.length_map, List.map_map]
        exact this
      · exact thenB b5.out (hB'.trans (belowK_b (w := w5) (Nat.le_refl _) W D _ _ (by omega) hK rfl rfl)) hs5
    case stop =>
      rintro D c pre W _ _ h _
      exact h.elim
  · obtain ⟨q, rfl⟩ : ∃ q : Nat, i = q := ⟨i.toNat, by omega⟩
    have hqn : q < ns.length := by omega
    have hsq := hS.out q hqn
    have hE := endOf_le hS.out (i := (q : Int)) (by omega)
    obtain ⟨b, off, rfl, hb, -, -, -, d3, -⟩ := hN.out.at_ hqn
    have hE2 : endOf ns q = q + (ns.getD q Nd.z).size.toNat := by unfold endOf; rw [if_neg (by omega)]; rfl
    have hK : Hid (kidsL ns q = kl ns (endOf ns q) ns.length (q + 1)) := by unfold kidsL; rfl
    generalize endOf ns q = E at *
    generalize (ns.getD q Nd.z).size = sq at *
    obtain ⟨zq, rfl⟩ : ∃ z : Nat, sq = z := ⟨sq.toNat, by omega⟩
    rw [Int.toNat_natCast] at hE2
    subst hE2
    have hq0 : ¬ ((q : Int) < 0) := by omega
    refine callsIn_of_wp_marks Tryd.func18 rfl trivial ?_ rfl
    simp only [Tryd.ntmps18, List.size_toArray, List.length_cons, List.length_nil, Nat.reduceAdd, Nat.reduceSub, Array.replicate_succ, Array.replicate_zero, List.push_toArray, List.append_toArray, List.nil_append, List.cons_append]
    gi_wp2_with (first
      | (refine ⟨trivial, ?_⟩; gi_at_call 35; refine (callsIn_wide.2 hFo.out).mono ?_; rintro e w5 ⟨rfl, b5⟩; have d3' := (b5.cell (p := ⟨b, off + q * 5 + 3, none⟩) (by simp; omega)).trans d3; replace b5 := hide b5)
      | (refine ⟨trivial, ?_⟩; gi_at_call 36; refine (standing_in Fence.wide _ trivial rfl _ _ _ _ _ _).mono ?_; rintro e w' ⟨rfl, rfl⟩))
    have hs5 := b5.out.size
    have hK5 := hK
    clear hK
    have bO := (((Boxed.new w5 53 (.slice none 0 0)).alloc (.cells #[.slice (some ⟨b, off, none⟩) ns.length cap] 44)).alloc (.cells #[.int .i64 ((q : Int) + 1)] 3)).alloc (.cells #[.int .i64 ((q : Int) + zq)] 3)
    have b1 := ((Boxed.new (w5.alloc (.cells #[.slice none 0 0] 53)) 44 (.slice (some ⟨b, off, none⟩) ns.length cap)).alloc (.cells #[.int .i64 ((q : Int) + 1)] 3)).alloc (.cells #[.int .i64 ((q : Int) + zq)] 3)
    have b2 := (Boxed.new ((w5.alloc (.cells #[.slice none 0 0] 53)).alloc (.cells #[.slice (some ⟨b, off, none⟩) ns.length cap] 44)) 3 (.int .i64 ((q : Int) + 1))).alloc (.cells #[.int .i64 ((q : Int) + zq)] 3)
    have b3 := Boxed.new (((w5.alloc (.cells #[.slice none 0 0] 53)).alloc (.cells #[.slice (some ⟨b, off, none⟩) ns.length cap] 44)).alloc (.cells #[.int .i64 ((q : Int) + 1)] 3)) 3 (.int .i64 ((q : Int) + zq))
    have hB0 : Below w5.heap.size w5 ((((w5.alloc (.cells #[.slice none 0 0] 53)).alloc (.cells #[.slice (some ⟨b, off, none⟩) ns.length cap] 44)).alloc (.cells #[.int .i64 ((q : Int) + 1)] 3)).alloc (.cells #[.int .i64 ((q : Int) + zq)] 3)) := ((((Below.refl _ w5).alloc (Nat.le_refl _) _).alloc (by simp) _).alloc (by simp; omega) _).alloc (by simp; omega) _
    have hW0 : ((((w5.alloc (.cells #[.slice none 0 0] 53)).alloc (.cells #[.slice (some ⟨b, off, none⟩) ns.length cap] 44)).alloc (.cells #[.int .i64 ((q : Int) + 1)] 3)).alloc (.cells #[.int .i64 ((q : Int) + zq)] 3)).heap.size = w5.heap.size + 4 := by simp
    simp only [World.size_alloc] at b1 b2 b3
    generalize hX : (((w5.alloc (.cells #[.slice none 0 0] 53)).alloc (.cells #[.slice (some ⟨b, off, none⟩) ns.length cap] 44)).alloc (.cells #[.int .i64 ((q : Int) + 1)] 3)).alloc (.cells #[.int .i64 ((q : Int) + zq)] 3) = X at *
    clear hX
    refine wpIn_rangeFunc_ownG rfl (by omega) (gf := 56) (lb := #[.pointer (some ⟨w5.heap.size + 1 + 1, 0, none⟩), .pointer (some ⟨w5.heap.size + 1 + 2, 0, none⟩), .pointer (some ⟨w5.heap.size + 1, 0, none⟩)]) rfl trivial (enters_of Tryd.func56 (by kernel_rfl) rfl)
      (stand_stops Fence.wide _ trivial rfl (by omega) (w5.heap.size + 1) w5.heap.size _ _ _ ns hS.out (q + 1) (q + zq) hE X (by omega) (by omega) b1.cell (by simpa using b2.cell) (by simpa using b3.cell) ((hN.out.below (b5.out.mono hB)).mono (by omega) |>.below hB0)) KpS_t (KpS_b (by omega) (by omega)) (Below.refl _ _) (fun _ => rfl)
      (fun pre W => (∃ v, Boxed W w5.heap.size 53 v ∧ W.ownsRow (w5.heap.size + 4) 3 1 v pre.length (pre.map (fun n : Nat => Value.int .i64 (n : Int))) ∧ True) ∧ (Below w5.heap.size w5 W ∧ w5.heap.size + 4 ≤ W.heap.size))
      (fun _ _ _ => False)
      (OwnFrom.and (Own.from (holdsRow_own (w5.heap.size + 4) w5.heap.size 53 3 1 (fun pre : List Nat => pre.length) (fun pre : List Nat => pre.map (fun n : Nat => Value.int .i64 (n : Int))) (fun _ _ => True)) _) (OwnFrom.and (ownFrom_below (Nat.le_refl _) (by omega)) (fun s W W' row h hg _ => Nat.le_trans h hg.size)))
      (fun _ _ _ _ _ hs _ _ => hs)
      ⟨⟨_, bO, World.ownsRow_nil _ _ _ _, trivial⟩, hB0, by omega⟩
      (fun x => { tmps := #[.slice (some ⟨b, off, none⟩) ns.length cap, .int .i64 q, undef, undef, .slice none 0 0, .int .i64 0, .int .i64 ((q : Int) + zq), .pointer (some ⟨w5.heap.size, 0, none⟩), .int .i64 (x : Int), .slice (some ⟨b, off, none⟩) ns.length cap, .bool true, .bool false, .int .i64 q, .bool (decide ((q : Int) < -1)), .bool (decide ((q : Int) < -1)), .int .i64 q, .slice (some ⟨b, off, none⟩) ns.length cap, .int .i64 ns.length, .bool false, .bool (decide ((q : Int) < -1)), .slice (some ⟨b, off, none⟩) ns.length cap, .int .i64 ns.length, .int .i64 q, .bool true, .int .i64 q, .slice (some ⟨b, off, none⟩) ns.length cap, .int .i64 q, .pointer (some ⟨b, off + q * 5, none⟩), .pointer (some ⟨b, off + q * 5 + 3, none⟩), .int .i64 zq, .int .i64 ((q : Int) + zq), .slice (some ⟨b, off, none⟩) ns.length cap, .int .i64 q, .int .i64 ((q : Int) + 1), .int .i64 ((q : Int) + zq), .func (.func 56) #[] #[.pointer (some ⟨w5.heap.size + 1 + 1, 0, none⟩), .pointer (some ⟨w5.heap.size + 1 + 2, 0, none⟩), .pointer (some ⟨w5.heap.size + 1, 0, none⟩)], .int .i64 (x : Int), undef, undef, undef, undef, undef], defers := [] }) ?assign ?body ?done ?stop
    case assign =>
      intro l x W K hK
      gi_wp2
      exact hK
    case body =>
      rintro l pre x W ⟨⟨v, hv, hrow, -⟩, hB', hW4⟩ hlt
      have hc := hv.cell
      gi_wp2_with (gi_at_builtin; refine wpListIn_append_own _ rfl _ _ 53 rfl (w5.heap.size + 4) 3 i0 (.int .i64 0) 1 8 ndSliceInt hi hz0 hz1 hz2 rfl (by decide) _ _ _ rfl (hrow.alloc _) ⟨W.heap.size, 0, none⟩ 1 1 [.int .i64 x] rfl rfl (cell_one_new _ _ _) (by simp [Value.oneCell']) (by unfold maxLen; omega) (by omega) (by simp; omega) ?_; intro v' w1 hown' hgrow _; obtain ⟨g', cap', rfl⟩ := ownsRow_succ hown'; obtain ⟨hv1, hv2, hr2, hk2, hb2⟩ := appendedK (n₀ := w5.heap.size) (lo := w5.heap.size + 1) hv (by decide) hrow (by omega) (Nat.le_refl _) (by omega) (by omega) (by omega) hown' hgrow; have hc1 := hv1.cell; have hf1 := hv1.frozen)
      exact ⟨hk2.from _, hb2, ⟨_, hv2, by simpa using hr2, trivial⟩, hB'.trans hb2.1, Nat.le_trans hW4 hk2.size⟩
    case done =>
      rintro D ys W hD rfl ⟨⟨v, hv, hrow, -⟩, hB', hW4⟩ hK
      have hc := hv.cell
      gi_wp2
      refine ⟨by simp, .inl ⟨_, _, rfl, run_takeDeferred hK, ?_⟩⟩
      refine ⟨.tuple #[v, .int .i64 0], ?_, ⟨v, by rw [e1.out], ?_⟩, ?_⟩
      · simp [results, Tryd.f18, go_sem]
      · rw [e2.out, hK5.out]
        refine OwnS.row (B := w5.heap.size + 4) ?_
        unfold OwnS
        have := ownsRow_putObj hrow (.deferred none) hK rfl
        rw [List.length_map, List.map_map]
        exact this
      · exact thenB b5.out (hB'.trans (belowK_b (w := w5) (Nat.le_refl _) W D _ _ (by omega) hK rfl rfl)) hs5
    case stop =>
      rintro D c pre W _ _ h _
      exact h.elim
end Go.Proofs.YtackibimlpkcmaaDoor
