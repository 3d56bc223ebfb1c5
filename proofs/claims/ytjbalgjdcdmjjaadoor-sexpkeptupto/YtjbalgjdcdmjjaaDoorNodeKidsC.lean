/-
  Package sexp: 'Kids'.
-/
import Derived.Test.YtjbalgjdcdmjjaaDoorNodeStandsC
import Derived.Test.YtjbalgjdcdmjjaaDoorNodeForestPC
import Derived.Maps.AppendAt
import Derived.Deep.Onto
/- ==== NodeKids ==== -/
namespace Go.Proofs.YtjbalgjdcdmjjaaDoor
open Go.RowKit Go.Shelf
set_option linter.unusedVariables false
attribute [local go_sem] Oper.semAt_some
theorem stand_stops (F : Fence) (n : Nat) (h7 : F.fn 53) (hro : F.round = none) (hn : 1 ≤ n) (lo n₀ : Nat) (a : Option Addr) (len cap : Nat) (ns : List Nd) (hS : Szs ns) (p0 E : Nat) (hE : E ≤ ns.length)
    (w : World) (hlo : lo + 3 ≤ w.heap.size) (hn0 : n₀ ≤ w.heap.size) (hb0 : w.cell? ⟨lo, 0, none⟩ = some (.slice a len cap)) (hb1 : w.cell? ⟨lo + 1, 0, none⟩ = some (.int .i64 p0)) (hb2 : w.cell? ⟨lo + 2, 0, none⟩ = some (.int .i64 E)) (hN : Nds n₀ w (.slice a len cap) ns) :
    SeqStopsK F n Tryd.prog 53 #[.pointer (some ⟨lo + 1, 0, none⟩), .pointer (some ⟨lo + 2, 0, none⟩), .pointer (some ⟨lo, 0, none⟩)] (fun x : Nat => #[Value.int .i64 (x : Int)]) (KpS n₀ lo) (fun ys => ys = kl ns E ns.length p0) (fun pre => pre <+: kl ns E ns.length p0) ns.length w := fun l J Jx W hW _ _ hY h0 =>
  stand1_in F n h7 hro hn l lo n₀ a len cap ns hS p0 E hE J Jx hY W ((hW.cell (p := ⟨lo, 0, none⟩) (by simp; omega)).trans hb0) ((hW.cell (p := ⟨lo + 1, 0, none⟩) (by simp; omega)).trans hb1) ((hW.cell (p := ⟨lo + 2, 0, none⟩) (by simp; omega)).trans hb2) (hN.below (hW.mono hn0)) h0
theorem appendedK {W w1 : World} {n₀ B lo base : Nat} {t e : TypeId} {size : Nat} {v v' : Value} {k m : Nat} {xs ys : List Value} {tmp : Obj}
    (hv : Boxed W B t v) (hte : t ≠ e) (hrow : W.ownsRow base e size v k xs) (hn₀ : n₀ ≤ W.heap.size) (hB : n₀ ≤ B) (hBl : B < lo) (hlb : lo + 3 ≤ base) (hlW : lo + 3 ≤ W.heap.size)
    (hown' : w1.ownsRow base e size v' m ys) (hgrow : (W.alloc tmp).grownBy w1 v.ownBlock) :
    Boxed w1 B t v ∧ Boxed (w1.setCell ⟨B, 0, none⟩ v') B t v' ∧ (w1.setCell ⟨B, 0, none⟩ v').ownsRow base e size v' m ys ∧ KeepsOthers W (w1.setCell ⟨B, 0, none⟩ v') ∧ KpS n₀ lo W (w1.setCell ⟨B, 0, none⟩ v') := by
  obtain ⟨h1, h2, h3, h4, h5⟩ := hv.appended hte (hrow.mono (by omega)) hn₀ hB (hown'.mono (by omega)) hgrow
  refine ⟨h1, h2, hown'.kept (grownBy_setCell' w1 B v') (.inr (h1.not_row hte hown').symm), h4, h5, fun j hj1 hj2 => ?_⟩
  have e1 : (w1.setCell ⟨B, 0, none⟩ v').heap[j]? = w1.heap[j]? := Below.heap_setCell _ _ _ j (by simp; omega)
  have e2 : w1.heap[j]? = (W.alloc tmp).heap[j]? := hgrow.block j (by simp; omega) (fun e => by have := (hrow.lt j e.symm).1; omega)
  rw [e1, e2]
  exact Below.heap_alloc _ _ _ (by omega)
/-- What Kids answers. -/
def kidsC (ns : List Nd) (i : Int) : Int := if forestB ns = true then (if -1 ≤ i ∧ i < ns.length then 0 else 30) else 22
def kidsX (ns : List Nd) (i : Int) : List Int := if forestB ns = true ∧ (-1 ≤ i ∧ i < ns.length) then (kidsL ns i).map (fun n : Nat => (n : Int)) else []
theorem rowI_nil (w : World) : RowI w (.slice none 0 0) [] := ⟨none, 0, rfl, by simp, by decide, fun h => absurd rfl h⟩
set_option maxRecDepth 100000 in
set_option maxHeartbeats 2000000 in
theorem kids_calls (w : World) (B : Nat) (v : Value) (ns : List Nd) (h : Nds B w v ns) (hB : B ≤ w.heap.size) (i : Int) :
    Calls Tryd.prog 16 #[v, .int .i64 i] w fun e w' => (∃ r, e = .returned (.tuple #[r, .int .i64 (kidsC ns i)]) ∧ RowI w' r (kidsX ns i)) ∧ Below w.heap.size w w' := by
  have hN := hide h
  have hFo := hide (forest_calls w B v ns h hB)
  obtain ⟨a, cap, rfl, h1, ⟨h2, h2'⟩, h3, h4⟩ := h
  clear h3 h4
  cases hf : forestB ns
  · have e1 : Hid (kidsC ns i = 22) := by unfold Hid kidsC; rw [hf]; rfl
    have e2 : Hid (kidsX ns i = []) := by unfold Hid kidsX; rw [hf]; simp
    rw [hf] at hFo
    go_enter Tryd.func16, Tryd.ntmps16
    go_wp2_with (go_at_call 31; refine (hFo.out).mono ?_; rintro e w5 ⟨rfl, b5⟩; replace b5 := hide b5)
    go_ret2
    exact ⟨⟨.slice none 0 0, by rw [e1.out]; rfl, by rw [e2.out]; exact rowI_nil _⟩, b5.out⟩
  rw [hf] at hFo
  have hS := hide (forest_sizes hf)
  by_cases hlo : i < -1
  · have e1 : Hid (kidsC ns i = 30) := by unfold Hid kidsC; rw [hf, if_pos rfl, if_neg (by omega)]
    have e2 : Hid (kidsX ns i = []) := by unfold Hid kidsX; rw [if_neg (by omega)]
    go_enter Tryd.func16, Tryd.ntmps16
    go_wp2_with (go_at_call 31; refine (hFo.out).mono ?_; rintro e w5 ⟨rfl, b5⟩; replace b5 := hide b5)
    go_ret2
    exact ⟨⟨.slice none 0 0, by rw [e1.out]; rfl, by rw [e2.out]; exact rowI_nil _⟩, b5.out⟩
  by_cases hhi : (ns.length : Int) ≤ i
  · have e1 : Hid (kidsC ns i = 30) := by unfold Hid kidsC; rw [hf, if_pos rfl, if_neg (by omega)]
    have e2 : Hid (kidsX ns i = []) := by unfold Hid kidsX; rw [if_neg (by omega)]
    go_enter Tryd.func16, Tryd.ntmps16
    go_wp2_with (go_at_call 31; refine (hFo.out).mono ?_; rintro e w5 ⟨rfl, b5⟩; replace b5 := hide b5)
    go_ret2
    exact ⟨⟨.slice none 0 0, by rw [e1.out]; rfl, by rw [e2.out]; exact rowI_nil _⟩, b5.out⟩
  have e1 : Hid (kidsC ns i = 0) := by unfold Hid kidsC; rw [hf, if_pos rfl, if_pos (by omega)]
  have e2 : Hid (kidsX ns i = (kidsL ns i).map (fun n : Nat => (n : Int))) := by unfold Hid kidsX; rw [if_pos ⟨hf, by omega⟩]
  obtain ⟨i0, hi, hz0, hz1, hz2⟩ := info_parts ndInfoInt
  refine (callsIn_wide (n := 4)).1 ?_
  by_cases hneg : i < 0
  · obtain rfl : i = -1 := by omega
    refine callsIn_of_wp_marks Tryd.func16 rfl trivial ?_ rfl
    simp only [Tryd.ntmps16, List.size_toArray, List.length_cons, List.length_nil, Nat.reduceAdd, Nat.reduceSub, Array.replicate_succ, Array.replicate_zero, List.push_toArray, List.append_toArray, List.nil_append, List.cons_append]
    gi_wp2_with (first
      | (refine ⟨trivial, ?_⟩; gi_at_call 31; refine (callsIn_wide.2 hFo.out).mono ?_; rintro e w5 ⟨rfl, b5⟩; replace b5 := hide b5)
      | (refine ⟨trivial, ?_⟩; gi_at_call 32; refine (standing_in Fence.wide _ trivial rfl _ _ _ _ _ _).mono ?_; rintro e w' ⟨rfl, rfl⟩))
    have hs5 := b5.out.size
    have bO := (((Boxed.new w5 53 (.slice none 0 0)).alloc (.cells #[.slice a ns.length cap] 43)).alloc (.cells #[.int .i64 0] 3)).alloc (.cells #[.int .i64 ns.length] 3)
    have b1 := ((Boxed.new (w5.alloc (.cells #[.slice none 0 0] 53)) 43 (.slice a ns.length cap)).alloc (.cells #[.int .i64 0] 3)).alloc (.cells #[.int .i64 ns.length] 3)
    have b2 := (Boxed.new ((w5.alloc (.cells #[.slice none 0 0] 53)).alloc (.cells #[.slice a ns.length cap] 43)) 3 (.int .i64 0)).alloc (.cells #[.int .i64 ns.length] 3)
    have b3 := Boxed.new (((w5.alloc (.cells #[.slice none 0 0] 53)).alloc (.cells #[.slice a ns.length cap] 43)).alloc (.cells #[.int .i64 0] 3)) 3 (.int .i64 ns.length)
    have hB0 : Below w5.heap.size w5 ((((w5.alloc (.cells #[.slice none 0 0] 53)).alloc (.cells #[.slice a ns.length cap] 43)).alloc (.cells #[.int .i64 0] 3)).alloc (.cells #[.int .i64 ns.length] 3)) := ((((Below.refl _ w5).alloc (Nat.le_refl _) _).alloc (by simp) _).alloc (by simp; omega) _).alloc (by simp; omega) _
    have hW0 : ((((w5.alloc (.cells #[.slice none 0 0] 53)).alloc (.cells #[.slice a ns.length cap] 43)).alloc (.cells #[.int .i64 0] 3)).alloc (.cells #[.int .i64 ns.length] 3)).heap.size = w5.heap.size + 4 := by simp
    simp only [World.size_alloc] at b1 b2 b3
    generalize hX : (((w5.alloc (.cells #[.slice none 0 0] 53)).alloc (.cells #[.slice a ns.length cap] 43)).alloc (.cells #[.int .i64 0] 3)).alloc (.cells #[.int .i64 ns.length] 3) = X at *
    clear hX
    refine wpIn_rangeFunc_ownG rfl (by omega) (gf := 53) (lb := #[.pointer (some ⟨w5.heap.size + 1 + 1, 0, none⟩), .pointer (some ⟨w5.heap.size + 1 + 2, 0, none⟩), .pointer (some ⟨w5.heap.size + 1, 0, none⟩)]) rfl trivial (enters_of Tryd.func53 (by kernel_rfl) rfl)
      (stand_stops Fence.wide _ trivial rfl (by omega) (w5.heap.size + 1) w5.heap.size _ _ _ ns hS.out 0 ns.length (Nat.le_refl _) X (by omega) (by omega) b1.cell (by exact b2.cell) (by exact b3.cell) ((hN.out.below (b5.out.mono hB)).mono (by omega) |>.below hB0)) KpS_t (KpS_b (by omega) (by omega)) (Below.refl _ _) (fun _ => rfl)
      (fun pre W => (∃ v, Boxed W w5.heap.size 53 v ∧ W.ownsRow (w5.heap.size + 4) 3 1 v pre.length (pre.map (fun n : Nat => Value.int .i64 (n : Int))) ∧ True) ∧ (Below w5.heap.size w5 W ∧ w5.heap.size + 4 ≤ W.heap.size))
      (fun _ _ _ => False)
      (OwnFrom.and (Own.from (holdsRow_own (w5.heap.size + 4) w5.heap.size 53 3 1 (fun pre : List Nat => pre.length) (fun pre : List Nat => pre.map (fun n : Nat => Value.int .i64 (n : Int))) (fun _ _ => True)) _) (OwnFrom.and (ownFrom_below (Nat.le_refl _) (by omega)) (fun s W W' row h hg _ => Nat.le_trans h hg.size)))
      (fun _ _ _ _ _ hs _ _ => hs)
      ⟨⟨_, bO, World.ownsRow_nil _ _ _ _, trivial⟩, hB0, by omega⟩
      (fun x => { tmps := #[.slice a ns.length cap, .int .i64 (-1), undef, undef, .slice none 0 0, .int .i64 0, .int .i64 ns.length, .pointer (some ⟨w5.heap.size, 0, none⟩), .int .i64 (x : Int), .slice a ns.length cap, .bool true, .bool false, .int .i64 (-1), .bool false, .bool false, .int .i64 (-1), .slice a ns.length cap, .int .i64 ns.length, .bool (decide ((ns.length : Int) ≤ -1)), .bool (decide ((ns.length : Int) ≤ -1)), .slice a ns.length cap, .int .i64 ns.length, .int .i64 (-1), .bool false, undef, undef, undef, undef, undef, undef, undef, .slice a ns.length cap, .int .i64 (-1), .int .i64 0, .int .i64 ns.length, .func (.func 53) #[] #[.pointer (some ⟨w5.heap.size + 1 + 1, 0, none⟩), .pointer (some ⟨w5.heap.size + 1 + 2, 0, none⟩), .pointer (some ⟨w5.heap.size + 1, 0, none⟩)], .int .i64 (x : Int), undef, undef, undef, undef, undef], defers := [] }) ?assign ?body ?done ?stop
    case assign =>
      intro l x W K hK
      gi_wp2
      exact hK
    case body =>
      rintro l pre x W ⟨⟨v, hv, hrow, -⟩, hB', hW4⟩ hlt
      have hc := hv.cell
      gi_wp2_with (gi_at_builtin; refine wpListIn_append_own _ rfl _ _ 53 rfl (w5.heap.size + 4) 3 i0 (.int .i64 0) 1 8 ndSliceInt hi hz0 hz1 hz2 rfl (by decide) _ _ _ rfl (hrow.alloc _) ⟨W.heap.size, 0, none⟩ 1 1 [.int .i64 x] rfl rfl (cell_one_new _ _ _) (by simp [Value.oneCell']) (by unfold maxLen; omega) (by omega) (by simp; omega) ?_; intro v' w1 hown' hgrow _; obtain ⟨g', cap', rfl⟩ := ownsRow_succ hown'; obtain ⟨hv1, hv2, hr2, hk2, hb2⟩ := appendedK (n₀ := w5.heap.size) (lo := w5.heap.size + 1) hv (by decide) hrow (by omega) (Nat.le_refl _) (by omega) (by omega) (by omega) hown' hgrow; have hc1 := hv1.cell; have hf1 := hv1.frozen)
      exact ⟨hk2.from _, hb2, ⟨_, hv2, by simpa using hr2, trivial⟩, hB'.trans hb2.1, Nat.le_trans hW4 hk2.size⟩
    case done =>
      rintro D ys W hD rfl ⟨⟨v, hv, hrow, -⟩, hB', hW4⟩ hK
      have hc := hv.cell
      gi_wp2
      refine ⟨by simp, .inl ⟨_, _, rfl, run_takeDeferred hK, ?_⟩⟩
      refine ⟨.tuple #[v, .int .i64 0], ?_, ⟨v, by rw [e1.out], ?_⟩, ?_⟩
      · simp [results, Tryd.f16, go_sem]
      · rw [e2.out]
        refine OwnS.row (B := w5.heap.size + 4) ?_
        unfold OwnS
        have := ownsRow_putObj hrow (.deferred none) hK rfl
        rw [List.length_map, List.map_map]
        exact this
      · exact thenB b5.out (hB'.trans (belowK_b (w := w5) (Nat.le_refl _) W D _ _ (by omega) hK rfl rfl)) hs5
    case stop =>
      rintro D c pre W _ _ h _
      exact h.elim
  · obtain ⟨q, rfl⟩ : ∃ q : Nat, i = q := ⟨i.toNat, by omega⟩
    have hqn : q < ns.length := by omega
    have hsq := hS.out q hqn
    have hE := endOf_le hS.out (i := (q : Int)) (by omega)
    obtain ⟨b, off, rfl, hb, -, -, -, d3, -⟩ := hN.out.at_ hqn
    have hE2 : endOf ns q = q + (ns.getD q Nd.z).size.toNat := by unfold endOf; rw [if_neg (by omega)]; rfl
    have hK : Hid (kidsL ns q = kl ns (endOf ns q) ns.length (q + 1)) := by unfold kidsL; rfl
    generalize endOf ns q = E at *
    generalize (ns.getD q Nd.z).size = sq at *
    obtain ⟨zq, rfl⟩ : ∃ z : Nat, sq = z := ⟨sq.toNat, by omega⟩
    rw [Int.toNat_natCast] at hE2
    subst hE2
    have hq0 : ¬ ((q : Int) < 0) := by omega
    refine callsIn_of_wp_marks Tryd.func16 rfl trivial ?_ rfl
    simp only [Tryd.ntmps16, List.size_toArray, List.length_cons, List.length_nil, Nat.reduceAdd, Nat.reduceSub, Array.replicate_succ, Array.replicate_zero, List.push_toArray, List.append_toArray, List.nil_append, List.cons_append]
    gi_wp2_with (first
      | (refine ⟨trivial, ?_⟩; gi_at_call 31; refine (callsIn_wide.2 hFo.out).mono ?_; rintro e w5 ⟨rfl, b5⟩; have d3' := (b5.cell (p := ⟨b, off + q * 5 + 3, none⟩) (by simp; omega)).trans d3; replace b5 := hide b5)
      | (refine ⟨trivial, ?_⟩; gi_at_call 32; refine (standing_in Fence.wide _ trivial rfl _ _ _ _ _ _).mono ?_; rintro e w' ⟨rfl, rfl⟩))
    have hs5 := b5.out.size
    have hK5 := hK
    clear hK
    have bO := (((Boxed.new w5 53 (.slice none 0 0)).alloc (.cells #[.slice (some ⟨b, off, none⟩) ns.length cap] 43)).alloc (.cells #[.int .i64 ((q : Int) + 1)] 3)).alloc (.cells #[.int .i64 ((q : Int) + zq)] 3)
    have b1 := ((Boxed.new (w5.alloc (.cells #[.slice none 0 0] 53)) 43 (.slice (some ⟨b, off, none⟩) ns.length cap)).alloc (.cells #[.int .i64 ((q : Int) + 1)] 3)).alloc (.cells #[.int .i64 ((q : Int) + zq)] 3)
    have b2 := (Boxed.new ((w5.alloc (.cells #[.slice none 0 0] 53)).alloc (.cells #[.slice (some ⟨b, off, none⟩) ns.length cap] 43)) 3 (.int .i64 ((q : Int) + 1))).alloc (.cells #[.int .i64 ((q : Int) + zq)] 3)
    have b3 := Boxed.new (((w5.alloc (.cells #[.slice none 0 0] 53)).alloc (.cells #[.slice (some ⟨b, off, none⟩) ns.length cap] 43)).alloc (.cells #[.int .i64 ((q : Int) + 1)] 3)) 3 (.int .i64 ((q : Int) + zq))
    have hB0 : Below w5.heap.size w5 ((((w5.alloc (.cells #[.slice none 0 0] 53)).alloc (.cells #[.slice (some ⟨b, off, none⟩) ns.length cap] 43)).alloc (.cells #[.int .i64 ((q : Int) + 1)] 3)).alloc (.cells #[.int .i64 ((q : Int) + zq)] 3)) := ((((Below.refl _ w5).alloc (Nat.le_refl _) _).alloc (by simp) _).alloc (by simp; omega) _).alloc (by simp; omega) _
    have hW0 : ((((w5.alloc (.cells #[.slice none 0 0] 53)).alloc (.cells #[.slice (some ⟨b, off, none⟩) ns.length cap] 43)).alloc (.cells #[.int .i64 ((q : Int) + 1)] 3)).alloc (.cells #[.int .i64 ((q : Int) + zq)] 3)).heap.size = w5.heap.size + 4 := by simp
    simp only [World.size_alloc] at b1 b2 b3
    generalize hX : (((w5.alloc (.cells #[.slice none 0 0] 53)).alloc (.cells #[.slice (some ⟨b, off, none⟩) ns.length cap] 43)).alloc (.cells #[.int .i64 ((q : Int) + 1)] 3)).alloc (.cells #[.int .i64 ((q : Int) + zq)] 3) = X at *
    clear hX
    refine wpIn_rangeFunc_ownG rfl (by omega) (gf := 53) (lb := #[.pointer (some ⟨w5.heap.size + 1 + 1, 0, none⟩), .pointer (some ⟨w5.heap.size + 1 + 2, 0, none⟩), .pointer (some ⟨w5.heap.size + 1, 0, none⟩)]) rfl trivial (enters_of Tryd.func53 (by kernel_rfl) rfl)
      (stand_stops Fence.wide _ trivial rfl (by omega) (w5.heap.size + 1) w5.heap.size _ _ _ ns hS.out (q + 1) (q + zq) hE X (by omega) (by omega) b1.cell (by simpa using b2.cell) (by simpa using b3.cell) ((hN.out.below (b5.out.mono hB)).mono (by omega) |>.below hB0)) KpS_t (KpS_b (by omega) (by omega)) (Below.refl _ _) (fun _ => rfl)
      (fun pre W => (∃ v, Boxed W w5.heap.size 53 v ∧ W.ownsRow (w5.heap.size + 4) 3 1 v pre.length (pre.map (fun n : Nat => Value.int .i64 (n : Int))) ∧ True) ∧ (Below w5.heap.size w5 W ∧ w5.heap.size + 4 ≤ W.heap.size))
      (fun _ _ _ => False)
      (OwnFrom.and (Own.from (holdsRow_own (w5.heap.size + 4) w5.heap.size 53 3 1 (fun pre : List Nat => pre.length) (fun pre : List Nat => pre.map (fun n : Nat => Value.int .i64 (n : Int))) (fun _ _ => True)) _) (OwnFrom.and (ownFrom_below (Nat.le_refl _) (by omega)) (fun s W W' row h hg _ => Nat.le_trans h hg.size)))
      (fun _ _ _ _ _ hs _ _ => hs)
      ⟨⟨_, bO, World.ownsRow_nil _ _ _ _, trivial⟩, hB0, by omega⟩
      (fun x => { tmps := #[.slice (some ⟨b, off, none⟩) ns.length cap, .int .i64 q, undef, undef, .slice none 0 0, .int .i64 0, .int .i64 ((q : Int) + zq), .pointer (some ⟨w5.heap.size, 0, none⟩), .int .i64 (x : Int), .slice (some ⟨b, off, none⟩) ns.length cap, .bool true, .bool false, .int .i64 q, .bool (decide ((q : Int) < -1)), .bool (decide ((q : Int) < -1)), .int .i64 q, .slice (some ⟨b, off, none⟩) ns.length cap, .int .i64 ns.length, .bool false, .bool (decide ((q : Int) < -1)), .slice (some ⟨b, off, none⟩) ns.length cap, .int .i64 ns.length, .int .i64 q, .bool true, .int .i64 q, .slice (some ⟨b, off, none⟩) ns.length cap, .int .i64 q, .pointer (some ⟨b, off + q * 5, none⟩), .pointer (some ⟨b, off + q * 5 + 3, none⟩), .int .i64 zq, .int .i64 ((q : Int) + zq), .slice (some ⟨b, off, none⟩) ns.length cap, .int .i64 q, .int .i64 ((q : Int) + 1), .int .i64 ((q : Int) + zq), .func (.func 53) #[] #[.pointer (some ⟨w5.heap.size + 1 + 1, 0, none⟩), .pointer (some ⟨w5.heap.size + 1 + 2, 0, none⟩), .pointer (some ⟨w5.heap.size + 1, 0, none⟩)], .int .i64 (x : Int), undef, undef, undef, undef, undef], defers := [] }) ?assign ?body ?done ?stop
    case assign =>
      intro l x W K hK
      gi_wp2
      exact hK
    case body =>
      rintro l pre x W ⟨⟨v, hv, hrow, -⟩, hB', hW4⟩ hlt
      have hc := hv.cell
      gi_wp2_with (gi_at_builtin; refine wpListIn_append_own _ rfl _ _ 53 rfl (w5.heap.size + 4) 3 i0 (.int .i64 0) 1 8 ndSliceInt hi hz0 hz1 hz2 rfl (by decide) _ _ _ rfl (hrow.alloc _) ⟨W.heap.size, 0, none⟩ 1 1 [.int .i64 x] rfl rfl (cell_one_new _ _ _) (by simp [Value.oneCell']) (by unfold maxLen; omega) (by omega) (by simp; omega) ?_; intro v' w1 hown' hgrow _; obtain ⟨g', cap', rfl⟩ := ownsRow_succ hown'; obtain ⟨hv1, hv2, hr2, hk2, hb2⟩ := appendedK (n₀ := w5.heap.size) (lo := w5.heap.size + 1) hv (by decide) hrow (by omega) (Nat.le_refl _) (by omega) (by omega) (by omega) hown' hgrow; have hc1 := hv1.cell; have hf1 := hv1.frozen)
      exact ⟨hk2.from _, hb2, ⟨_, hv2, by simpa using hr2, trivial⟩, hB'.trans hb2.1, Nat.le_trans hW4 hk2.size⟩
    case done =>
      rintro D ys W hD rfl ⟨⟨v, hv, hrow, -⟩, hB', hW4⟩ hK
      have hc := hv.cell
      gi_wp2
      refine ⟨by simp, .inl ⟨_, _, rfl, run_takeDeferred hK, ?_⟩⟩
      refine ⟨.tuple #[v, .int .i64 0], ?_, ⟨v, by rw [e1.out], ?_⟩, ?_⟩
      · simp [results, Tryd.f16, go_sem]
      · rw [e2.out, hK5.out]
        refine OwnS.row (B := w5.heap.size + 4) ?_
        unfold OwnS
        have := ownsRow_putObj hrow (.deferred none) hK rfl
        rw [List.length_map, List.map_map]
        exact this
      · exact thenB b5.out (hB'.trans (belowK_b (w := w5) (Nat.le_refl _) W D _ _ (by omega) hK rfl rfl)) hs5
    case stop =>
      rintro D c pre W _ _ h _
      exact h.elim
end Go.Proofs.YtjbalgjdcdmjjaaDoor
