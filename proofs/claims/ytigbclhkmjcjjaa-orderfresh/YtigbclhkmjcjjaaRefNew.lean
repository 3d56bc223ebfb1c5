/-
  The document's New.
-/
import Derived.Test.YtigbclhkmjcjjaaRefRel
import Derived.Maps.AppendAt
namespace Go.Proofs.Ytigbclhkmjcjjaa
open Go.RowKit
set_option linter.unusedVariables false
theorem rnew_neg (w : World) (n : Int) (h : n < 0) : Calls Try.prog 36 #[.int .i64 n] w fun e w' => e = .returned (.tuple #[.pointer none, .int .i64 70]) ∧ w' = w := by
  go_enter Try.func36, Try.ntmps36
  go_wp2
  go_ret2
  exact ⟨rfl, rfl⟩
theorem rnew_big (w : World) (n : Int) (h : 1000000 < n) : Calls Try.prog 36 #[.int .i64 n] w fun e w' => e = .returned (.tuple #[.pointer none, .int .i64 46]) ∧ w' = w := by
  have h0 : ¬ n < 0 := by omega
  go_enter Try.func36, Try.ntmps36
  go_wp2
  go_ret2
  exact ⟨rfl, rfl⟩
def wls (k : Nat) : List Bool := (List.range k).map fun i => decide (0 < i)
theorem wls_succ (k : Nat) : wls (k + 1) = wls k ++ [decide (0 < k)] := by unfold wls; rw [List.range_succ, List.map_append]; rfl
/-- The document's order while it is made. -/
structure Mk (w wr : World) (ka kw ku : Nat) (va vw vu : Value) : Prop where
  blk : wr.heap[w.heap.size]? = some (.cells #[va, .int .i64 1065353216, vw, vu] 72 (0, 0))
  a : wr.ownsRow w.heap.size 3 1 va ka (List.replicate ka (.int .i64 0))
  ww : wr.ownsRow w.heap.size 4 1 vw kw ((wls kw).map Value.bool)
  u : wr.ownsRow w.heap.size 4 1 vu ku (List.replicate ku (.bool false))
  apart : vw.ownBlock = none ∨ vw.ownBlock ≠ vu.ownBlock
  below : Below w.heap.size w wr
theorem own_apart {w : World} {base base' n n' : Nat} {t t' : TypeId} {v v' : Value} {xs xs' : List Value} (h : w.ownsRow base t 1 v n xs) (h' : w.ownsRow base' t' 1 v' n' xs') (hne : t ≠ t') : v.ownBlock = none ∨ v.ownBlock ≠ v'.ownBlock := by
  rcases h.2 with ⟨rfl, _⟩ | ⟨g, cap, cur, rfl, _, hg, _⟩
  · exact .inl rfl
  · right
    intro c
    rcases h'.2 with ⟨rfl, _⟩ | ⟨g', cap', cur', rfl, _, hg', _⟩
    · cases c
    · cases c
      rw [hg] at hg'
      cases hg'
      exact hne rfl
theorem blk_apart {w : World} {base n b : Nat} {t u : TypeId} {cs : Array Value} {v : Value} {xs : List Value} (h : w.ownsRow base t 1 v n xs) (hb : w.heap[b]? = some (.cells cs u (0, 0))) (hne : t ≠ u) : some b ≠ v.ownBlock := by
  intro c
  rcases h.2 with ⟨rfl, _⟩ | ⟨g, cap, cur, rfl, _, hg, _⟩
  · cases c
  · cases c
    rw [hg] at hb
    cases hb
    exact hne rfl
theorem heap_alloc_old {w : World} {x : Obj} {b : Nat} {o : Obj} (h : w.heap[b]? = some o) : (w.alloc x).heap[b]? = some o := by
  have := (Array.getElem?_eq_some_iff.1 h).1
  show (w.heap.push x)[b]? = _
  rw [Array.getElem?_push, if_neg (by omega)]
  exact h
theorem size_alloc (w : World) (x : Obj) : (w.alloc x).heap.size = w.heap.size + 1 := by show (w.heap.push _).size = _; rw [Array.size_push]
section
variable {w wr w2 : World} {ka kw ku : Nat} {va vw vu v' : Value} {x : Obj}
theorem Mk.cell0 (h : Mk w wr ka kw ku va vw vu) : wr.cell? ⟨w.heap.size, 0, none⟩ = some va := by rw [block_cell h.blk]; rfl
theorem Mk.cell2 (h : Mk w wr ka kw ku va vw vu) : wr.cell? ⟨w.heap.size, 2, none⟩ = some vw := by rw [block_cell h.blk]; rfl
theorem Mk.cell3 (h : Mk w wr ka kw ku va vw vu) : wr.cell? ⟨w.heap.size, 3, none⟩ = some vu := by rw [block_cell h.blk]; rfl
theorem Mk.free (h : Mk w wr ka kw ku va vw vu) (j : Nat) : wr.frozen? ⟨w.heap.size, j, none⟩ = false := block_free h.blk j
theorem Mk.lt (h : Mk w wr ka kw ku va vw vu) : w.heap.size < wr.heap.size := (Array.getElem?_eq_some_iff.1 h.blk).1
theorem Mk.blk2 {v : Value} (h : Mk w wr ka kw ku va vw vu) (hg : (wr.alloc x).grownBy w2 v.ownBlock) (hne : some w.heap.size ≠ v.ownBlock) : w2.heap[w.heap.size]? = some (.cells #[va, .int .i64 1065353216, vw, vu] 72 (0, 0)) := by
  have hl := h.lt
  rw [hg.block w.heap.size (by rw [size_alloc]; omega) hne]
  exact heap_alloc_old h.blk
theorem row_store {w2 : World} {base n b j : Nat} {t u : TypeId} {cs : Array Value} {v y : Value} {xs : List Value} (h : w2.ownsRow base t 1 v n xs) (hb : w2.heap[b]? = some (.cells cs u (0, 0))) (hne : t ≠ u) : (w2.setCell ⟨b, j, none⟩ y).ownsRow base t 1 v n xs :=
  owns_same h (fun g hg => heap_set_ne (fun c => blk_apart h hb hne (by rw [hg, c])) _ _)
theorem Mk.below2 {v : Value} {n : Nat} {t : TypeId} {xs : List Value} (h : Mk w wr ka kw ku va vw vu) (hv : wr.ownsRow w.heap.size t 1 v n xs) (hg : (wr.alloc x).grownBy w2 v.ownBlock) (j : Nat) (y : Value) : Below w.heap.size w (w2.setCell ⟨w.heap.size, j, none⟩ y) := by
  have hl := h.lt
  have b2 : Below w.heap.size w w2 := (h.below.alloc h.below.size _).grown hg (by rw [size_alloc]; omega) (fun g hg => (hv.lt g hg).1)
  exact below_chg b2 (S := [w.heap.size]) (fun b hb => by simp at hb; omega) ((Chg.refl _ _).set (by simp) _)
theorem flip_apart {a b : Option Nat} (h : a = none ∨ a ≠ b) : b = none ∨ b ≠ a := by
  rcases h with h | h
  · subst h
    cases b
    · exact .inl rfl
    · exact .inr (by simp)
  · exact .inr (Ne.symm h)
theorem new_apart {a b c : Option Nat} {n : Nat} (h : a = none ∨ a ≠ b) (hc : c = a ∨ c = some n) (hb : ∀ g, b = some g → g < n) : c = none ∨ c ≠ b := by
  rcases hc with rfl | rfl
  · exact h
  · right
    intro e
    have := hb n e.symm
    omega
theorem Mk.stepA (h : Mk w wr ka kw ku va vw vu) (ho : w2.ownsRow w.heap.size 3 1 v' (ka + 1) (List.replicate ka (.int .i64 0) ++ [.int .i64 0])) (hg : (wr.alloc x).grownBy w2 va.ownBlock) : Mk w (w2.setCell ⟨w.heap.size, 0, none⟩ v') (ka + 1) kw ku v' vw vu := by
  have b2 := h.blk2 hg (blk_apart h.a h.blk (by decide))
  refine ⟨by rw [heap_set b2]; rfl, ?_, ?_, ?_, h.apart, h.below2 h.a hg _ _⟩
  · rw [List.replicate_succ']
    exact row_store ho b2 (by decide)
  · exact row_store ((h.ww.alloc x).kept hg (own_apart h.ww h.a (by decide))) b2 (by decide)
  · exact row_store ((h.u.alloc x).kept hg (own_apart h.u h.a (by decide))) b2 (by decide)
theorem Mk.stepW (h : Mk w wr ka kw ku va vw vu) (ho : w2.ownsRow w.heap.size 4 1 v' (kw + 1) ((wls kw).map Value.bool ++ [.bool (decide (0 < kw))])) (hg : (wr.alloc x).grownBy w2 vw.ownBlock) (ha : v'.ownBlock = vw.ownBlock ∨ v'.ownBlock = some (wr.alloc x).heap.size) : Mk w (w2.setCell ⟨w.heap.size, 2, none⟩ v') ka (kw + 1) ku va v' vu := by
  have b2 := h.blk2 hg (blk_apart h.ww h.blk (by decide))
  refine ⟨by rw [heap_set b2]; rfl, ?_, ?_, ?_, ?_, h.below2 h.ww hg _ _⟩
  · exact row_store ((h.a.alloc x).kept hg (own_apart h.a h.ww (by decide))) b2 (by decide)
  · rw [wls_succ, List.map_append]
    exact row_store ho b2 (by decide)
  · exact row_store ((h.u.alloc x).kept hg (flip_apart h.apart)) b2 (by decide)
  · exact new_apart h.apart ha (fun g e => by have := (h.u.lt g e).2; rw [size_alloc]; omega)
theorem Mk.stepU (h : Mk w wr ka kw ku va vw vu) (ho : w2.ownsRow w.heap.size 4 1 v' (ku + 1) (List.replicate ku (.bool false) ++ [.bool false])) (hg : (wr.alloc x).grownBy w2 vu.ownBlock) (ha : v'.ownBlock = vu.ownBlock ∨ v'.ownBlock = some (wr.alloc x).heap.size) : Mk w (w2.setCell ⟨w.heap.size, 3, none⟩ v') ka kw (ku + 1) va vw v' := by
  have b2 := h.blk2 hg (blk_apart h.u h.blk (by decide))
  refine ⟨by rw [heap_set b2]; rfl, ?_, ?_, ?_, ?_, h.below2 h.u hg _ _⟩
  · exact row_store ((h.a.alloc x).kept hg (own_apart h.a h.u (by decide))) b2 (by decide)
  · exact row_store ((h.ww.alloc x).kept hg h.apart) b2 (by decide)
  · rw [List.replicate_succ']
    exact row_store ho b2 (by decide)
  · exact flip_apart (new_apart (flip_apart h.apart) ha (fun g e => by have := (h.ww.lt g e).2; rw [size_alloc]; omega))
theorem Mk.done {n : Nat} (h : Mk w wr (n + 1) (n + 1) (n + 1) va vw vu) (hn : n ≤ 1000000) : ∃ q : Rid, q.n = n ∧ q.P = w.heap.size ∧ (∃ t, ROrd wr q t ∧ Rel n (newO n) t) ∧ (∀ b, b ∈ rblks q → w.heap.size ≤ b) := by
  obtain ⟨hb, a, ww, u, ap, bel⟩ := h
  rcases id a.2 with ⟨_, e⟩ | ⟨ga, ca, cura, rfl, hBa, hga, _, _, _, ta⟩
  · omega
  rcases id ww.2 with ⟨_, e⟩ | ⟨gw, cw, curw, rfl, hBw, hgw, _, _, _, tw⟩
  · omega
  rcases id u.2 with ⟨_, e⟩ | ⟨gu, cu, curu, rfl, hBu, hgu, _, _, _, tu⟩
  · omega
  have wl : (wls (n + 1)).length = n + 1 := by simp [wls]
  refine ⟨⟨w.heap.size, ga, gw, gu, ca, cw, cu, n⟩, rfl, rfl, ⟨⟨List.replicate (n + 1) 0, 1065353216, wls (n + 1), List.replicate (n + 1) false⟩, ⟨hb, ⟨cura, hga, ?_⟩, ⟨curw, hgw, ?_⟩, ⟨curu, hgu, ?_⟩, by simp, wl, by simp, ?_, hn⟩, ?_⟩, ?_⟩
  · rw [List.length_map, List.length_replicate, List.map_replicate]
    rw [Nat.mul_one] at ta
    exact ta
  · rw [List.length_map, wl]
    rw [Nat.mul_one] at tw
    exact tw
  · rw [List.length_map, List.length_replicate, List.map_replicate]
    rw [Nat.mul_one] at tu
    exact tu
  · intro c
    rcases ap with ap | ap
    · cases ap
    · exact ap (by show some gw = some gu; exact congrArg some c)
  · refine ⟨rfl, fun v v1 v2 => ?_, fun v v1 v2 => ?_, fun v v1 v2 => ?_⟩
    · rfl
    · obtain ⟨u, rfl⟩ : ∃ u, v = u + 1 := ⟨v - 1, by omega⟩
      have e1 : (wls (n + 1)).getD (u + 1) false = true := by
        unfold wls
        rw [List.getD_eq_getElem?_getD, List.getElem?_map, List.getElem?_range (by omega)]
        simp
      have e2 : (newO n).pl.getD (u + 1) 0 = (u : Int) := newP_at (by omega)
      constructor
      · intro _
        rw [e2]
        omega
      · intro _
        exact e1
    · rfl
  · intro b hbm
    simp only [rblks, List.mem_cons, List.not_mem_nil, or_false] at hbm
    rcases hbm with rfl | rfl | rfl | rfl
    · exact Nat.le_refl _
    · exact hBa
    · exact hBw
    · exact hBu
end
set_option maxRecDepth 100000 in
set_option maxHeartbeats 8000000 in
theorem rnew_calls (w : World) (n : Nat) (hn : n ≤ 1000000) :
    Calls Try.prog 36 #[.int .i64 (n : Int)] w fun e w' => ∃ q, q.n = n ∧ e = .returned (.tuple #[rptr q, .int .i64 0]) ∧ (∃ t, ROrd w' q t ∧ Rel n (newO n) t) ∧ (∀ b, b ∈ rblks q → w.heap.size ≤ b) ∧ Below w.heap.size w w' := by
  obtain ⟨i0, hi, hz0, hz1, hz2⟩ := info_parts ordInfoInt
  obtain ⟨i1, gi, gz0, gz1, gz2⟩ := info_parts ordInfoB
  have A0 : (w.alloc (.cells #[.slice none 0 0, .int .i64 1065353216, .slice none 0 0, .slice none 0 0] 72)).heap[w.heap.size]? = some (.cells #[.slice none 0 0, .int .i64 1065353216, .slice none 0 0, .slice none 0 0] 72 (0, 0)) := heap_alloc_new w _
  have M0 : Hid (Mk w (w.alloc (.cells #[.slice none 0 0, .int .i64 1065353216, .slice none 0 0, .slice none 0 0] 72)) 0 0 0 (.slice none 0 0) (.slice none 0 0) (.slice none 0 0)) :=
    ⟨A0, World.ownsRow_nil _ _ _ _, World.ownsRow_nil _ _ _ _, World.ownsRow_nil _ _ _ _, .inl rfl, grown_below (World.grownBy_alloc w _ none)⟩
  clear A0
  go_enter Try.func36, Try.ntmps36
  go_wp2_with fail
  generalize hwa : w.alloc (.cells #[.slice none 0 0, .int .i64 1065353216, .slice none 0 0, .slice none 0 0] 72) = wa at *
  clear hwa
  go_loopw [5] (fun i wr => ∃ (k : Nat) (va vw vu : Value), i = .int .i64 (k : Int) ∧ k ≤ n + 1 ∧ Hid (Mk w wr k k k va vw vu)) (fun i _ => n + 1 - (intOf i).toNat)
  case atStart => exact ⟨0, _, _, _, rfl, Nat.zero_le _, M0⟩
  case round =>
    clear M0
    obtain ⟨k, va, vw, vu, rfl, hk, M⟩ := hrel
    by_cases hlt : k < n + 1
    · have g1 : (k : Int) ≤ (n : Int) := by omega
      have c0 := M.out.cell0
      have hl := M.out.lt
      go_upto_region 10 with (at_builtin; refine wpList_append_own_at _ rfl _ _ 26 rfl w.heap.size 3 i0 (.int .i64 0) 1 8 ordSliceInt hi hz0 hz1 hz2 rfl (by decide) _ _ _ rfl (M.out.a.alloc _) ⟨_, 0, none⟩ 1 1 [.int .i64 0] rfl rfl (cell_one_new _ _ _) (by simp [Value.oneCell']) (by unfold maxLen; omega) (by omega) (by simp; omega) ?_; intro v' w2 hown' hgrow _ hat; obtain ⟨a', cap', rfl⟩ := owns_shape hown'; have b2 := M.out.blk2 hgrow (blk_apart M.out.a M.out.blk (by decide)); have c' := block_cell b2 0; have f' := block_free b2 0; have M1 := hide (M.out.stepA hown' hgrow); replace c' : w2.cell? ⟨w.heap.size, 0, none⟩ = some va := c'; clear b2 hown' hgrow hat)
      generalize hw3 : w2.setCell ⟨w.heap.size, 0, none⟩ (.slice a' (k + 1) cap') = w3 at *
      clear c' f' hw3 c0 hl M
      generalize hva : Value.slice a' (k + 1) cap' = va1 at *
      clear hva
      have c2 := M1.out.cell2
      have hl := M1.out.lt
      obtain ⟨bk, hbk⟩ : ∃ bk, decide (0 < k) = bk := ⟨_, rfl⟩
      have dk : decide ((0 : Int) < (k : Int)) = bk := by rw [← hbk]; simp
      have hbk2 := hbk
      replace hbk := hide hbk
      go_upto_region 11 with (at_builtin; refine wpList_append_own_at _ rfl _ _ 52 rfl w.heap.size 4 i1 (.bool false) 1 1 ordSliceB gi gz0 gz1 gz2 rfl (by decide) _ _ _ rfl (M1.out.ww.alloc _) ⟨_, 0, none⟩ 1 1 [.bool bk] rfl rfl (cell_one_new _ _ _) (by simp [Value.oneCell']) (by unfold maxLen; omega) (by omega) (by simp; omega) ?_; intro v' w2 hown' hgrow _ hat; obtain ⟨a', cap', rfl⟩ := owns_shape hown'; have b2 := M1.out.blk2 hgrow (blk_apart M1.out.ww M1.out.blk (by decide)); have c' := block_cell b2 2; have f' := block_free b2 2; have M2 := hide (M1.out.stepW (by rw [hbk.out]; exact hown') hgrow hat); replace c' : w2.cell? ⟨w.heap.size, 2, none⟩ = some vw := c'; clear b2 hown' hgrow hat)
      generalize hw4 : w2.setCell ⟨w.heap.size, 2, none⟩ (.slice a' (k + 1) cap') = w4 at *
      clear c' f' hw4 c2 hl M1 dk hbk hbk2
      generalize hvw : Value.slice a' (k + 1) cap' = vw1 at *
      clear hvw
      have c3 := M2.out.cell3
      have hl := M2.out.lt
      go_wp2_with (at_builtin; refine wpList_append_own_at _ rfl _ _ 52 rfl w.heap.size 4 i1 (.bool false) 1 1 ordSliceB gi gz0 gz1 gz2 rfl (by decide) _ _ _ rfl (M2.out.u.alloc _) ⟨_, 0, none⟩ 1 1 [.bool false] rfl rfl (cell_one_new _ _ _) (by simp [Value.oneCell']) (by unfold maxLen; omega) (by omega) (by simp; omega) ?_; intro v' w2 hown' hgrow _ hat; obtain ⟨a', cap', rfl⟩ := owns_shape hown'; have b2 := M2.out.blk2 hgrow (blk_apart M2.out.u M2.out.blk (by decide)); have c' := block_cell b2 3; have f' := block_free b2 3; have M3 := hide (M2.out.stepU hown' hgrow hat); replace c' : w2.cell? ⟨w.heap.size, 3, none⟩ = some vu := c'; clear b2 hown' hgrow hat)
      generalize hw5 : w2.setCell ⟨w.heap.size, 3, none⟩ (.slice a' (k + 1) cap') = w5 at *
      clear c' f' hw5 c3 hl M2
      go_roundw
      case rel => exact ⟨k + 1, _, _, _, by go_num, by omega, M3⟩
      case measure => simp [intOf]; omega
    · obtain rfl : k = n + 1 := by omega
      obtain ⟨q, q1, q2, q3, q4⟩ := M.out.done hn
      have B := hide M.out.below
      replace q3 := hide q3
      replace q4 := hide q4
      have g1 : ¬ ((n + 1 : Nat) : Int) ≤ (n : Int) := by omega
      clear hlt hk M
      go_wp2
      go_ret2
      exact ⟨q, q1, by first | rfl | (rw [← q2]; rfl), q3.out, q4.out, B.out⟩
end Go.Proofs.Ytigbclhkmjcjjaa
