/-
  Hold.pair: pairs are copied, with two marks behind them.
-/
import Derived.Test.YtlepicdpelkmlaaGreatDoorLinHold
namespace Go.Proofs.YtlepicdpelkmlaaGreatDoor
open Go.RowKit Go.Deep
set_option linter.unusedVariables false
set_option maxRecDepth 100000 in
set_option maxHeartbeats 8000000 in
theorem pair_calls (w0 w : World) (b0 : Below w0.heap.size w0 w) (hb : Nat) (hhb : w0.heap.size ≤ hb)
    (hh : w.heap[hb]? = some (.cells #[.slice none 0 0, .slice none 0 0, .slice none 0 0, .slice none 0 0, .slice none 0 0, .slice none 0 0, .slice none 0 0, .slice none 0 0, .slice none 0 0, .slice none 0 0] 30 (0, 0)))
    (v : Value) (ps : List Pq) (h : QRow w0 v ps) (n0 : ps.length ≤ 1048576) :
    Calls Tryz.prog 5 #[.pointer (some ⟨hb, 0, none⟩), v] w fun e w' => ∃ m, e = .returned (cutQ m ps.length) ∧ DP w' m ps ∧ PH w' hb m v ∧ Below w0.heap.size w0 w' := by
  obtain ⟨i0, hi, hz0, hz1, hz2⟩ := info_parts hInfoPair
  obtain ⟨i1, ki, kz0, kz1, kz2⟩ := info_parts hInfoPairs
  obtain ⟨av, cv, rfl, n1, n2⟩ := h.shape
  have hlt : hb < w.heap.size := (Array.getElem?_eq_some_iff.1 hh).1
  obtain ⟨n, hN⟩ : ∃ n, ps.length = n := ⟨_, rfl⟩
  rw [hN] at n0 n1 h ⊢
  have hNh := hide hN
  replace h := hide h
  replace hh := hide hh
  have B0 := hide b0
  have O0 : Hid ((w.alloc (.cells #[] 43)).ownsRow w.heap.size 43 4 (.slice (some ⟨w.heap.size, 0, none⟩) 0 0) 0 (((ps.take 0).map Pq.cs).flatten)) := World.ownsRow_made w #[] 0 (Nat.le_refl _) (by decide) rfl
  have R0 : Hid (Below w.heap.size w (w.alloc (.cells #[] 43))) := (Below.refl _ _).alloc (Nat.le_refl _) _
  clear hN b0
  go_enter Tryz.func5, Tryz.ntmps5
  go_wp2_with fail
  go_loopw [5, 6] (fun m x wr => ∃ k : Nat, x = .int .i64 (k : Int) ∧ k ≤ n ∧ Hid (wr.ownsRow w.heap.size 43 4 m k (((ps.take k).map Pq.cs).flatten)) ∧ Hid (Below w.heap.size w wr)) (fun _ x _ => n - (intOf x).toNat)
  case atStart => exact ⟨0, rfl, Nat.zero_le _, O0, R0⟩
  case round =>
    clear O0 R0
    obtain ⟨k, rfl, hk, OO, BB⟩ := hrel
    by_cases hkl : k < n
    · obtain ⟨b, off, rfl, c0, c1, c2, c3⟩ := (h.out.below (B0.out.then_below BB.out)).at_ (j := k) (by rw [hNh.out]; exact hkl)
      have kl : (k : Int) < (n : Int) := by omega
      have k0 : (0 : Int) ≤ (k : Int) := by omega
      have hsz := BB.out.size
      have hst := hide (flat4_take ps k (by rw [hNh.out]; exact hkl))
      generalize ps.getD k Pq.z = p at c0 c1 c2 c3 hst
      obtain ⟨pa, pb, pc, pd⟩ := p
      simp only at c0 c1 c2 c3
      go_wp2_with (at_builtin; (refine wpList_append_own _ rfl _ _ 22 rfl w.heap.size 43 i0 (.agg #[.string ⟨#[]⟩, .string ⟨#[]⟩, .string ⟨#[]⟩, .string ⟨#[]⟩]) 4 64 hSlicePair hi hz0 hz1 hz2 rfl (by decide) _ _ _ rfl (World.ownsRow.alloc OO.out _) ⟨wr.heap.size, 0, none⟩ 1 1 [.string pa, .string pb, .string pc, .string pd] rfl rfl (cells_newP _ _ _) (by simp [Value.oneCell']) (by unfold maxLen; omega) (by omega) (by simp; omega) ?_; intro v' w5 hown' hgrow _; replace hown' := hide hown'; replace hgrow := hide hgrow))
      go_roundw
      case rel =>
        refine ⟨k + 1, by go_num, by omega, ?_, ?_⟩
        · rw [hst.out]
          exact hown'
        · exact (BB.out.then_below ((Below.refl _ wr).alloc (Nat.le_refl _) _)).then_grown hgrow.out (fun g hg => (OO.out.lt g hg).1)
      case measure => simp [intOf]; omega
    · obtain rfl : k = n := by omega
      have hsz := BB.out.size
      have OO2 : Hid (wr.ownsRow w.heap.size 43 4 u5 k ((ps.map Pq.cs).flatten)) := by have := OO.out; rw [List.take_of_length_le (by rw [hNh.out]; exact Nat.le_refl _)] at this; exact this
      clear hkl hk OO
      go_upto_region 7 with (at_builtin; (refine wpList_append_own _ rfl _ _ 22 rfl w.heap.size 43 i0 (.agg #[.string ⟨#[]⟩, .string ⟨#[]⟩, .string ⟨#[]⟩, .string ⟨#[]⟩]) 4 64 hSlicePair hi hz0 hz1 hz2 rfl (by decide) _ _ _ rfl (World.ownsRow.alloc OO2.out _) ⟨wr.heap.size, 0, none⟩ 2 2 marks rfl rfl (cells_newP _ _ _) (by simp [Value.oneCell', marks]) (by unfold maxLen; omega) (by omega) (by simp; omega) ?_; intro v5 w5 hown5 hgrow5 _; replace hown5 := hide hown5; replace hgrow5 := hide hgrow5))
      have own5 := hown5.out
      rw [← hNh.out] at own5
      obtain ⟨D5, g5, c5, rfl, hg5, hg6⟩ := DP.of_row own5
      clear own5
      have Q5 : Below w.heap.size w w5 := (BB.out.then_below ((Below.refl _ wr).alloc (Nat.le_refl _) _)).then_grown hgrow5.out (fun g hg => (OO2.out.lt g hg).1)
      have H5 := (Q5.block hb hlt).trans hh.out
      have s5 := Q5.size
      have q5 := hide (B0.out.trans (Q5.mono (Nat.le_trans hhb (Nat.le_of_lt hlt))))
      obtain ⟨c8, z8⟩ := hold_cell H5 8 _ rfl
      replace H5 := hide H5
      replace D5 := hide D5
      clear OO2 hown5 hgrow5 BB hsz Q5 hh B0
      go_upto_region 8 with (at_builtin; (refine wpList_append_own _ rfl _ _ 28 rfl (hb + 1) 22 i1 (.slice none 0 0) 1 24 hSlicePairs ki kz0 kz1 kz2 rfl (by decide) (.slice none 0 0) 0 [] rfl (World.ownsRow_nil _ _ _ _) ⟨w5.heap.size, 0, none⟩ 1 1 [.slice (some ⟨g5, 0, none⟩) (ps.length + 2) c5] rfl rfl (cell_one_new _ _ _) (by simp [Value.oneCell']) (by unfold maxLen; omega) (by omega) (by simp; omega) ?_; intro v6 w6 hown6 hgrow6 _; obtain ⟨g6, k6, rfl, gb6, gl6, x6⟩ := one_row hown6; have b6 := ((Below.refl _ w5).alloc (Nat.le_refl _) _).then_grown hgrow6 (fun g hg => by cases hg); have H6 := (b6.block hb (by omega)).trans H5.out; obtain ⟨c8', z8'⟩ := hold_cell H6 8 _ rfl; have D6 := hide (D5.out.below b6); replace b6 := hide b6; replace H6 := hide H6; replace x6 := hide x6; clear hown6 hgrow6))
      have D7 := hide (D6.out.kept (set_own w6 hb 8 (.slice (some ⟨g6, 0, none⟩) 1 k6)) (show some g5 ≠ some hb by intro q; cases q; omega))
      have G7 := set_own w6 hb 8 (.slice (some ⟨g6, 0, none⟩) 1 k6)
      have X7 := hide (G7.cell x6.out (show some g6 ≠ some hb by intro q; cases q; omega))
      have H7 := hide (heap_setCell_same w6 hb 8 _ _ (.slice (some ⟨g6, 0, none⟩) 1 k6) H6.out)
      have s7 : w5.heap.size ≤ (w6.setCell ⟨hb, 8, none⟩ (.slice (some ⟨g6, 0, none⟩) 1 k6)).heap.size := Nat.le_trans b6.out.size G7.size
      have q7 := hide ((q5.out.then_below b6.out).then_grown G7 (fun g hg => by cases hg; exact hhb))
      have gl7 : g6 < (w6.setCell ⟨hb, 8, none⟩ (.slice (some ⟨g6, 0, none⟩) 1 k6)).heap.size := Nat.lt_of_lt_of_le gl6 G7.size
      clear G7 D6 D5 b6 H6 x6 q5 c8 z8 c8' z8' H5
      generalize w6.setCell ⟨hb, 8, none⟩ (.slice (some ⟨g6, 0, none⟩) 1 k6) = w7 at *
      obtain ⟨c9, z9⟩ := hold_cell H7.out 9 _ rfl
      go_upto_region 9 with (at_builtin; (refine wpList_append_own _ rfl _ _ 28 rfl (hb + 1) 22 i1 (.slice none 0 0) 1 24 hSlicePairs ki kz0 kz1 kz2 rfl (by decide) (.slice none 0 0) 0 [] rfl (World.ownsRow_nil _ _ _ _) ⟨w7.heap.size, 0, none⟩ 1 1 [.slice av k cv] rfl rfl (cell_one_new _ _ _) (by simp [Value.oneCell']) (by unfold maxLen; omega) (by omega) (by simp; omega) ?_; intro v8 w8 hown8 hgrow8 _; obtain ⟨g8, k8, rfl, gb8, gl8, x8⟩ := one_row hown8; have b8 := ((Below.refl _ w7).alloc (Nat.le_refl _) _).then_grown hgrow8 (fun g hg => by cases hg); have H8 := (b8.block hb (by omega)).trans H7.out; obtain ⟨c9', z9'⟩ := hold_cell H8 9 _ rfl; have D8 := hide (D7.out.below b8); have X8 := hide ((b8.cell (p := ⟨g6, 0, none⟩) gl7).trans X7.out); replace b8 := hide b8; replace H8 := hide H8; replace x8 := hide x8; clear hown8 hgrow8))
      have G9 := set_own w8 hb 9 (.slice (some ⟨g8, 0, none⟩) 1 k8)
      have D9 := hide (D8.out.kept G9 (show some g5 ≠ some hb by intro q; cases q; omega))
      have X9 := hide (G9.cell X8.out (show some g6 ≠ some hb by intro q; cases q; omega))
      have Y9 := hide (G9.cell x8.out (show some g8 ≠ some hb by intro q; cases q; omega))
      have H9 := hide (heap_setCell_same w8 hb 9 _ _ (.slice (some ⟨g8, 0, none⟩) 1 k8) H8.out)
      have q9 := hide ((q7.out.then_below b8.out).then_grown G9 (fun g hg => by cases hg; exact hhb))
      clear G9 D7 D8 X7 X8 H7 H8 x8 b8 c9 z9 c9' z9' q7
      generalize w8.setCell ⟨hb, 9, none⟩ (.slice (some ⟨g8, 0, none⟩) 1 k8) = w9 at *
      obtain ⟨g', cap', cur', e', l1, l2, -⟩ := id D9.out
      cases e'
      have l3 : (k : Int) ≤ (c5 : Int) := by have := hNh.out; omega
      go_wp2_with fail
      go_ret
      exact ⟨_, rfl, D9.out, ⟨g6, k6, g8, k8, H9.out, X9.out, Y9.out⟩, q9.out⟩
end Go.Proofs.YtlepicdpelkmlaaGreatDoor
