/-
  Hold.plain, Hold.kept: are the pairs that were handed over as they were?
-/
import Derived.Test.YtlepicdpelkmlaaGreatDoorLinHold
import Derived.Laws.StructEq
namespace Go.Proofs.YtlepicdpelkmlaaGreatDoor
open Go.RowKit Go.Deep
set_option linter.unusedVariables false
theorem PH.cells {w : World} {hb : Nat} {m v : Value} (h : PH w hb m v) : w.cell? ⟨hb, 0, none⟩ = some (.slice none 0 0) ∧ w.cell? ⟨hb, 2, none⟩ = some (.slice none 0 0) ∧ w.cell? ⟨hb, 4, none⟩ = some (.slice none 0 0) ∧ w.cell? ⟨hb, 6, none⟩ = some (.slice none 0 0) ∧
    ∃ g1 k1 g2 k2, w.cell? ⟨hb, 8, none⟩ = some (.slice (some ⟨g1, 0, none⟩) 1 k1) ∧ w.cell? ⟨hb, 9, none⟩ = some (.slice (some ⟨g2, 0, none⟩) 1 k2) ∧ w.cell? ⟨g1, 0, none⟩ = some m ∧ w.cell? ⟨g2, 0, none⟩ = some v := by
  obtain ⟨g1, k1, g2, k2, h1, h2, h3⟩ := h
  exact ⟨(hold_cell h1 0 _ rfl).1, (hold_cell h1 2 _ rfl).1, (hold_cell h1 4 _ rfl).1, (hold_cell h1 6 _ rfl).1, g1, k1, g2, k2, (hold_cell h1 8 _ rfl).1, (hold_cell h1 9 _ rfl).1, h2, h3⟩
theorem below_drewP {A : Nat} {w w' : World} (h : Below A w w') : ∀ n, Below A w (w'.drewN n)
  | 0 => h
  | n + 1 => by
    have := below_drewP h n
    exact this.drew
set_option maxRecDepth 100000 in
set_option maxHeartbeats 8000000 in
theorem plain_calls (w : World) (hb : Nat) (m v : Value) (ps : List Pq) (H : PH w hb m v) (D : DP w m ps) (Q : QRow w v ps) (n0 : ps.length ≤ 1048576) :
    Calls Tryz.prog 24 #[.pointer (some ⟨hb, 0, none⟩)] w fun e w' => e = .returned (.bool true) ∧ Below w.heap.size w w' := by
  obtain ⟨-, c2, -, c6, -⟩ := H.cells
  have R0 : Hid (Below w.heap.size w w) := Below.refl _ w
  obtain ⟨av, cv, rfl, n1, n2⟩ := Q.shape
  obtain ⟨n, hN⟩ : ∃ n, ps.length = n := ⟨_, rfl⟩
  rw [hN] at n0 n1 Q H
  replace H := hide H
  replace D := hide D
  replace Q := hide Q
  have hNh := hide hN
  clear hN
  go_enter Tryz.func24, Tryz.ntmps24
  go_wp2
  refine wp_loop_rounds 1 ?_
  rw [rounds_succ]
  go_wp2
  refine wp_loop_rounds 1 ?_
  rw [rounds_succ]
  go_wp2
  clear c2 c6
  go_loopw [11] (fun x wr => ∃ k : Nat, x = .int .i64 (k : Int) ∧ k ≤ 1 ∧ Hid (Below w.heap.size w wr)) (fun x _ => 1 - (intOf x).toNat)
  case atStart => exact ⟨0, rfl, Nat.zero_le _, R0⟩
  case round =>
    clear R0
    obtain ⟨k, rfl, hk, BB⟩ := hrel
    obtain ⟨-, -, -, -, g1, k1, g2, k2, c8, c9, x1, x2⟩ := (H.out.below BB.out).cells
    by_cases hk0 : k = 0
    · subst hk0
      obtain ⟨g, cap, cur, rfl, hc, hc2, -⟩ := id D.out
      have M := hide ((D.out.below BB.out).marks)
      have L : Hid (QRow wr (.slice (some ⟨g, 0, none⟩) n cap) ps) := by have := (D.out.below BB.out).row; unfold cutQ at this; simp only at this; rwa [hNh.out] at this
      have d1 : wr.cell? ⟨g, n * 4, none⟩ = some (.string ⟨#[57, 48, 57]⟩) := by have := M.out 0 _ rfl; rw [hNh.out] at this; exact this
      have d2 : wr.cell? ⟨g, (n + 1) * 4, none⟩ = some (.string ⟨#[57, 49, 48]⟩) := by have := M.out 4 _ rfl; rw [hNh.out, show n * 4 + 4 = (n + 1) * 4 by omega] at this; exact this
      rw [hNh.out] at x1 hc
      have QQ := hide (Q.out.below BB.out)
      have hsz := BB.out.size
      have l0 : (0 : Int) ≤ (n : Int) := by omega
      have l1 : (n : Int) < ((n + 2 : Nat) : Int) := by omega
      have l2 : (n : Int) + 1 < ((n + 2 : Nat) : Int) := by omega
      have l3 : (0 : Int) ≤ (n : Int) + 1 := by omega
      have l5 : IntKind.i64.wrap ((n : Int) + 1) = (n : Int) + 1 := by rw [IntKind.wrap_i64]; omega
      clear hk M
      generalize wr = w2 at *
      go_wp2
      have RI : Hid (Below w2.heap.size w2 w2) := Below.refl _ _
      go_loopw [14] (fun x wr => ∃ q : Nat, x = .int .i64 (q : Int) ∧ q ≤ n ∧ Hid (Below w2.heap.size w2 wr)) (fun x _ => n - (intOf x).toNat)
      case atStart => exact ⟨0, rfl, Nat.zero_le _, RI⟩
      case round =>
        clear RI
        obtain ⟨q, rfl, hq, BI⟩ := hrel
        have C9 := (BI.out.cell (p := ⟨hb, 9, none⟩) (World.block_lt_of_cell? _ _ c9)).trans c9
        have X2 := (BI.out.cell (p := ⟨g2, 0, none⟩) (World.block_lt_of_cell? _ _ x2)).trans x2
        have BW := hide (BB.out.then_below BI.out)
        by_cases hql : q < n
        · obtain ⟨b, off, e, a0, a1, a2, a3⟩ := (L.out.below BI.out).at_ (j := q) (by rw [hNh.out]; exact hql)
          cases e
          obtain ⟨b, off, rfl, y0, y1, y2, y3⟩ := (QQ.out.below BI.out).at_ (j := q) (by rw [hNh.out]; exact hql)
          have ql : (q : Int) < (n : Int) := by omega
          have q00 : (0 : Int) ≤ (q : Int) := by omega
          have ql2 : (q : Int) < ((n + 2 : Nat) : Int) := by omega
          rw [Nat.zero_add] at a0 a1 a2 a3
          have BN := hide (fun n => below_drewP BI.out n)
          generalize ps.getD q Pq.z = p at a0 a1 a2 a3 y0 y1 y2 y3
          obtain ⟨pa, pb, pc, pd⟩ := p
          simp only at a0 a1 a2 a3 y0 y1 y2 y3
          clear c8 c9 x1 x2 d1 d2
          go_wp2_with fail
          go_quiet (fail)
          go_wp2
          go_roundw
          case rel => exact ⟨q + 1, by go_num, by omega, BN.out _⟩
          case measure => simp [intOf]; omega
        · obtain rfl : q = n := by omega
          have D1 := (BI.out.cell (p := ⟨g, q * 4, none⟩) (World.block_lt_of_cell? _ _ d1)).trans d1
          have D2 := (BI.out.cell (p := ⟨g, (q + 1) * 4, none⟩) (World.block_lt_of_cell? _ _ d2)).trans d2
          clear c8 c9 x1 x2 d1 d2 hql hq C9 X2
          go_wp2
          go_roundw
          case rel => exact ⟨1, by go_num, by omega, BW⟩
          case measure => simp [intOf]
    · obtain rfl : k = 1 := by omega
      clear hk hk0
      go_wp2
      go_ret
      exact ⟨rfl, BB.out⟩
set_option maxRecDepth 100000 in
set_option maxHeartbeats 8000000 in
theorem kept_calls (w : World) (hb : Nat) (m v : Value) (ps : List Pq) (H : PH w hb m v) (D : DP w m ps) (Q : QRow w v ps) (n0 : ps.length ≤ 1048576) :
    Calls Tryz.prog 8 #[.pointer (some ⟨hb, 0, none⟩)] w fun e w' => e = .returned (.bool true) ∧ Below w.heap.size w w' := by
  obtain ⟨c0, -, c4, -⟩ := H.cells
  have q := hide (plain_calls w hb m v ps H D Q n0)
  clear H D Q
  go_enter Tryz.func8, Tryz.ntmps8
  go_wp2
  refine wp_loop_rounds 1 ?_
  rw [rounds_succ]
  go_wp2
  refine wp_loop_rounds 1 ?_
  rw [rounds_succ]
  go_wp2_with (go_at_call 24; refine q.out.mono ?_; rintro e w1 ⟨rfl, b1⟩; replace b1 := hide b1)
  go_ret
  exact ⟨rfl, b1.out⟩
end Go.Proofs.YtlepicdpelkmlaaGreatDoor
