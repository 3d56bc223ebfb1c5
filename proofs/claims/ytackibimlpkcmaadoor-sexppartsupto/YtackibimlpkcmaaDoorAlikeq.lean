/-
  arbiterlaw4.alike: two lists of nodes that are alike.
-/
import Derived.Test.YtackibimlpkcmaaDoorq27
/- ==== Alike ==== -/
namespace Go.Proofs.YtackibimlpkcmaaDoor
open Go.RowKit
set_option linter.unusedVariables false
/-- The same but for the places, which are more by d (d below 0: they are not looked at). -/
def Lk (d : Int) (x y : Nd) : Prop :=
  y.kind = x.kind ∧ y.size = x.size ∧ y.text = x.text ∧ (0 ≤ d → y.pos = x.pos + d ∧ y.fin = x.fin + d ∧ -4611686018427387904 ≤ x.pos ∧ x.pos ≤ 4611686018427387904 ∧ -4611686018427387904 ≤ x.fin ∧ x.fin ≤ 4611686018427387904)
set_option maxRecDepth 100000 in
set_option maxHeartbeats 1000000 in
theorem alike_calls (w : World) (B : Nat) (va vb : Value) (fs gs : List Nd) (ha : Nds B w va fs) (hb : Nds B w vb gs) (hB : B ≤ w.heap.size) (d : Int) (hd : d ≤ 4611686018427387903) (hl : gs.length = fs.length)
    (hk : ∀ j, j < fs.length → Lk d (fs.getD j Nd.z) (gs.getD j Nd.z)) :
    Calls Tryd.prog 17 #[va, vb, .int .i64 d] w fun e w' => e = .returned (.bool true) ∧ Below w.heap.size w w' := by
  have t1 := hide ha
  have t2 := hide hb
  obtain ⟨a1, cp1, rfl, n1, ⟨n1', n1''⟩, -, -⟩ := ha
  obtain ⟨a2, cp2, rfl, n2, ⟨n2', n2''⟩, -, -⟩ := hb
  obtain ⟨LL, hLL⟩ : ∃ n, fs.length = n := ⟨_, rfl⟩
  rw [hl] at t2 n2 n2'' ⊢
  rw [hLL] at n1 n1'' n2 n2'' t1 t2 hk ⊢
  have hLh := hide hLL
  have hlh := hide hl
  replace hk := hide hk
  clear hLL hl
  have B0 : Hid (Below w.heap.size w w) := Below.refl _ w
  by_cases hd0 : 0 ≤ d
  · go_enter Tryd.func17, Tryd.ntmps17
    go_wp2
    go_loopw [7] (fun j wr => ∃ k : Nat, k ≤ LL ∧ j = .int .i64 k ∧ Hid (Below w.heap.size w wr)) (fun j _ => LL - (intOf j).toNat)
    case atStart => exact ⟨0, Nat.zero_le _, rfl, B0⟩
    case round =>
      clear B0
      obtain ⟨k, hk', rfl, hBw⟩ := hrel
      by_cases hlt : k < LL
      · have T1 := t1.out.below (hBw.out.mono hB)
        obtain ⟨g1, f1, rfl, _, x0, x1, x2, x3, x4⟩ := T1.at_ (j := k) (by rw [hLh.out]; exact hlt)
        have T2 := t2.out.below (hBw.out.mono hB)
        obtain ⟨g2, f2, rfl, _, y0, y1, y2, y3, y4⟩ := T2.at_ (j := k) (by rw [hlh.out, hLh.out]; exact hlt)
        obtain ⟨e0, e3, e4, e12⟩ := hk.out k hlt
        obtain ⟨e1, e2, b1, b2, b3, b4⟩ := e12 hd0
        rw [e0] at y0
        rw [e1] at y1
        rw [e2] at y2
        rw [e3] at y3
        rw [e4] at y4
        clear e0 e1 e2 e3 e4 e12 T1 T2
        generalize fs.getD k Nd.z = t at x0 x1 x2 x3 x4 y0 y1 y2 y3 y4 b1 b2 b3 b4
        obtain ⟨tk, tp, tf, ts, tt⟩ := t
        simp only at x0 x1 x2 x3 x4 y0 y1 y2 y3 y4 b1 b2 b3 b4
        have i1 : (k : Int) < LL := by omega
        have i0 : (0 : Int) ≤ k := by omega
        go_wp2
        go_quiet (fail)
        go_wp2
        go_quiet (fail)
        go_wp2
        go_roundw
        case rel => exact ⟨k + 1, by omega, by go_num, below_drewN hBw.out _⟩
        case measure => simp [intOf]; omega
      · go_wp2
        go_ret
        exact ⟨rfl, hBw.out⟩
  · have hdB : decide (0 ≤ d) = false := by simpa using hd0
    go_enter Tryd.func17, Tryd.ntmps17
    go_wp2
    go_loopw [7] (fun j wr => ∃ k : Nat, k ≤ LL ∧ j = .int .i64 k ∧ Hid (Below w.heap.size w wr)) (fun j _ => LL - (intOf j).toNat)
    case atStart => exact ⟨0, Nat.zero_le _, rfl, B0⟩
    case round =>
      clear B0
      obtain ⟨k, hk', rfl, hBw⟩ := hrel
      by_cases hlt : k < LL
      · have T1 := t1.out.below (hBw.out.mono hB)
        obtain ⟨g1, f1, rfl, _, x0, x1, x2, x3, x4⟩ := T1.at_ (j := k) (by rw [hLh.out]; exact hlt)
        have T2 := t2.out.below (hBw.out.mono hB)
        obtain ⟨g2, f2, rfl, _, y0, y1, y2, y3, y4⟩ := T2.at_ (j := k) (by rw [hlh.out, hLh.out]; exact hlt)
        obtain ⟨e0, e3, e4, -⟩ := hk.out k hlt
        rw [e0] at y0
        rw [e3] at y3
        rw [e4] at y4
        clear e0 e3 e4 T1 T2 y1 y2 x1 x2
        generalize fs.getD k Nd.z = t at x0 x3 x4 y0 y3 y4
        obtain ⟨tk, tp, tf, ts, tt⟩ := t
        simp only at x0 x3 x4 y0 y3 y4
        have i1 : (k : Int) < LL := by omega
        have i0 : (0 : Int) ≤ k := by omega
        go_wp2
        go_quiet (fail)
        go_wp2
        go_quiet (fail)
        go_wp2
        go_roundw
        case rel => exact ⟨k + 1, by omega, by go_num, below_drewN hBw.out _⟩
        case measure => simp [intOf]; omega
      · go_wp2
        go_ret
        exact ⟨rfl, hBw.out⟩
end Go.Proofs.YtackibimlpkcmaaDoor
