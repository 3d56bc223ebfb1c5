/-
  Lists of nodes read off, the law's helpers same and no.
-/
import Derived.Test.YtjbalgjdcdmjjaaDoorSexpRead
namespace Go.Proofs.YtjbalgjdcdmjjaaDoor
open Go.RowKit
set_option linter.unusedVariables false
theorem NRow.shape {w : World} {v : Value} {ns : List X.N} (h : NRow w v ns) : ∃ a cap, v = .slice a ns.length cap ∧ ns.length ≤ cap ∧ cap ≤ 9223372036854775807 := by
  obtain ⟨a, cap, rfl, h1, h2, h4⟩ := h
  exact ⟨a, cap, rfl, h1, h2⟩
theorem NRow.at_ {w : World} {a : Option Addr} {n cap : Nat} {ns : List X.N} (h : NRow w (.slice a n cap) ns) {j : Nat} (hj : j < ns.length) :
    ∃ b off, a = some ⟨b, off, none⟩ ∧ w.cell? ⟨b, off + j * 5, none⟩ = some (.int .i64 (ns.getD j X.n0).kind) ∧
      w.cell? ⟨b, off + j * 5 + 1, none⟩ = some (.int .i64 (ns.getD j X.n0).beg) ∧
      w.cell? ⟨b, off + j * 5 + 2, none⟩ = some (.int .i64 (ns.getD j X.n0).fin) ∧
      w.cell? ⟨b, off + j * 5 + 3, none⟩ = some (.int .i64 (ns.getD j X.n0).size) ∧
      w.cell? ⟨b, off + j * 5 + 4, none⟩ = some (.string ⟨(ns.getD j X.n0).text.toArray⟩) := by
  obtain ⟨a', cap', e, h1, h2, h4⟩ := h
  cases e
  obtain ⟨b, off, rfl, hc⟩ := h4 (by intro e; rw [e] at hj; simp at hj)
  exact ⟨b, off, rfl, hc j hj⟩
set_option maxRecDepth 100000 in
set_option maxHeartbeats 600000 in
theorem sameN_calls (w : World) (va vb : Value) (ns : List X.N) (ha : NRow w va ns) (hb : NRow w vb ns) :
    Calls Tryd.prog 17 #[va, vb] w fun e w' => e = .returned (.bool true) ∧ Below w.heap.size w w' := by
  obtain ⟨LL, hLL⟩ : ∃ n, ns.length = n := ⟨_, rfl⟩
  obtain ⟨a1, cp1, rfl, n1, n1'⟩ := ha.shape
  obtain ⟨a2, cp2, rfl, n2, n2'⟩ := hb.shape
  have t1 := hide ha
  have t2 := hide hb
  rw [hLL] at n1 n2 t1 t2 ⊢
  have hLh := hide hLL
  clear ha hb hLL
  have B0 : Hid (Below w.heap.size w w) := Below.refl _ w
  go_enter Tryd.func17, Tryd.ntmps17
  go_wp2
  go_loopw [5] (fun j wr => ∃ k : Nat, k ≤ LL ∧ j = .int .i64 k ∧ Hid (Below w.heap.size w wr)) (fun j _ => LL - (intOf j).toNat)
  case atStart => exact ⟨0, Nat.zero_le _, rfl, B0⟩
  case round =>
    clear B0
    obtain ⟨k, hk, rfl, hB⟩ := hrel
    by_cases hlt : k < LL
    · have T1 := t1.out.below hB.out
      obtain ⟨g1, f1, rfl, x0, x1, x2, x3, x4⟩ := T1.at_ (j := k) (by rw [hLh.out]; exact hlt)
      have T2 := t2.out.below hB.out
      obtain ⟨g2, f2, rfl, y0, y1, y2, y3, y4⟩ := T2.at_ (j := k) (by rw [hLh.out]; exact hlt)
      generalize ns.getD k X.n0 = t at x0 x1 x2 x3 x4 y0 y1 y2 y3 y4
      have i1 : (k : Int) < LL := by omega
      clear T1 T2
      go_wp2
      go_quiet (fail)
      go_wp2
      go_roundw
      case rel => exact ⟨k + 1, by omega, by go_num, below_drewN hB.out _⟩
      case measure => simp [intOf]; omega
    · go_wp2
      go_ret
      exact ⟨rfl, hB.out⟩
set_option maxRecDepth 100000 in
set_option maxHeartbeats 600000 in
theorem no_calls (w : World) (z : Int) : Calls Tryd.prog 22 #[.int .i64 z] w fun e w' => e = .returned (.int .i64 z) ∧ w' = w := by
  go_enter Tryd.func22, Tryd.ntmps22
  go_wp2
  go_ret
  exact ⟨rfl, rfl⟩
end Go.Proofs.YtjbalgjdcdmjjaaDoor
