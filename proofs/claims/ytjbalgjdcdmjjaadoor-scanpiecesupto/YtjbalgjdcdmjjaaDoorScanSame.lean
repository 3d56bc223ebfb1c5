/-
  Two lists of tokens that are alike; the law ScanTokens.
-/
import Derived.Test.YtjbalgjdcdmjjaaDoorRefScan12
import Derived.Test.YtjbalgjdcdmjjaaDoorScanBehind
namespace Go.Proofs.YtjbalgjdcdmjjaaDoor
open Go.RowKit
set_option linter.unusedVariables false
set_option maxRecDepth 100000 in
set_option maxHeartbeats 600000 in
theorem same_calls (w : World) (va vb : Value) (ts : List S.Tok) (ha : TRow w va ts) (hb : TRow w vb ts) (hts : ts.length ≤ 4294967298) :
    Calls Tryd.prog 28 #[va, vb] w fun e w' => e = .returned (.bool true) ∧ Below w.heap.size w w' := by
  obtain ⟨LL, hLL⟩ : ∃ n, ts.length = n := ⟨_, rfl⟩
  obtain ⟨a1, cp1, rfl, n1, n1'⟩ := ha.shape
  obtain ⟨a2, cp2, rfl, n2, n2'⟩ := hb.shape
  have t1 := hide ha
  have t2 := hide hb
  rw [hLL] at n1 n2 hts t1 t2 ⊢
  have hLh := hide hLL
  clear ha hb hLL
  have B0 : Hid (Below w.heap.size w w) := Below.refl _ w
  go_enter Tryd.func28, Tryd.ntmps28
  go_wp2
  go_loopw [5] (fun j wr => ∃ k : Nat, k ≤ LL ∧ j = .int .i64 k ∧ Hid (Below w.heap.size w wr)) (fun j _ => LL - (intOf j).toNat)
  case atStart => exact ⟨0, Nat.zero_le _, rfl, B0⟩
  case round =>
    clear B0
    obtain ⟨k, hk, rfl, hB⟩ := hrel
    by_cases hlt : k < LL
    · have T1 := t1.out.below hB.out
      obtain ⟨g1, f1, rfl, x0, x1, x2, x3⟩ := T1.at_ (j := k) (by rw [hLh.out]; exact hlt)
      have T2 := t2.out.below hB.out
      obtain ⟨g2, f2, rfl, y0, y1, y2, y3⟩ := T2.at_ (j := k) (by rw [hLh.out]; exact hlt)
      generalize ts.getD k tk0 = t at x0 x1 x2 x3 y0 y1 y2 y3
      have i1 : (k : Int) < LL := by omega
      clear T1 T2
      go_wp2
      go_quiet (fail)
      go_wp2
      go_roundw
      case rel => exact ⟨k + 1, by omega, by go_num, below_drewN hB.out _⟩
      case measure => simp [intOf]; omega
    · go_wp2
      go_ret
      exact ⟨rfl, hB.out⟩
end Go.Proofs.YtjbalgjdcdmjjaaDoor
