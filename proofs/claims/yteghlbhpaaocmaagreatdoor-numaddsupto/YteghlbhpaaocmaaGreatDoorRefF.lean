/-
  The document's Mul, Quo: the same plain functions as num's.
-/
import Derived.Test.YteghlbhpaaocmaaGreatDoorRefE
import Derived.Test.YteghlbhpaaocmaaGreatDoorNumA
/- ==== RefOps ==== -/
namespace Go.Proofs.YteghlbhpaaocmaaGreatDoor
open Go.RowKit
set_option linter.unusedVariables false
theorem rMul_calls (w : World) (sa sb : ByteArray) (la lb : List UInt8) (ha : sa.data.toList = la) (hb : sb.data.toList = lb) (hla : la.length ≤ 1073741824) (hlb : lb.length ≤ 1073741824) :
    Calls Tryz.prog 19 #[.string sa, .string sb] w fun e w' => e = .returned (.tuple #[.string ⟨(mulT la lb).1.toArray⟩, .int .i64 (mulT la lb).2]) ∧ Below w.heap.size w w' := by
  cases hk : canB la && canB lb with
  | false =>
    rw [mulT_no hk]
    exact rmul_no w sa sb la lb ha hb hla hlb _ _ (canB_iff la) (canB_iff lb) hk
  | true =>
    obtain ⟨hca, hcb⟩ := both_of hk
    rw [mulT_yes hca hcb, ← mul_q la lb, ← frac_qT _ _ _ (Nat.mul_pos (can_pos hca) (can_pos hcb))]
    exact rmul_yes w sa sb la lb ha hb hla hlb hca hcb
theorem rQuo_calls (w : World) (sa sb : ByteArray) (la lb : List UInt8) (ha : sa.data.toList = la) (hb : sb.data.toList = lb) (hla : la.length ≤ 1073741824) (hlb : lb.length ≤ 1073741824) :
    Calls Tryz.prog 21 #[.string sa, .string sb] w fun e w' => e = .returned (.tuple #[.string ⟨(quoT la lb).1.toArray⟩, .int .i64 (quoT la lb).2]) ∧ Below w.heap.size w w' := by
  cases hk : canB la && canB lb with
  | false =>
    rw [quoT_no hk]
    exact rquo_no w sa sb la lb ha hb hla hlb _ _ (canB_iff la) (canB_iff lb) hk
  | true =>
    obtain ⟨hca, hcb⟩ := both_of hk
    by_cases hz : qV lb = 0
    · rw [quoT_zero hca hcb hz]
      exact rquo_zero w sa sb la lb ha hb hla hlb hca hcb ((qV_zero_iff hcb).1 hz)
    · have hp : 0 < M.dec (cup lb) := Nat.pos_of_ne_zero (fun e => hz ((qV_zero_iff hcb).2 e))
      rw [quoT_yes hca hcb hz, ← quo_q la lb, ← frac_qT _ _ _ (Nat.mul_pos (can_pos hca) hp)]
      exact rquo_yes w sa sb la lb ha hb hla hlb hca hcb hp
end Go.Proofs.YteghlbhpaaocmaaGreatDoor
