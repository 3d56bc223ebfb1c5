/-
  The reserved words.
-/
import Derived.Test.YtjbalgjdcdmjjaaDoorScanOps
namespace Go.Proofs.YtjbalgjdcdmjjaaDoor
open Go.RowKit
set_option linter.unusedVariables false
def words : List (List UInt8) := [[66, 73, 78, 65, 82, 89], [68, 69, 67, 73, 77, 65, 76], [72, 69, 88, 65, 68, 69, 67, 73, 77, 65, 76], [78, 85, 77, 69, 82, 65, 76], [83, 84, 82, 73, 78, 71], [95], [33], [97, 115], [108, 101, 116], [101, 120, 105, 115, 116, 115], [102, 111, 114, 97, 108, 108], [109, 97, 116, 99, 104], [112, 97, 114], [97, 115, 115, 101, 114, 116], [99, 104, 101, 99, 107, 45, 115, 97, 116], [99, 104, 101, 99, 107, 45, 115, 97, 116, 45, 97, 115, 115, 117, 109, 105, 110, 103], [100, 101, 99, 108, 97, 114, 101, 45, 99, 111, 110, 115, 116], [100, 101, 99, 108, 97, 114, 101, 45, 100, 97, 116, 97, 116, 121, 112, 101], [100, 101, 99, 108, 97, 114, 101, 45, 100, 97, 116, 97, 116, 121, 112, 101, 115], [100, 101, 99, 108, 97, 114, 101, 45, 102, 117, 110], [100, 101, 99, 108, 97, 114, 101, 45, 115, 111, 114, 116], [100, 101, 102, 105, 110, 101, 45, 99, 111, 110, 115, 116], [100, 101, 102, 105, 110, 101, 45, 102, 117, 110], [100, 101, 102, 105, 110, 101, 45, 102, 117, 110, 45, 114, 101, 99], [100, 101, 102, 105, 110, 101, 45, 102, 117, 110, 115, 45, 114, 101, 99], [100, 101, 102, 105, 110, 101, 45, 115, 111, 114, 116], [101, 99, 104, 111], [101, 120, 105, 116], [103, 101, 116, 45, 97, 115, 115, 101, 114, 116, 105, 111, 110, 115], [103, 101, 116, 45, 97, 115, 115, 105, 103, 110, 109, 101, 110, 116], [103, 101, 116, 45, 105, 110, 102, 111], [103, 101, 116, 45, 109, 111, 100, 101, 108], [103, 101, 116, 45, 111, 112, 116, 105, 111, 110], [103, 101, 116, 45, 112, 114, 111, 111, 102], [103, 101, 116, 45, 117, 110, 115, 97, 116, 45, 97, 115, 115, 117, 109, 112, 116, 105, 111, 110, 115], [103, 101, 116, 45, 117, 110, 115, 97, 116, 45, 99, 111, 114, 101], [103, 101, 116, 45, 118, 97, 108, 117, 101], [112, 111, 112], [112, 117, 115, 104], [114, 101, 115, 101, 116], [114, 101, 115, 101, 116, 45, 97, 115, 115, 101, 114, 116, 105, 111, 110, 115], [115, 101, 116, 45, 105, 110, 102, 111], [115, 101, 116, 45, 108, 111, 103, 105, 99], [115, 101, 116, 45, 111, 112, 116, 105, 111, 110]]
/-- Is it a reserved word? -/
def resv (l : List UInt8) : Bool := words.contains l
theorem str_toList' (s : ByteArray) : s.toList = s.data.toList := by
  rw [ByteArray.toList_eq]
theorem ret_bool {a b : Bool} (h : a = b) : Ending.returned (.bool a) = .returned (.bool b) := by rw [h]
theorem resv_pos {l v : List UInt8} (h : (l == v) = true) (hv : resv v = true) : resv l = true := by
  rw [eq_of_beq h]; exact hv
set_option maxRecDepth 100000 in
set_option maxHeartbeats 4000000 in
theorem reserved_calls (w : World) (s : ByteArray) (x : List UInt8) (hs : s.data.toList = x) :
    Calls Tryd.prog 84 #[.string s] w fun e w' => e = .returned (.bool (resv x)) ∧ w' = w := by
  obtain ⟨B, hB⟩ : ∃ B, resv s.toList = B := ⟨_, rfl⟩
  have e : resv x = B := by rw [← hB, str_toList', hs]
  rw [e]
  replace hB := hide hB
  clear e hs
  go_enter Tryd.func84, Tryd.ntmps84
  go_wp2
  all_goals first
    | (exfalso; simp_all; done)
    | (go_ret; exact ⟨ret_bool (hB.out.symm.trans (resv_pos (by assumption) (by decide))).symm, rfl⟩)
    | skip
  go_ret
  refine ⟨ret_bool (a := false) (hB.out.symm.trans ?_).symm, rfl⟩
  simp only [resv, words, List.contains_cons, List.contains_nil, Bool.or_false, *]
end Go.Proofs.YtjbalgjdcdmjjaaDoor
