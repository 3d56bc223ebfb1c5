/- Laid together of: ScanTell, ScanWords. -/
import Derived.Test.YtackibimlpkcmaaGreatDoorKz2
/- ==== ScanTell ==== -/
namespace Go.Proofs.YtackibimlpkcmaaGreatDoor
open Go.RowKit
set_option linter.unusedVariables false
theorem add_zero' (b j : Nat) : (⟨b, 0, none⟩ : Addr).add j = ⟨b, j, none⟩ := by
  unfold Addr.add
  split <;> simp_all
set_option maxRecDepth 100000 in
set_option maxHeartbeats 1600000 in
theorem tell_calls {F : Nat → Prop} {w : World} {g : Nat} {c : Sc} {acc : List UInt8} {ts : List S.Tok} {tv ov : Value} (h : SS F w g c acc ts tv ov) (s : ByteArray) (x : List UInt8) (hs : s.data.toList = x) (e : Nat) (hl : ts.length ≤ 1099511627776) :
    Calls Tryz.prog 80 #[.pointer (some ⟨g, 0, none⟩), .string s, .int .i64 e] w fun e' w' => e' = .returned (.tuple #[]) ∧ Left F w w' g c acc (ts ++ [⟨c.kind, c.beg, e, x⟩]) := by
  obtain ⟨i0, hi, hz0, hz1, hz2⟩ := info_parts infoTok
  obtain ⟨-, -, -, c3, c4, -, -, -, -, -, -, -, -, c13, -⟩ := h.cells
  have HA := hide (h.alloc (.cells #[.int .i64 c.kind, .int .i64 c.beg, .int .i64 e, .string s] 61)).drew
  have HT := hide HA.out.told
  have d13 := (h.alloc (.cells #[.int .i64 c.kind, .int .i64 c.beg, .int .i64 e, .string s] 61)).cell 13 ov rfl
  have HK := hide (((Kp.refl F w).alloc (.cells #[.int .i64 c.kind, .int .i64 c.beg, .int .i64 e, .string s] 61)).drew)
  have HN : Hid (∀ j u, ([.int .i64 c.kind, .int .i64 c.beg, .int .i64 e, .string s] : List Value)[j]? = some u → (w.alloc (.cells #[.int .i64 c.kind, .int .i64 c.beg, .int .i64 e, .string s] 61)).drew.cell? ((⟨w.heap.size, 0, none⟩ : Addr).add j) = some u) := by
    intro j u hu
    have e1 := cell_of_row _ _ j _ _ (0, 0) (heap_alloc_new w (.cells #[.int .i64 c.kind, .int .i64 c.beg, .int .i64 e, .string s] 61))
    rw [add_zero']
    refine Eq.trans e1 ?_
    simpa using hu
  have hs2 : Hid (str x = .string s) := by
    subst hs
    rfl
  obtain ⟨L, hL⟩ : ∃ L, ts.length = L := ⟨_, rfl⟩
  rw [hL] at HT hl
  clear h hs
  go_enter Tryz.func80, Tryz.ntmps80
  go_wp2
  go_region_law (refine step_append_mine rfl (.tmp 10) (.tmp 22) 36 rfl 0 61 i0 (.agg #[.int .i64 0, .int .i64 0, .int .i64 0, .string ⟨#[]⟩]) 4 40 sliceTok hi hz0 hz1 hz2 rfl (by decide) ov L (tksCells ts) (by simp [Act.eval]) HT.out ⟨w.heap.size, 0, none⟩ 1 1 [.int .i64 c.kind, .int .i64 c.beg, .int .i64 e, .string s] (by simp [Act.eval]) rfl HN.out (by simp [Value.oneCell']) (by unfold maxLen; omega) (by omega) (Nat.zero_le _) ?_; intro v' w1 o1 g1 m1; obtain ⟨ao, cap, rfl⟩ := own_shape o1; obtain ⟨dc, dz⟩ := HA.out.grown g1 HA.out.one; have d' := dc 13 ov d13; clear dc; replace o1 := hide o1; replace g1 := hide g1; replace m1 := hide m1)
  all_goals go_wp2
  all_goals go_end0
  all_goals
    have e := HA.out.newTold (ts' := ts ++ [⟨c.kind, c.beg, e, x⟩]) (by rw [tksCells_append]; simpa [tksCells, tkCells, hs2.out, hL] using o1.out) g1.out m1.out
    exact ⟨rfl, ⟨_, _, e.1⟩, HK.out.trans e.2⟩
end Go.Proofs.YtackibimlpkcmaaGreatDoor
/- ==== ScanWords ==== -/
namespace Go.Proofs.YtackibimlpkcmaaGreatDoor
open Go.RowKit
set_option linter.unusedVariables false
def words : List (List UInt8) := [[66, 73, 78, 65, 82, 89], [68, 69, 67, 73, 77, 65, 76], [72, 69, 88, 65, 68, 69, 67, 73, 77, 65, 76], [78, 85, 77, 69, 82, 65, 76], [83, 84, 82, 73, 78, 71], [95], [33], [97, 115], [108, 101, 116], [101, 120, 105, 115, 116, 115], [102, 111, 114, 97, 108, 108], [109, 97, 116, 99, 104], [112, 97, 114], [97, 115, 115, 101, 114, 116], [99, 104, 101, 99, 107, 45, 115, 97, 116], [99, 104, 101, 99, 107, 45, 115, 97, 116, 45, 97, 115, 115, 117, 109, 105, 110, 103], [100, 101, 99, 108, 97, 114, 101, 45, 99, 111, 110, 115, 116], [100, 101, 99, 108, 97, 114, 101, 45, 100, 97, 116, 97, 116, 121, 112, 101], [100, 101, 99, 108, 97, 114, 101, 45, 100, 97, 116, 97, 116, 121, 112, 101, 115], [100, 101, 99, 108, 97, 114, 101, 45, 102, 117, 110], [100, 101, 99, 108, 97, 114, 101, 45, 115, 111, 114, 116], [100, 101, 102, 105, 110, 101, 45, 99, 111, 110, 115, 116], [100, 101, 102, 105, 110, 101, 45, 102, 117, 110], [100, 101, 102, 105, 110, 101, 45, 102, 117, 110, 45, 114, 101, 99], [100, 101, 102, 105, 110, 101, 45, 102, 117, 110, 115, 45, 114, 101, 99], [100, 101, 102, 105, 110, 101, 45, 115, 111, 114, 116], [101, 99, 104, 111], [101, 120, 105, 116], [103, 101, 116, 45, 97, 115, 115, 101, 114, 116, 105, 111, 110, 115], [103, 101, 116, 45, 97, 115, 115, 105, 103, 110, 109, 101, 110, 116], [103, 101, 116, 45, 105, 110, 102, 111], [103, 101, 116, 45, 109, 111, 100, 101, 108], [103, 101, 116, 45, 111, 112, 116, 105, 111, 110], [103, 101, 116, 45, 112, 114, 111, 111, 102], [103, 101, 116, 45, 117, 110, 115, 97, 116, 45, 97, 115, 115, 117, 109, 112, 116, 105, 111, 110, 115], [103, 101, 116, 45, 117, 110, 115, 97, 116, 45, 99, 111, 114, 101], [103, 101, 116, 45, 118, 97, 108, 117, 101], [112, 111, 112], [112, 117, 115, 104], [114, 101, 115, 101, 116], [114, 101, 115, 101, 116, 45, 97, 115, 115, 101, 114, 116, 105, 111, 110, 115], [115, 101, 116, 45, 105, 110, 102, 111], [115, 101, 116, 45, 108, 111, 103, 105, 99], [115, 101, 116, 45, 111, 112, 116, 105, 111, 110]]
/-- Is it a reserved word? -/
def resv (l : List UInt8) : Bool := words.contains l
theorem str_toList' (s : ByteArray) : s.toList = s.data.toList := by
  rw [ByteArray.toList_eq]
theorem ret_bool {a b : Bool} (h : a = b) : Ending.returned (.bool a) = .returned (.bool b) := by rw [h]
theorem resv_pos {l v : List UInt8} (h : (l == v) = true) (hv : resv v = true) : resv l = true := by
  rw [eq_of_beq h]; exact hv
set_option maxRecDepth 100000 in
set_option maxHeartbeats 4000000 in
theorem reserved_calls (w : World) (s : ByteArray) (x : List UInt8) (hs : s.data.toList = x) :
    Calls Tryz.prog 60 #[.string s] w fun e w' => e = .returned (.bool (resv x)) ∧ w' = w := by
  obtain ⟨B, hB⟩ : ∃ B, resv s.toList = B := ⟨_, rfl⟩
  have e : resv x = B := by rw [← hB, str_toList', hs]
  rw [e]
  replace hB := hide hB
  clear e hs
  go_enter Tryz.func60, Tryz.ntmps60
  go_wp2
  all_goals first
    | (exfalso; simp_all; done)
    | (go_ret; exact ⟨ret_bool (hB.out.symm.trans (resv_pos (by assumption) (by decide))).symm, rfl⟩)
    | skip
  go_ret
  refine ⟨ret_bool (a := false) (hB.out.symm.trans ?_).symm, rfl⟩
  simp only [resv, words, List.contains_cons, List.contains_nil, Bool.or_false, *]
end Go.Proofs.YtackibimlpkcmaaGreatDoor
