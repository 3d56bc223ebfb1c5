/-
  The scanner's own small methods, on: tell.
-/
import Derived.Test.YtjbalgjdcdmjjaaDoorScanOps2
namespace Go.Proofs.YtjbalgjdcdmjjaaDoor
open Go.RowKit
set_option linter.unusedVariables false
theorem add_zero' (b j : Nat) : (⟨b, 0, none⟩ : Addr).add j = ⟨b, j, none⟩ := by
  unfold Addr.add
  split <;> simp_all
set_option maxRecDepth 100000 in
set_option maxHeartbeats 1600000 in
theorem tell_calls {F : Nat → Prop} {w : World} {g : Nat} {c : Sc} {acc : List UInt8} {ts : List S.Tok} {tv ov : Value} (h : SS F w g c acc ts tv ov) (s : ByteArray) (x : List UInt8) (hs : s.data.toList = x) (e : Nat) (hl : ts.length ≤ 1099511627776) :
    Calls Tryd.prog 71 #[.pointer (some ⟨g, 0, none⟩), .string s, .int .i64 e] w fun e' w' => e' = .returned (.tuple #[]) ∧ Left F w w' g c acc (ts ++ [⟨c.kind, c.beg, e, x⟩]) := by
  obtain ⟨i0, hi, hz0, hz1, hz2⟩ := info_parts infoTok
  obtain ⟨-, -, -, c3, c4, -, -, -, -, -, -, -, -, c13, -⟩ := h.cells
  have HA := hide (h.alloc (.cells #[.int .i64 c.kind, .int .i64 c.beg, .int .i64 e, .string s] 66)).drew
  have HT := hide HA.out.told
  have d13 := (h.alloc (.cells #[.int .i64 c.kind, .int .i64 c.beg, .int .i64 e, .string s] 66)).cell 13 ov rfl
  have HK := hide (((Kp.refl F w).alloc (.cells #[.int .i64 c.kind, .int .i64 c.beg, .int .i64 e, .string s] 66)).drew)
  have HN : Hid (∀ j u, ([.int .i64 c.kind, .int .i64 c.beg, .int .i64 e, .string s] : List Value)[j]? = some u → (w.alloc (.cells #[.int .i64 c.kind, .int .i64 c.beg, .int .i64 e, .string s] 66)).drew.cell? ((⟨w.heap.size, 0, none⟩ : Addr).add j) = some u) := by
    intro j u hu
    have e1 := cell_of_row _ _ j _ _ (0, 0) (heap_alloc_new w (.cells #[.int .i64 c.kind, .int .i64 c.beg, .int .i64 e, .string s] 66))
    rw [add_zero']
    refine Eq.trans e1 ?_
    simpa using hu
  have hs2 : Hid (str x = .string s) := by
    subst hs
    rfl
  obtain ⟨L, hL⟩ : ∃ L, ts.length = L := ⟨_, rfl⟩
  rw [hL] at HT hl
  clear h hs
  go_enter Tryd.func71, Tryd.ntmps71
  go_wp2
  go_region_law (refine step_append_mine rfl (.tmp 10) (.tmp 22) 26 rfl 0 66 i0 (.agg #[.int .i64 0, .int .i64 0, .int .i64 0, .string ⟨#[]⟩]) 4 40 sliceTok hi hz0 hz1 hz2 rfl (by decide) ov L (tksCells ts) (by simp [Act.eval]) HT.out ⟨w.heap.size, 0, none⟩ 1 1 [.int .i64 c.kind, .int .i64 c.beg, .int .i64 e, .string s] (by simp [Act.eval]) rfl HN.out (by simp [Value.oneCell']) (by unfold maxLen; omega) (by omega) (Nat.zero_le _) ?_; intro v' w1 o1 g1 m1; obtain ⟨ao, cap, rfl⟩ := own_shape o1; obtain ⟨dc, dz⟩ := HA.out.grown g1 HA.out.one; have d' := dc 13 ov d13; clear dc; replace o1 := hide o1; replace g1 := hide g1; replace m1 := hide m1)
  all_goals go_wp2
  all_goals go_end0
  all_goals
    have e := HA.out.newTold (ts' := ts ++ [⟨c.kind, c.beg, e, x⟩]) (by rw [tksCells_append]; simpa [tksCells, tkCells, hs2.out, hL] using o1.out) g1.out m1.out
    exact ⟨rfl, ⟨_, _, e.1⟩, HK.out.trans e.2⟩
end Go.Proofs.YtjbalgjdcdmjjaaDoor
