/-
  New: an order whose variables all wait.
-/
import Derived.Test.YtigbclhkmjcjjaaOrdPut
import Derived.Deep.DeepCutAuto
namespace Go.Proofs.Ytigbclhkmjcjjaa
open Go.RowKit
set_option linter.unusedVariables false
theorem ord_make {P : Program} (w : World) (t e : TypeId) (z : Value) (bytes : Nat) (h1 : P.underlying t = some (.slice e)) (h2 : (P.info? e).map (fun i => (i.zero, i.size, i.bytes)) = some (some z, 1, bytes)) (hzc : z.cells = #[z]) (n : Nat) (hb : bytes ≤ 8) (hn : n ≤ 35184372088832) :
    (Instr.makeSlice t (.int .i64 (n : Int)) (.int .i64 (n : Int))).run P w = .ok (.slice (some ⟨w.heap.size, 0, none⟩) n n) (w.alloc (.cells (List.replicate n z).toArray e)) := by
  obtain ⟨i, hi, hz0, hz1, hz2⟩ := info_parts h2
  have hbn : i.bytes * n ≤ 8 * 35184372088832 := Nat.mul_le_mul (by omega) hn
  have hrun := run_make (P := P) w t e i z h1 hi hz0 .i64 .i64 n n (by omega) (Int.le_refl _) (by
    have : ((i.bytes * n : Nat) : Int) ≤ 281474976710656 := by omega
    simpa using this) (by omega)
  have hcells : (madeCells z.cells ((n : Int).toNat * i.size)) = (List.replicate n z).toArray := by
    rw [hz1, hzc]
    simp [madeCells]
    apply Array.ext
    · simp
    · intro j h1 h2
      simp [Nat.mod_one]
  rw [hcells] at hrun
  simpa only [Int.toNat_natCast] using hrun
theorem pushNew {α : Type} (h : Array α) (x : α) {k : Nat} (e : k = h.size) : (h.push x)[k]? = some x := by subst e; simp
theorem pushOld {α : Type} (h : Array α) (x : α) {k : Nat} (e : k < h.size) : (h.push x)[k]? = h[k]? := by
  rw [Array.getElem?_push, if_neg (Nat.ne_of_lt e)]
theorem heap5 {α : Type} (h : Array α) (x0 x1 x2 x3 x4 : α) : (((((h.push x0).push x1).push x2).push x3).push x4)[h.size]? = some x0 ∧ (((((h.push x0).push x1).push x2).push x3).push x4)[h.size + 1]? = some x1 ∧ (((((h.push x0).push x1).push x2).push x3).push x4)[h.size + 1 + 1]? = some x2 ∧ (((((h.push x0).push x1).push x2).push x3).push x4)[h.size + 1 + 1 + 1]? = some x3 ∧ (((((h.push x0).push x1).push x2).push x3).push x4)[h.size+1+1+1+1]? = some x4 := by
  have s1 : (h.push x0).size = h.size + 1 := Array.size_push ..
  have s2 : ((h.push x0).push x1).size = h.size + 1 + 1 := by rw [Array.size_push, s1]
  have s3 : (((h.push x0).push x1).push x2).size = h.size + 1 + 1 + 1 := by rw [Array.size_push, s2]
  have s4 : ((((h.push x0).push x1).push x2).push x3).size = h.size + 1 + 1 + 1 + 1 := by rw [Array.size_push, s3]
  refine ⟨?_, ?_, ?_, ?_, ?_⟩
  · rw [pushOld _ _ (by omega), pushOld _ _ (by omega), pushOld _ _ (by omega), pushOld _ _ (by omega), pushNew _ _ rfl]
  · rw [pushOld _ _ (by omega), pushOld _ _ (by omega), pushOld _ _ (by omega), pushNew _ _ (by omega)]
  · rw [pushOld _ _ (by omega), pushOld _ _ (by omega), pushNew _ _ (by omega)]
  · rw [pushOld _ _ (by omega), pushNew _ _ (by omega)]
  · rw [pushNew _ _ (by omega)]
theorem new5 (w : World) (x0 x1 x2 x3 x4 : Obj) : (((((w.alloc x0).alloc x1).alloc x2).alloc x3).alloc x4).heap[w.heap.size]? = some x0 ∧ (((((w.alloc x0).alloc x1).alloc x2).alloc x3).alloc x4).heap[w.heap.size + 1]? = some x1 ∧
    (((((w.alloc x0).alloc x1).alloc x2).alloc x3).alloc x4).heap[w.heap.size + 1 + 1]? = some x2 ∧ (((((w.alloc x0).alloc x1).alloc x2).alloc x3).alloc x4).heap[w.heap.size + 1 + 1 + 1]? = some x3 ∧ (((((w.alloc x0).alloc x1).alloc x2).alloc x3).alloc x4).heap[w.heap.size + 1 + 1 + 1 + 1]? = some x4 := heap5 w.heap x0 x1 x2 x3 x4
def newS (n : Nat) : OS := { A := List.replicate (n + 1) 0, r := 1065353216, ph := List.replicate (n + 1) false, Z := List.replicate n 0, hl := n, pl := List.replicate (n + 1) 0 }
def newO (n : Nat) : OS := { A := List.replicate (n + 1) 0, r := 1065353216, ph := List.replicate (n + 1) false, Z := (List.range n).map (· + 1), hl := n, pl := 0 :: (List.range n).map (fun i : Nat => (i : Int)) }
/-- The first k wait. -/
def newM (n k : Nat) : OS := { A := List.replicate (n + 1) 0, r := 1065353216, ph := List.replicate (n + 1) false, Z := (List.range k).map (· + 1) ++ List.replicate (n - k) 0, hl := n, pl := 0 :: ((List.range k).map (fun i : Nat => (i : Int)) ++ List.replicate (n - k) 0) }
theorem newM_zero (n : Nat) : newM n 0 = newS n := by simp [newM, newS, List.replicate_succ]
theorem newM_all (n : Nat) : newM n n = newO n := by simp [newM, newO]
theorem fill_set {α : Type} (f : Nat → α) (z : α) {n k : Nat} (h : k < n) : ((List.range k).map f ++ List.replicate (n - k) z).set k (f k) = (List.range (k + 1)).map f ++ List.replicate (n - (k + 1)) z := by
  obtain ⟨m, rfl⟩ : ∃ m, n = k + 1 + m := ⟨n - (k + 1), by omega⟩
  rw [List.set_append_right _ _ (by simp), List.range_succ, List.map_append, List.append_assoc, show k + 1 + m - k = m + 1 from by omega, show k + 1 + m - (k + 1) = m from by omega]
  simp [List.replicate_succ]
theorem newM_step {n k : Nat} (h : k < n) : { newM n k with Z := (newM n k).Z.set k (k + 1), pl := (newM n k).pl.set (k + 1) (k : Int) } = newM n (k + 1) := by
  unfold newM
  simp only [List.set_cons_succ]
  rw [fill_set (· + 1) 0 h, fill_set (fun i : Nat => (i : Int)) 0 h]
/-- Five new blocks are an order, in whatever order they were made. -/
theorem new_ord {w : World} {n : Nat} (hn : n ≤ 1000000) {W : World} (P a b c d : Nat) (hP : W.heap[P]? = some (.cells #[.slice (some ⟨a, 0, none⟩) (n + 1) (n + 1), .float .f32 1065353216, .slice (some ⟨b, 0, none⟩) (n + 1) (n + 1), .slice (some ⟨c, 0, none⟩) n n, .slice (some ⟨d, 0, none⟩) (n + 1) (n + 1)] 54))
    (ha : W.heap[a]? = some (.cells (List.replicate (n + 1) (Value.float .f32 0)).toArray 50)) (hb : W.heap[b]? = some (.cells (List.replicate (n + 1) (Value.bool false)).toArray 4))
    (hc : W.heap[c]? = some (.cells (List.replicate n (Value.int .i64 0)).toArray 3)) (hd : W.heap[d]? = some (.cells (List.replicate (n + 1) (Value.int .i64 0)).toArray 3)) (hcd : c ≠ d)
    (hC : Chg [] w W) (hg : w.heap.size ≤ P ∧ w.heap.size ≤ a ∧ w.heap.size ≤ b ∧ w.heap.size ≤ c ∧ w.heap.size ≤ d) :
    ∃ o : Oid, o.n = n ∧ Value.pointer (some ⟨P, 0, none⟩) = optr o ∧ Hid (Ord W o (newS n)) ∧ Hid (∀ b, b ∈ blks o → w.heap.size ≤ b) ∧ Hid (Chg [] w W) := by
  refine ⟨⟨P, a, b, c, d, n⟩, rfl, rfl, ⟨hP, ?_, ?_, ?_, ?_, ?_, ?_, ?_, ?_, Nat.le_refl _, hcd, hn⟩, ?_, hC⟩
  · unfold OwnF newS; rw [ha]; simp
  · unfold OwnB newS; rw [hb]; simp
  · unfold OwnZ newS; rw [hc]; simp
  · unfold Own newS; rw [hd]; simp
  · simp [newS]
  · simp [newS]
  · simp [newS]
  · simp [newS]
  · intro x hx
    simp only [blks, List.mem_cons, List.not_mem_nil, or_false] at hx
    rcases hx with rfl | rfl | rfl | rfl | rfl
    · exact hg.1
    · exact hg.2.1
    · exact hg.2.2.1
    · exact hg.2.2.2.1
    · exact hg.2.2.2.2
theorem new_neg (w : World) (n : Int) (h : n < 0) : Calls Try.prog 19 #[.int .i64 n] w fun e w' => e = .returned (.tuple #[.pointer none, .int .i64 70]) ∧ w' = w := by
  go_enter Try.func19, Try.ntmps19
  go_wp2
  go_ret2
  exact ⟨rfl, rfl⟩
theorem new_big (w : World) (n : Int) (h : 1000000 < n) : Calls Try.prog 19 #[.int .i64 n] w fun e w' => e = .returned (.tuple #[.pointer none, .int .i64 46]) ∧ w' = w := by
  have h0 : ¬ n < 0 := by omega
  go_enter Try.func19, Try.ntmps19
  go_wp2
  go_ret2
  exact ⟨rfl, rfl⟩
theorem ordInfoF : (Try.prog.info? 50).map (fun i => (i.zero, i.size, i.bytes)) = some (some (.float .f32 0), 1, 4) := by kernel_rfl
theorem ordInfoB : (Try.prog.info? 4).map (fun i => (i.zero, i.size, i.bytes)) = some (some (.bool false), 1, 1) := by kernel_rfl
theorem ordSliceF : Try.prog.underlying 51 = some (.slice 50) := by kernel_rfl
theorem ordSliceB : Try.prog.underlying 52 = some (.slice 4) := by kernel_rfl
set_option maxRecDepth 100000 in
set_option maxHeartbeats 16000000 in
theorem new_calls (w : World) (n : Nat) (hn : n ≤ 1000000) :
    Calls Try.prog 19 #[.int .i64 n] w fun e w' => ∃ o, o.n = n ∧ e = .returned (.tuple #[optr o, .int .i64 0]) ∧ Ord w' o (newO n) ∧ (∀ b, b ∈ blks o → w.heap.size ≤ b) ∧ Chg [] w w' := by
  obtain ⟨FF, hF⟩ : ∃ X : Obj, X = .cells (List.replicate (n + 1) (Value.float .f32 0)).toArray 50 := ⟨_, rfl⟩
  obtain ⟨BB, hB⟩ : ∃ X : Obj, X = .cells (List.replicate (n + 1) (Value.bool false)).toArray 4 := ⟨_, rfl⟩
  obtain ⟨II, hI⟩ : ∃ X : Obj, X = .cells (List.replicate n (Value.int .i64 0)).toArray 3 := ⟨_, rfl⟩
  obtain ⟨PP, hP⟩ : ∃ X : Obj, X = .cells (List.replicate (n + 1) (Value.int .i64 0)).toArray 3 := ⟨_, rfl⟩
  have m1 : ∀ W : World, (Instr.makeSlice 51 (.int .i64 ((n : Int) + 1)) (.int .i64 ((n : Int) + 1))).run Try.prog W = .ok (.slice (some ⟨W.heap.size, 0, none⟩) (n + 1) (n + 1)) (W.alloc FF) := by
    intro W; rw [hF]; exact ord_make W 51 50 _ 4 ordSliceF ordInfoF rfl (n + 1) (by decide) (by omega)
  have m2 : ∀ W : World, (Instr.makeSlice 52 (.int .i64 ((n : Int) + 1)) (.int .i64 ((n : Int) + 1))).run Try.prog W = .ok (.slice (some ⟨W.heap.size, 0, none⟩) (n + 1) (n + 1)) (W.alloc BB) := by
    intro W; rw [hB]; exact ord_make W 52 4 _ 1 ordSliceB ordInfoB rfl (n + 1) (by decide) (by omega)
  have m3 : ∀ W : World, (Instr.makeSlice 26 (.int .i64 (n : Int)) (.int .i64 (n : Int))).run Try.prog W = .ok (.slice (some ⟨W.heap.size, 0, none⟩) n n) (W.alloc II) := by
    intro W; rw [hI]; exact ord_make W 26 3 _ 8 ordSliceInt ordInfoInt rfl n (by decide) (by omega)
  have m4 : ∀ W : World, (Instr.makeSlice 26 (.int .i64 ((n : Int) + 1)) (.int .i64 ((n : Int) + 1))).run Try.prog W = .ok (.slice (some ⟨W.heap.size, 0, none⟩) (n + 1) (n + 1)) (W.alloc PP) := by
    intro W; rw [hP]; exact ord_make W 26 3 _ 8 ordSliceInt ordInfoInt rfl (n + 1) (by decide) (by omega)
  replace hF := hide hF
  replace hB := hide hB
  replace hI := hide hI
  replace hP := hide hP
  go_enter Try.func19, Try.ntmps19
  go_upto_region 5 with fail
  go_cut [4] (fun s4 wx => ∃ o : Oid, o.n = n ∧ s4 = optr o ∧ Hid (Ord wx o (newS n)) ∧ Hid (∀ b, b ∈ blks o → w.heap.size ≤ b) ∧ Hid (Chg [] w wx))
  case first =>
    go_region
    all_goals (go_wp2_with fail; go_meet)
    all_goals
      rw [hF.out, hB.out, hI.out, hP.out]
      obtain ⟨n0, n1, n2, n3, n4⟩ := new5 w _ _ _ _ _
      exact new_ord (w := w) hn _ _ _ _ _ n4 (by first | exact n0 | exact n1 | exact n2 | exact n3) (by first | exact n0 | exact n1 | exact n2 | exact n3) (by first | exact n0 | exact n1 | exact n2 | exact n3) (by first | exact n0 | exact n1 | exact n2 | exact n3) (by omega)
        ((((((Chg.refl _ w).alloc _).alloc _).alloc _).alloc _).alloc _).drew (by omega)
  case rest =>
  obtain ⟨o, hon, rfl, HO, HB, HC⟩ := hcut
  subst hon
  clear m1 m2 m3 m4 hF hB hI hP
  have HO0 := HO.out
  rw [← newM_zero] at HO0
  replace HO0 := hide HO0
  have HC0 := hide (HC.out.mono (S' := blks o) (fun b hb => by simp at hb))
  clear HO HC
  go_wp2
  go_loopw [24] (fun j wr => ∃ k : Nat, j = .int .i64 k ∧ k ≤ o.n ∧ Hid (Ord wr o (newM o.n k)) ∧ Hid (Chg (blks o) w wr)) (fun j _ => o.n - (intOf j).toNat)
  case atStart => exact ⟨0, rfl, Nat.zero_le _, HO0, HC0⟩
  case round =>
    obtain ⟨k, rfl, hk, HO, HC⟩ := hrel
    clear HO0 HC0
    by_cases hlt : k < o.n
    · have c3 := HO.out.c3
      have ck := HO.out.hea (j := k) hlt
      have fk := HO.out.heaFree k
      rw [show (newM o.n k).hl = o.n from rfl] at c3
      have O1 : Ord (wr.setCell ⟨o.gh, k, none⟩ (.int .i64 ((k : Int) + 1))) o { newM o.n k with Z := (newM o.n k).Z.set k (k + 1) } := HO.out.setHea k (k + 1)
      have c4 := O1.c4
      have cp := O1.pla (j := k + 1) (by omega)
      have fp := O1.plaFree (k + 1)
      have O2 : Ord ((wr.setCell ⟨o.gh, k, none⟩ (.int .i64 ((k : Int) + 1))).setCell ⟨o.gl, k + 1, none⟩ (.int .i64 (k : Int))) o (newM o.n (k + 1)) := by
        have := O1.setPla (k + 1) (k : Int)
        rw [← newM_step hlt]
        exact this
      have C2 := (HC.out.set (g := o.gh) (j := k) (by simp [blks]) (.int .i64 ((k : Int) + 1))).set (g := o.gl) (j := k + 1) (by simp [blks]) (.int .i64 (k : Int))
      generalize List.getD (newM o.n k).Z k 0 = q1 at ck
      generalize List.getD _ (k + 1) 0 = q2 at cp
      replace O1 := hide O1
      replace O2 := hide O2
      replace C2 := hide C2
      have g1 : (k : Int) < (o.n : Int) := by omega
      have g2 : (k : Int) + 1 < (o.n : Int) + 1 := by omega
      have g3 : ((k : Int) + 1).toNat = k + 1 := by omega
      have g4 : 0 ≤ (k : Int) + 1 := by omega
      go_wp2
      go_roundw
      case rel => exact ⟨k + 1, by go_num, by omega, O2, C2⟩
      case measure => simp [intOf]; omega
    · obtain rfl : k = o.n := by omega
      clear hlt hk
      go_wp2
      go_ret2
      refine ⟨o, rfl, rfl, ?_, HB.out, Chg.of_below (HC.out.below (Nat.le_refl _) HB.out)⟩
      rw [← newM_all]
      exact HO.out
end Go.Proofs.Ytigbclhkmjcjjaa
