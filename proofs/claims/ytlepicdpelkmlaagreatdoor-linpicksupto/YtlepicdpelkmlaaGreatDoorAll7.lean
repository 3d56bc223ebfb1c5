/- Laid together of: WriteParts, WriteHalves, FormatUint, ParseNat, NatText, Rat1, Rat2. -/
import Derived.Test.YtlepicdpelkmlaaGreatDoorAll6
import Derived.Test.YtlepicdpelkmlaaGreatDoorAll1
import Derived.Test.YtlepicdpelkmlaaGreatDoorShelf
import Derived.Lib.ItoaMem
import Derived.Lib.AppendIntMem
import Derived.Test.YtlepicdpelkmlaaGreatDoorAll5
/- ==== WriteParts ==== -/
namespace Go.Proofs.YtlepicdpelkmlaaGreatDoor
open Go.RowKit
set_option linter.unusedVariables false
theorem own_u8_nopair {w : World} {g : Nat} {z : List Int} (h : Own .u8 5 w g z) : ∃ cs, w.heap[g]? = some (.cells cs 5 (0, 0)) ∧ NoPair cs := by
  refine ⟨_, h, ?_⟩
  intro j x y h1 h2
  simp at h1
theorem Den.past {w w' : World} {g n : Nat} {z : List Int} {v : Value} (d : Den w v n) (h : Own .u8 5 w g z) (q : w.grownBy w' (some g)) : Den w' v n := by
  obtain ⟨cs, hc, hp⟩ := own_u8_nopair h
  exact d.kept q (d.notin hp hc)
theorem own_u8_ne {w : World} {g b o : Nat} {z : List Int} {x : Int} (h : Own .u8 5 w g z) (hc : w.cell? ⟨b, o, none⟩ = some (.int .u64 x)) : b ≠ g := by
  rintro rfl
  rw [cell_of_row _ _ o _ _ (0, 0) h] at hc
  simp at hc
theorem Nats.past {w w' : World} {g : Nat} {z : List Int} {v : Value} {ns : List Nat} (d : Nats w v ns) (h : Own .u8 5 w g z) (q : w.grownBy w' (some g)) : Nats w' v ns := by
  obtain ⟨ao, c, rfl, h1, h2, h3⟩ := d
  refine ⟨ao, c, rfl, h1, h2, fun j hj => ?_⟩
  obtain ⟨b, off, x, s, k, c', rfl, c0, c1, dd⟩ := h3 j hj
  have hb := own_u8_ne h c0
  exact ⟨b, off, x, s, k, c', rfl, q.cell c0 (by simpa using hb), q.cell c1 (by simpa using hb), dd.past h q⟩
theorem cells4_set2 {w W : World} {a1 a2 a3 a4 : Addr} {v1 v2 v3 v4 x y : Value} {H : Nat} (h : W.cell? a1 = some v1 ∧ W.cell? a2 = some v2 ∧ W.cell? a3 = some v3 ∧ W.cell? a4 = some v4 ∧ Below w.heap.size w W) (n1 : a1.block < w.heap.size) (n2 : a2.block < w.heap.size) (n3 : a3.block < w.heap.size) (n4 : a4.block < w.heap.size) (hH : w.heap.size ≤ H) :
    ((W.setCell ⟨H, 0, none⟩ x).setCell ⟨H, 1, none⟩ y).cell? a1 = some v1 ∧ ((W.setCell ⟨H, 0, none⟩ x).setCell ⟨H, 1, none⟩ y).cell? a2 = some v2 ∧ ((W.setCell ⟨H, 0, none⟩ x).setCell ⟨H, 1, none⟩ y).cell? a3 = some v3 ∧ ((W.setCell ⟨H, 0, none⟩ x).setCell ⟨H, 1, none⟩ y).cell? a4 = some v4 ∧ Below w.heap.size w ((W.setCell ⟨H, 0, none⟩ x).setCell ⟨H, 1, none⟩ y) :=
  cells4_set h (by omega) (by omega) (by omega) (by omega) hH
/-- Two boxes that hold the numbers a and b. -/
def TwoB (w1 wx : World) (g7 g8 : Nat) (q1 : Int) (q2 : Option Addr) (q3 q4 : Nat) (r1 : Int) (r2 : Option Addr) (r3 r4 : Nat) (a b : Nat) : Prop :=
  wx.heap[g7]? = some (.cells #[.int .u64 q1, .slice q2 q3 q4] 90 (0, 0)) ∧ wx.heap[g8]? = some (.cells #[.int .u64 r1, .slice r2 r3 r4] 90 (0, 0)) ∧
  Den wx (.agg #[.int .u64 q1, .slice q2 q3 q4]) a ∧ Den wx (.agg #[.int .u64 r1, .slice r2 r3 r4]) b ∧ w1.heap.size ≤ g7 ∧ w1.heap.size ≤ g8 ∧ Below w1.heap.size w1 wx
theorem TwoB.swap {w1 wx : World} {g7 g8 : Nat} {q1 : Int} {q2 : Option Addr} {q3 q4 : Nat} {r1 : Int} {r2 : Option Addr} {r3 r4 : Nat} {a b : Nat} (h : TwoB w1 wx g7 g8 q1 q2 q3 q4 r1 r2 r3 r4 a b) : TwoB w1 wx g8 g7 r1 r2 r3 r4 q1 q2 q3 q4 b a :=
  ⟨h.2.1, h.1, h.2.2.2.1, h.2.2.1, h.2.2.2.2.2.1, h.2.2.2.2.1, h.2.2.2.2.2.2⟩
theorem tb_alloc {w1 w2 : World} {q1 : Int} {q2 : Option Addr} {q3 q4 : Nat} {r1 : Int} {r2 : Option Addr} {r3 r4 : Nat} {a b : Nat} (bw : Below w1.heap.size w1 w2) (hq : Den w2 (.agg #[.int .u64 q1, .slice q2 q3 q4]) a) (hr : Den w2 (.agg #[.int .u64 r1, .slice r2 r3 r4]) b) :
    TwoB w1 ((w2.alloc (.cells #[.int .u64 q1, .slice q2 q3 q4] 90)).alloc (.cells #[.int .u64 r1, .slice r2 r3 r4] 90)) w2.heap.size (w2.heap.size + 1) q1 q2 q3 q4 r1 r2 r3 r4 a b := by
  obtain ⟨t1, t2, t3⟩ := two_new w2 (.cells #[.int .u64 q1, .slice q2 q3 q4] 90) (.cells #[.int .u64 r1, .slice r2 r3 r4] 90)
  have bb := alloc2_below w2 (.cells #[.int .u64 q1, .slice q2 q3 q4] 90) (.cells #[.int .u64 r1, .slice r2 r3 r4] 90)
  have := bw.size
  exact ⟨t1, t2, hq.below bb, hr.below bb, this, by omega, bw.then_below bb⟩
theorem tb_set_alloc {w1 w2 : World} {q1 : Int} {q2 : Option Addr} {q3 q4 : Nat} {r1 : Int} {r2 : Option Addr} {r3 r4 : Nat} {a b : Nat} {h : Nat} (bw : Below w1.heap.size w1 w2) (hq : Den w2 (.agg #[.int .u64 q1, .slice q2 q3 q4]) a) (hr : Den w2 (.agg #[.int .u64 r1, .slice r2 r3 r4]) b)
    (AZ : w2.heap[h]? = some (.cells #[.int .u64 0, .slice none 0 0] 90 (0, 0))) (hh : w1.heap.size ≤ h) :
    TwoB w1 (((w2.setCell ⟨h, 0, none⟩ (.int .u64 q1)).setCell ⟨h, 1, none⟩ (.slice q2 q3 q4)).alloc (.cells #[.int .u64 r1, .slice r2 r3 r4] 90)) h w2.heap.size q1 q2 q3 q4 r1 r2 r3 r4 a b := by
  have q := box_grown w2 h (.int .u64 q1) (.slice q2 q3 q4)
  have t1 := box_store AZ (.int .u64 q1) (.slice q2 q3 q4)
  have d1 := hq.kept q (hq.notin (nopair2 _ _ _ _) AZ)
  have d2 := hr.kept q (hr.notin (nopair2 _ _ _ _) AZ)
  have b1 := bw.then_grown q (by rintro g ⟨⟩; exact hh)
  have hs : ((w2.setCell ⟨h, 0, none⟩ (.int .u64 q1)).setCell ⟨h, 1, none⟩ (.slice q2 q3 q4)).heap.size = w2.heap.size := by simp
  generalize ((w2.setCell ⟨h, 0, none⟩ (.int .u64 q1)).setCell ⟨h, 1, none⟩ (.slice q2 q3 q4)) = w3 at *
  have bb := alloc_below w3 (.cells #[.int .u64 r1, .slice r2 r3 r4] 90)
  refine ⟨kept_block t1 bb, ?_, d1.below bb, d2.below bb, hh, bw.size, b1.then_below bb⟩
  rw [← hs]
  exact heap_alloc_new w3 _
theorem tb_set_set {w1 w2 : World} {q1 : Int} {q2 : Option Addr} {q3 q4 : Nat} {r1 : Int} {r2 : Option Addr} {r3 r4 : Nat} {a b : Nat} {h h' : Nat} (bw : Below w1.heap.size w1 w2) (hq : Den w2 (.agg #[.int .u64 q1, .slice q2 q3 q4]) a) (hr : Den w2 (.agg #[.int .u64 r1, .slice r2 r3 r4]) b)
    (AZ : w2.heap[h]? = some (.cells #[.int .u64 0, .slice none 0 0] 90 (0, 0))) (AY : w2.heap[h']? = some (.cells #[.int .u64 0, .slice none 0 0] 90 (0, 0))) (hh : w1.heap.size ≤ h) (hh' : w1.heap.size ≤ h') (hn : h ≠ h') :
    TwoB w1 ((((w2.setCell ⟨h, 0, none⟩ (.int .u64 q1)).setCell ⟨h, 1, none⟩ (.slice q2 q3 q4)).setCell ⟨h', 0, none⟩ (.int .u64 r1)).setCell ⟨h', 1, none⟩ (.slice r2 r3 r4)) h h' q1 q2 q3 q4 r1 r2 r3 r4 a b := by
  have q := box_grown w2 h (.int .u64 q1) (.slice q2 q3 q4)
  have t1 := box_store AZ (.int .u64 q1) (.slice q2 q3 q4)
  have d1 := hq.kept q (hq.notin (nopair2 _ _ _ _) AZ)
  have d2 := hr.kept q (hr.notin (nopair2 _ _ _ _) AZ)
  have b1 := bw.then_grown q (by rintro g ⟨⟩; exact hh)
  have y1 := grown_block AY q (Ne.symm hn)
  generalize ((w2.setCell ⟨h, 0, none⟩ (.int .u64 q1)).setCell ⟨h, 1, none⟩ (.slice q2 q3 q4)) = w3 at *
  have q' := box_grown w3 h' (.int .u64 r1) (.slice r2 r3 r4)
  exact ⟨grown_block t1 q' hn, box_store y1 _ _, d1.kept q' (d1.notin (nopair2 _ _ _ _) y1), d2.kept q' (d2.notin (nopair2 _ _ _ _) y1), hh, hh', b1.then_grown q' (by rintro g ⟨⟩; exact hh')⟩
theorem write_join (z : List Int) (o LOW n k : Nat) (hL : 19 * 2 ^ k = LOW) (hk : o + 2 * LOW ≤ z.length) :
    (z.take o ++ (M.bs (M.pad LOW (n / M.ten k)) ++ z.drop (o + LOW))).take (o + LOW) ++ (M.bs (M.pad LOW (n % M.ten k)) ++ (z.take o ++ (M.bs (M.pad LOW (n / M.ten k)) ++ z.drop (o + LOW))).drop (o + LOW + LOW)) =
      z.take o ++ (M.bs (M.pad (2 * LOW) n) ++ z.drop (o + 2 * LOW)) := by
  have ht : M.ten k = 10 ^ LOW := by unfold M.ten; rw [hL]
  have h1 : (z.take o).length = o := by rw [List.length_take]; omega
  have h2 : (M.bs (M.pad LOW (n / M.ten k))).length = LOW := by rw [M.bs_len, M.pad_len]
  have hp : M.bs (M.pad LOW (n / M.ten k)) ++ M.bs (M.pad LOW (n % M.ten k)) = M.bs (M.pad (2 * LOW) n) := by
    rw [ht, M.pad_mod, ← M.bs_append, M.pad_append, show LOW + LOW = 2 * LOW from by omega]
  rw [← hp]
  generalize M.bs (M.pad LOW (n / M.ten k)) = A at *
  generalize M.bs (M.pad LOW (n % M.ten k)) = B at *
  have e1 : (z.take o ++ (A ++ z.drop (o + LOW))).take (o + LOW) = z.take o ++ A := by
    rw [← List.append_assoc, List.take_append_of_le_length (by rw [List.length_append, h1, h2]; omega), List.take_of_length_le (by rw [List.length_append, h1, h2]; omega)]
  have e2 : (z.take o ++ (A ++ z.drop (o + LOW))).drop (o + LOW + LOW) = z.drop (o + 2 * LOW) := by
    rw [← List.append_assoc, List.drop_append, List.drop_of_length_le (by rw [List.length_append, h1, h2]; omega), List.nil_append, List.length_append, h1, h2, List.drop_drop]
    congr 1
    omega
  rw [e1, e2, List.append_assoc, List.append_assoc]
theorem sl_low (g o N cap n : Nat) (hn : n ≤ cap) (W : World) : (Instr.sliceAt 113 (.slice (some ⟨g, o, none⟩) N cap) none (some (.int .i64 (n : Int))) none).run Tryz.prog W = .ok (.slice (some ⟨g, o, none⟩) n cap) W := by
  have he : Tryz.prog.elem 113 = 5 := by kernel_rfl
  have hu : Tryz.prog.underlying 113 = some (.slice (Tryz.prog.elem 113)) := by rw [he]; exact sliceByte
  rw [run_sliceAt_slice (h := hu), run_slice_h (ht := hu) (h0 := by omega) (h2 := by omega), he]
  clear hu he
  go_simp
theorem sl_high (g o N cap n : Nat) (hn : n ≤ N) (hN : N ≤ cap) (h0 : n < cap) (W : World) : (Instr.sliceAt 113 (.slice (some ⟨g, o, none⟩) N cap) (some (.int .i64 (n : Int))) none none).run Tryz.prog W = .ok (.slice (some ⟨g, o + n, none⟩) (N - n) (cap - n)) W := by
  have he : Tryz.prog.elem 113 = 5 := by kernel_rfl
  have hu : Tryz.prog.underlying 113 = some (.slice (Tryz.prog.elem 113)) := by rw [he]; exact sliceByte
  rw [run_sliceAt_slice (h := hu), run_slice_l (ht := hu) (h0 := by omega) (h1 := by omega), he]
  clear hu he
  have e : ¬ cap = n := by omega
  go_simp
theorem sl_nats (g o N cap n : Nat) (hn : n ≤ cap) (W : World) : (Instr.sliceAt 127 (.slice (some ⟨g, o, none⟩) N cap) none (some (.int .i64 (n : Int))) none).run Tryz.prog W = .ok (.slice (some ⟨g, o, none⟩) n cap) W := by
  have he : Tryz.prog.elem 127 = 90 := by kernel_rfl
  have hu : Tryz.prog.underlying 127 = some (.slice (Tryz.prog.elem 127)) := by rw [he]; exact sliceNat
  rw [run_sliceAt_slice (h := hu), run_slice_h (ht := hu) (h0 := by omega) (h2 := by omega), he]
  clear hu he
  go_simp
set_option maxRecDepth 100000 in
set_option maxHeartbeats 4000000 in
theorem writeHalves_word (w : World) (g o cap n cp : Nat) (ao : Option Addr) (z : List Int) (hz : Own .u8 5 w g z) (hk : o + 19 ≤ z.length) (hn : n < 18446744073709551616) (hl : z.length ≤ 140737488355328) :
    Calls Tryz.prog 85 #[.slice (some ⟨g, o, none⟩) 19 cap, .agg #[.int .u64 n, .slice none 0 0], .slice ao 0 cp] w fun e w' => e = .returned (.tuple #[]) ∧ Own .u8 5 w' g (z.take o ++ (M.bs (M.pad 19 n) ++ z.drop (o + 19))) ∧ w.grownBy w' (some g) := by
  have B0 := hide (World.grownBy_alloc w (.cells #[.int .u64 n, .slice none 0 0] 90) (some g))
  have q := hide (writeWord_calls _ g o 19 cap n z (hz.below (alloc_below w (.cells #[.int .u64 n, .slice none 0 0] 90))) hk hn hl)
  go_enter Tryz.func85, Tryz.ntmps85
  go_wp2_with fail
  refine q.out.mono ?_
  rintro e w2 ⟨rfl, h2, g2⟩
  go_wp2
  refine bodyPost_ret (v := .tuple #[]) (by simp [results, Tryz.results85, go_sem]) rfl ?_
  exact ⟨rfl, h2, grown_trans B0.out g2⟩
end Go.Proofs.YtlepicdpelkmlaaGreatDoor
/- ==== WriteHalves ==== -/
namespace Go.Proofs.YtlepicdpelkmlaaGreatDoor
open Go.RowKit
set_option linter.unusedVariables false
set_option maxRecDepth 100000 in
set_option maxHeartbeats 4000000 in
theorem writeHalves_more (w : World) (g o cap n b off c k : Nat) (u : Value) (z : List Int) (hz : Own .u8 5 w g z) (hk : o + 19 * 2 ^ (k + 1) ≤ z.length) (hcap : 19 * 2 ^ (k + 1) ≤ cap) (hcap2 : cap ≤ 140737488355328) (hl : z.length ≤ 140737488355328) (hu : Den w u n) (hn : n < M.ten (k + 1)) (hk36 : k ≤ 36)
    (hc1 : k + 1 ≤ c) (hc2 : c ≤ maxLen) (hP : Nats w (.slice (some ⟨b, off, none⟩) (k + 1) c) (tensL (k + 1)))
    (ih : ∀ W o cap n u z, Own .u8 5 W g z → o + 19 * 2 ^ k ≤ z.length → 19 * 2 ^ k ≤ cap → cap ≤ 140737488355328 → z.length ≤ 140737488355328 → Den W u n → n < M.ten k → Nats W (.slice (some ⟨b, off, none⟩) k c) (tensL k) →
      Calls Tryz.prog 85 #[.slice (some ⟨g, o, none⟩) (19 * 2 ^ k) cap, u, .slice (some ⟨b, off, none⟩) k c] W fun e w' => e = .returned (.tuple #[]) ∧ Own .u8 5 w' g (z.take o ++ (M.bs (M.pad (19 * 2 ^ k) n) ++ z.drop (o + 19 * 2 ^ k))) ∧ W.grownBy w' (some g)) :
    Calls Tryz.prog 85 #[.slice (some ⟨g, o, none⟩) (19 * 2 ^ (k + 1)) cap, u, .slice (some ⟨b, off, none⟩) (k + 1) c] w fun e w' => e = .returned (.tuple #[]) ∧ Own .u8 5 w' g (z.take o ++ (M.bs (M.pad (19 * 2 ^ (k + 1)) n) ++ z.drop (o + 19 * 2 ^ (k + 1)))) ∧ w.grownBy w' (some g) := by
  obtain ⟨x1, x2, x3, x4, rfl⟩ := hu.shape2
  obtain ⟨b', off', y1, y2, y3, y4, e, c2, c3, dy⟩ := hP.last
  simp only [Option.some.injEq, Addr.mk.injEq, and_true] at e
  obtain ⟨rfl, rfl⟩ := e
  have hdbl : 19 * 2 ^ (k + 1) = 2 * (19 * 2 ^ k) := by rw [Nat.pow_succ]; omega
  have hdiv := hide (fun W (hu : Den W (.agg #[.int .u64 x1, .slice x2 x3 x4]) n) (hv : Den W (.agg #[.int .u64 y1, .slice y2 y3 y4]) (M.ten k)) => divMod_calls W _ _ n (M.ten k) (2 ^ (k + 1)) hu hv (Int.lt_trans (by exact_mod_cast hn) (M.ten_lt (k + 1))) (Nat.ne_of_gt (M.ten_pos k)) (Nat.le_trans (Nat.pow_le_pow_right (by decide) (by omega : k + 1 ≤ 37)) (by decide)))
  have IH := hide ih
  clear ih
  rw [hdbl] at hk hcap ⊢
  have hp : 2 ^ k ≤ 2 ^ 36 := Nat.pow_le_pow_right (by decide) hk36
  generalize hLOW : 19 * 2 ^ k = LOW at *
  have HLOW := hide hLOW
  have hLW : LOW ≤ 1305670057984 := by rw [← hLOW]; omega
  clear hLOW hp hdbl
  have HP := hide hP
  have ix := fun W => run_at_nat b off (k + 1) c k (by omega) (by omega) W
  simp only [Int.toNat_natCast] at ix
  have B0 := alloc_below w (.cells #[.int .u64 x1, .slice x2 x3 x4] 90)
  have A0 := heap_alloc_new w (.cells #[.int .u64 x1, .slice x2 x3 x4] 90)
  have C2 := hide ((B0.cell (p := ⟨b, off + k * 2, none⟩) (World.block_lt_of_cell? w _ c2)).trans c2)
  have C3 := hide ((B0.cell (p := ⟨b, off + k * 2 + 1, none⟩) (World.block_lt_of_cell? w _ c3)).trans c3)
  clear hP c2 c3
  have HU := hide (hu.below B0)
  have DY := hide (dy.below B0)
  clear hu dy
  replace A0 := hide A0
  replace B0 := hide B0
  go_enter Tryz.func85, Tryz.ntmps85
  go_upto_region 4 with fail
  generalize (w.alloc (.cells #[.int .u64 x1, .slice x2 x3 x4] 90)) = w1 at *
  obtain ⟨a0, a1, -, -⟩ := box_facts A0.out
  have S0 : Hid (w1.cell? ⟨w.heap.size, 0, none⟩ = some (.int .u64 x1) ∧ w1.cell? ⟨w.heap.size, 1, none⟩ = some (.slice x2 x3 x4) ∧ w1.cell? ⟨b, off + k * 2, none⟩ = some (.int .u64 y1) ∧ w1.cell? ⟨b, off + k * 2 + 1, none⟩ = some (.slice y2 y3 y4) ∧ Below w1.heap.size w1 w1) := ⟨a0, a1, C2.out, C3.out, Below.refl _ _⟩
  clear a0 a1
  go_cut [7, 8] (fun s7 s8 wx => ∃ (g7 g8 : Nat) (q1 : Int) (q2 : Option Addr) (q3 q4 : Nat) (r1 : Int) (r2 : Option Addr) (r3 r4 : Nat), s7 = .pointer (some ⟨g7, 0, none⟩) ∧ s8 = .pointer (some ⟨g8, 0, none⟩) ∧ Hid (TwoB w1 wx g7 g8 q1 q2 q3 q4 r1 r2 r3 r4 (n / M.ten k) (n % M.ten k)))
  case first =>
    have D1 : Below w1.heap.size w1 w1.drew := (Below.refl _ _).drew
    have hwb : w.heap.size < w1.heap.size ∧ b < w1.heap.size := ⟨(Array.getElem?_eq_some_iff.1 A0.out).1, World.block_lt_of_cell? w1 _ C2.out⟩
    go_region_held3
      (fun w' => w'.cell? ⟨w.heap.size, 0, none⟩ = some (.int .u64 x1) ∧ w'.cell? ⟨w.heap.size, 1, none⟩ = some (.slice x2 x3 x4) ∧ w'.cell? ⟨b, off + k * 2, none⟩ = some (.int .u64 y1) ∧ w'.cell? ⟨b, off + k * 2 + 1, none⟩ = some (.slice y2 y3 y4) ∧ Below w1.heap.size w1 w')
      ((refine cells4_keep (w := w1) S0.out ?_; repeat (first | exact D1 | exact Below.refl _ _ | exact D1.then_below b2 | (refine Below.drew ?_) | (refine Below.then_below ?_ (alloc_below _ _)) | (refine Below.then_below ?_ b2) | (refine Below.then_grown ?_ (box_grown _ _ _ _) (by rintro g ⟨⟩; first | exact Nat.le_refl _ | omega | (have := b2.size; simp at this; omega))))))
      (first
        | (go_at_call 97; refine (hdiv.out _ (HU.out.below (by repeat (first | exact D1 | exact Below.refl _ _ | (refine Below.drew ?_) | (refine Below.then_below ?_ (alloc_below _ _))))) (DY.out.below (by repeat (first | exact D1 | exact Below.refl _ _ | (refine Below.drew ?_) | (refine Below.then_below ?_ (alloc_below _ _)))))).mono ?_; rintro e w2 ⟨⟨q, r, rfl, hq, hr⟩, b2⟩; obtain ⟨q1, q2, q3, q4, rfl⟩ := hq.shape2; obtain ⟨r1, r2, r3, r4, rfl⟩ := hr.shape2; (first | (have AZ : w2.heap[w1.heap.size]? = some (.cells #[.int .u64 0, .slice none 0 0] 90 (0, 0)) := kept_block (by first | exact heap_alloc_new w1 (.cells #[.int .u64 0, .slice none 0 0] 90) | exact (two_new w1 (.cells #[.int .u64 0, .slice none 0 0] 90) (.cells #[.int .u64 0, .slice none 0 0] 90)).1) b2; obtain ⟨z0, z1, f0, f1⟩ := box_facts AZ; have lz : w1.heap.size < w2.heap.size := (Array.getElem?_eq_some_iff.1 AZ).1; have nz : w1.heap.size ≠ w2.heap.size := Nat.ne_of_lt lz; have nz' : w2.heap.size ≠ w1.heap.size := Nat.ne_of_gt lz) | skip); (first | (have AY : w2.heap[w1.heap.size + 1]? = some (.cells #[.int .u64 0, .slice none 0 0] 90 (0, 0)) := kept_block (by exact (two_new w1 (.cells #[.int .u64 0, .slice none 0 0] 90) (.cells #[.int .u64 0, .slice none 0 0] 90)).2.1) b2; obtain ⟨y0', y1', g0', g1'⟩ := box_facts AY) | skip)))
    all_goals (go_wp2_with fail; go_meet)
    all_goals (have bw : Below w1.heap.size w1 w2 := (by repeat (first | exact D1 | exact Below.refl _ _ | (refine Below.drew ?_) | (refine Below.then_below ?_ b2) | (refine Below.then_below ?_ (alloc_below _ _)))))
    · exact ⟨_, _, q1, q2, q3, q4, r1, r2, r3, r4, rfl, rfl, tb_alloc bw hq hr⟩
    · exact ⟨_, _, q1, q2, q3, q4, r1, r2, r3, r4, rfl, rfl, (tb_alloc bw hr hq).swap⟩
    · exact ⟨_, _, q1, q2, q3, q4, r1, r2, r3, r4, rfl, rfl, tb_set_alloc bw hq hr AZ (Nat.le_refl _)⟩
    · exact ⟨_, _, q1, q2, q3, q4, r1, r2, r3, r4, rfl, rfl, tb_set_set bw hq hr AZ AY (Nat.le_refl _) (Nat.le_succ _) (by omega)⟩
    · exact ⟨_, _, q1, q2, q3, q4, r1, r2, r3, r4, rfl, rfl, (tb_set_alloc bw hr hq AZ (Nat.le_refl _)).swap⟩
    · exact ⟨_, _, q1, q2, q3, q4, r1, r2, r3, r4, rfl, rfl, tb_set_set bw hq hr AY AZ (Nat.le_succ _) (Nat.le_refl _) (by omega)⟩
  case rest =>
  obtain ⟨g7, g8, q1, q2, q3, q4, r1, r2, r3, r4, rfl, rfl, T⟩ := hcut
  obtain ⟨p7, p8, hq, hr, h7, h8, B1⟩ := T.out
  clear T S0
  have hgw := hz.lt
  have BW := B0.out.then_below B1
  have n7 : g7 ≠ g := by have := B0.out.size; omega
  have n8 : g8 ≠ g := by have := B0.out.size; omega
  have hZ := hide (hz.below BW)
  have hlow : 0 < LOW := by rw [← HLOW.out]; exact Nat.mul_pos (by decide) (Nat.pow_pos (by decide))
  have sl1 := sl_low g o (2 * LOW) cap LOW (by omega)
  have sl2 := sl_high g o (2 * LOW) cap LOW (by omega) hcap (by omega)
  rw [show 2 * LOW - LOW = LOW from by omega] at sl2
  have sl3 := sl_nats b off (k + 1) c k (by omega)
  have NN := hide (HP.out.below BW).init
  have hqlt : n / M.ten k < M.ten k := Nat.div_lt_of_lt_mul (by rw [← M.ten_succ]; exact hn)
  have hrlt : n % M.ten k < M.ten k := Nat.mod_lt _ (M.ten_pos k)
  have hfin := hide (write_join z o LOW n k HLOW.out (by omega : o + 2 * LOW ≤ z.length))
  obtain ⟨a0, a1, -, -⟩ := box_facts p7
  obtain ⟨a2, a3, -, -⟩ := box_facts p8
  have S7 : Hid (wc.cell? ⟨g7, 0, none⟩ = some (.int .u64 q1) ∧ wc.cell? ⟨g7, 1, none⟩ = some (.slice q2 q3 q4)) := ⟨a0, a1⟩
  have S8 : Hid (wc.cell? ⟨g8, 0, none⟩ = some (.int .u64 r1) ∧ wc.cell? ⟨g8, 1, none⟩ = some (.slice r2 r3 r4)) := ⟨a2, a3⟩
  have HQ := hide hq
  have HR := hide hr
  have GW : Hid (w.grownBy wc (some g)) := grown_none (below_grown BW) _
  have HK := hide hk
  have z1len : (z.take o ++ (M.bs (M.pad LOW (n / M.ten k)) ++ z.drop (o + LOW))).length = z.length := by
    rw [List.length_append, List.length_append, M.bs_len, M.pad_len, List.length_take, List.length_drop]; omega
  have C1 := hide (IH.out wc.drew o cap (n / M.ten k) _ z hZ.out.drew (by omega) (by omega) hcap2 hl (HQ.out.below ((Below.refl _ _).drew)) hqlt (NN.out.below ((Below.refl _ _).drew)))
  clear p7 p8 hq hr h7 h8 B1 BW a0 a1 a2 a3
  go_wp2_with fail
  go_region_held3
    (fun w' => w'.cell? ⟨g7, 0, none⟩ = some (.int .u64 q1) ∧ w'.cell? ⟨g7, 1, none⟩ = some (.slice q2 q3 q4))
    (first
      | exact S7.out
      | exact ⟨gA.cell (a := ⟨g7, 0, none⟩) S7.out.1 (by simpa using n7), gA.cell (a := ⟨g7, 1, none⟩) S7.out.2 (by simpa using n7)⟩)
    (first
      | (go_at_call 85; refine C1.out.mono ?_; rintro e wa ⟨rfl, oA, gA⟩))
  have D0 : Below wc.heap.size wc wc.drew := (Below.refl _ _).drew
  have HR2 := hide ((HR.out.below D0).past hZ.out.drew gA)
  have NN2 := hide ((NN.out.below D0).past hZ.out.drew gA)
  have GA := hide (grown_trans (grown_drew GW.out) gA)
  have s8 : Hid (wa.cell? ⟨g8, 0, none⟩ = some (.int .u64 r1) ∧ wa.cell? ⟨g8, 1, none⟩ = some (.slice r2 r3 r4)) := ⟨gA.cell (a := ⟨g8, 0, none⟩) S8.out.1 (by simpa using n8), gA.cell (a := ⟨g8, 1, none⟩) S8.out.2 (by simpa using n8)⟩
  have E0 : Below wa.heap.size wa wa.drew := (Below.refl _ _).drew
  have C4 := hide (IH.out wa.drew (o + LOW) (cap - LOW) (n % M.ten k) _ _ oA.drew (by rw [z1len]; omega) (by omega) (by omega) (by rw [z1len]; exact hl) (HR2.out.below E0) hrlt (NN2.out.below E0))
  rw [hfin.out] at C4
  clear C1 HR NN S7 S8 HQ gA oA hfin z1len
  go_wp2_with fail
  go_region_held3
    (fun w' => w'.cell? ⟨g8, 0, none⟩ = some (.int .u64 r1) ∧ w'.cell? ⟨g8, 1, none⟩ = some (.slice r2 r3 r4))
    (first
      | exact s8.out
      | exact ⟨gB.cell (a := ⟨g8, 0, none⟩) s8.out.1 (by simpa using n8), gB.cell (a := ⟨g8, 1, none⟩) s8.out.2 (by simpa using n8)⟩)
    (first
      | (go_at_call 85; refine C4.out.mono ?_; rintro e wb ⟨rfl, oB, gB⟩))
  go_wp2
  go_end0
  exact ⟨rfl, oB, grown_trans (grown_drew GA.out) gB⟩
theorem writeHalves_calls (p : Nat) : ∀ (W : World) (g o cap n : Nat) (u pv : Value) (z : List Int), Own .u8 5 W g z → o + 19 * 2 ^ p ≤ z.length → 19 * 2 ^ p ≤ cap → cap ≤ 140737488355328 → z.length ≤ 140737488355328 → Den W u n → n < M.ten p → p ≤ 37 → Nats W pv (tensL p) →
      Calls Tryz.prog 85 #[.slice (some ⟨g, o, none⟩) (19 * 2 ^ p) cap, u, pv] W fun e w' => e = .returned (.tuple #[]) ∧ Own .u8 5 w' g (z.take o ++ (M.bs (M.pad (19 * 2 ^ p) n) ++ z.drop (o + 19 * 2 ^ p))) ∧ W.grownBy w' (some g) := by
  induction p with
  | zero =>
    intro W g o cap n u pv z hz hk hc hc2 hl hu hn hp hP
    obtain ⟨ao, c, rfl, hc1, hc2⟩ := hP.shape
    have hn' : n < 18446744073709551616 := Nat.lt_trans hn (by decide)
    obtain rfl := hu.word hn'
    exact writeHalves_word W g o cap n c ao z hz hk hn' hl
  | succ k ih =>
    intro W g o cap n u pv z hz hk hc hc2 hl hu hn hp hP
    obtain ⟨ao, c, rfl, hc1', hc2'⟩ := hP.shape
    obtain ⟨b, off, x, s', k', q', rfl, -, -, -⟩ := hP.last
    exact writeHalves_more W g o cap n b off c k u z hz hk hc hc2 hl hu hn (by omega) hc1' hc2' hP (fun W o cap n u z h1 h2 h3 h4 h5 h6 h7 h8 => ih W g o cap n u _ z h1 h2 h3 h4 h5 h6 h7 (by omega) h8)
end Go.Proofs.YtlepicdpelkmlaaGreatDoor
/- ==== FormatUint ==== -/
namespace Go.Proofs.YtlepicdpelkmlaaGreatDoor
open Go.RowKit Go.Sort Go.Lib
set_option linter.unusedVariables false
/-- The library's table of powers of ten lies where start-up lays it. -/
def Pows (w : World) : Prop := Lib.TabIs Tryz.prog w "internal/strconv.uint64pow10" .u64 Lib.pow10Tab
theorem Pows.below {w w' : World} (h : Pows w) (b : RowKit.Below w.heap.size w w') : Pows w' := Lib.tabBelow_of_tabIs h w' b
theorem formatUint_small (u : Nat) (hu : u < 100) (w : World) :
    Calls Tryz.prog 104 #[.int .u64 u, .int .i64 10] w fun e w' => e = .returned (.string ⟨(Lib.decDigits u).toArray⟩) ∧ w' = w := by
  have q := hide (fun W => Tryz.internal_strconv_small u hu W)
  have ew : IntKind.i64.wrap (u : Int) = u := by rw [IntKind.wrap_i64]; omega
  go_enter Tryz.func104, Tryz.ntmps104
  go_wp2_with fail
  refine (q.out _).mono ?_
  rintro e w' ⟨rfl, rfl⟩
  go_wp2
  go_ret
  exact ⟨rfl, rfl⟩
set_option maxHeartbeats 6400000 in
set_option maxRecDepth 100000 in
theorem formatUint_big (u : Nat) (hu : 100 ≤ u) (hu64 : u < 18446744073709551616) (w : World) (hT : Pows w) :
    Calls Tryz.prog 104 #[.int .u64 u, .int .i64 10] w fun e w' => e = .returned (.string ⟨(Lib.decDigits u).toArray⟩) ∧ RowKit.Below w.heap.size w w' := by
  have hu1 : 1 ≤ u := by omega
  have hnd20 : Lib.nDigits u ≤ 20 := by have := Lib.numDigits_eq u hu1 hu64; split at this <;> omega
  have u150 : Tryz.prog.underlying 169 = some (.array 24 5) := by kernel_rfl
  have hel : Tryz.prog.elem 169 = 5 := by kernel_rfl
  have hal : Tryz.prog.arrayLen 169 = 24 := by kernel_rfl
  have hsl : ∀ W, (Instr.sliceAt 169 (.pointer (some ⟨w.heap.size, 0, none⟩)) none (some (.int .i64 (Lib.nDigits u : Int))) none).run Tryz.prog W = .ok (.slice (some ⟨w.heap.size, 0, none⟩) (Lib.nDigits u) 24) W := fun W => by
    rw [run_sliceAt_array_h W 169 ⟨w.heap.size, 0, none⟩ (by rw [hal, u150, hel]) .i64 (Lib.nDigits u : Int) (by omega) (by rw [hal]; omega)]
    rw [hal, hel]
    go_simp
  have hH0 := Lib.holds_zero0 w 169 (Lib.nDigits u) (by omega)
  have hfmt := Tryz.internal_strconv_formatBase10 w.heap.size 0 24 u (Array.replicate (Lib.nDigits u) 0) (w.alloc (.cells Lib.zeros24 169)) hH0 (by rw [Array.size_replicate]; exact Lib.lt_pow_nDigits u) hu64 (by rw [Array.size_replicate]; omega)
  rw [Array.size_replicate] at hfmt
  have HH0 := Lib.hid hH0
  have iu : (100 : Int) ≤ (u : Int) := by omega
  have hnum := hide (Tryz.internal_strconv_numDigits u hu1 hu64 _ (Lib.tabIs_alloc hT (.cells Lib.zeros24 169)))
  replace hfmt := hide hfmt
  clear hH0 hal
  go_enter Tryz.func104, Tryz.ntmps104
  go_wp2_with fail
  refine hnum.out.mono ?_
  rintro e w' ⟨rfl, rfl⟩
  go_wp2_with fail
  refine hfmt.out.mono ?_
  rintro e w' ⟨rfl, k, v', dk, rfl, hF⟩
  have hcv : (convert 113 9 (.slice (some ⟨w.heap.size, 0, none⟩) (Lib.nDigits u) 24)).run Tryz.prog ((putRow (fun (b : UInt8) => Value.int .u8 (b.toNat : Int)) (w.alloc (.cells Lib.zeros24 169)) w.heap.size 0 dk).drewN k) = .ok (.string ⟨(Lib.decDigits u).toArray⟩) ((putRow (fun (b : UInt8) => Value.int .u8 (b.toNat : Int)) (w.alloc (.cells Lib.zeros24 169)) w.heap.size 0 dk).drewN k) := by
    have h := run_convert_bytes_back (P := Tryz.prog) ((putRow (fun (b : UInt8) => Value.int .u8 (b.toNat : Int)) (w.alloc (.cells Lib.zeros24 169)) w.heap.size 0 dk).drewN k) 113 9 5 ⟨w.heap.size, 0, none⟩ 24 (Lib.decDigits u) sliceByte (by kernel_rfl) (by kernel_rfl) (fun j hj => by
      rw [Lib.row_is_numeral hF j hj, Lib.add_plain, World.cell?_drewN]
      exact cell?_putRow (fun (b : UInt8) => Value.int .u8 (b.toNat : Int)) _ w.heap.size 0 _ dk HH0.out (by rw [hF.size, Array.size_replicate]) j (by rw [hF.size]; rw [Lib.decDigits_length] at hj; exact hj))
    rw [Lib.decDigits_length] at h
    exact h
  obtain ⟨os, eo⟩ := Lib.fin_at w (.cells Lib.zeros24 169) dk k 0
  have hb : RowKit.Below w.heap.size w ((putRow (fun (b : UInt8) => Value.int .u8 (b.toNat : Int)) (w.alloc (.cells Lib.zeros24 169)) w.heap.size 0 dk).drewN k) := by rw [eo]; exact Lib.below_grow _ w (Nat.le_refl _) k os
  generalize (putRow (fun (b : UInt8) => Value.int .u8 (b.toNat : Int)) (w.alloc (.cells Lib.zeros24 169)) w.heap.size 0 dk).drewN k = W2 at hcv hb ⊢
  clear eo HH0 hfmt hnum
  go_wp2
  go_ret
  exact ⟨rfl, hb⟩
theorem formatUint_calls (u : Nat) (hu64 : u < 18446744073709551616) (w : World) (hT : Pows w) :
    Calls Tryz.prog 82 #[.int .u64 u, .int .i64 10] w fun e w' => e = .returned (.string ⟨(Lib.decDigits u).toArray⟩) ∧ RowKit.Below w.heap.size w w' := by
  have q : Hid (Calls Tryz.prog 104 #[.int .u64 u, .int .i64 10] w fun e w' => e = .returned (.string ⟨(Lib.decDigits u).toArray⟩) ∧ RowKit.Below w.heap.size w w') := by
    refine hide ?_
    by_cases hu : u < 100
    · refine (formatUint_small u hu w).mono ?_
      rintro e w' ⟨rfl, rfl⟩
      exact ⟨rfl, RowKit.Below.refl _ _⟩
    · exact formatUint_big u (by omega) hu64 w hT
  go_enter Tryz.func82, Tryz.ntmps82
  go_wp2_with fail
  refine q.out.mono ?_
  rintro e w' ⟨rfl, hb⟩
  go_wp2
  go_ret
  exact ⟨rfl, hb⟩
end Go.Proofs.YtlepicdpelkmlaaGreatDoor
/- ==== ParseNat ==== -/
namespace Go.Proofs.YtlepicdpelkmlaaGreatDoor
open Go.RowKit
set_option linter.unusedVariables false
theorem pow_small {p d : Nat} (h : ∀ i, i < p → 19 * 2 ^ i < d) (hd : d ≤ 1099511627776) : p ≤ 37 := by
  rcases Nat.lt_or_ge p 38 with h1 | h1
  · omega
  · have := h 37 (by omega)
    omega
set_option maxRecDepth 100000 in
set_option maxHeartbeats 4000000 in
theorem parseNat_calls (w : World) (s : ByteArray) (l : List UInt8) (hs : s.data.toList = l) (hd : M.Digs l) (hl : l.length ≤ 1099511627776) :
    Calls Tryz.prog 79 #[.string s] w fun e w' => (∃ r, e = .returned r ∧ Den w' r (M.dec l)) ∧ Below w.heap.size w w' := by
  have hsz := size_of s l hs
  have B0 := hide (alloc_below w (.cells #[.int .u64 0, .slice none 0 0] 90))
  have R0 := hide (heap_alloc_new w (.cells #[.int .u64 0, .slice none 0 0] 90))
  by_cases h19 : l.length ≤ 19
  · have q := hide (fun W => parseWord_calls W s l hs hd h19)
    go_enter Tryz.func79, Tryz.ntmps79
    go_wp2_with fail
    refine (q.out _).mono ?_
    rintro e w2 ⟨⟨r, rfl, hr⟩, b2⟩
    obtain ⟨r1, r2, r3, r4, rfl⟩ := hr.shape2
    have R1 := kept_block R0.out b2
    obtain ⟨z0, z1, f0, f1⟩ := box_facts R1
    have B1 := B0.out.then_below b2
    go_wp2
    refine bodyPost_ret (v := .agg #[.int .u64 r1, .slice r2 r3 r4]) (by simp [results, Tryz.results79, go_sem, z0, z1]) rfl ?_
    have q := box_grown w2 w.heap.size (.int .u64 r1) (.slice r2 r3 r4)
    exact ⟨⟨_, rfl, hr.kept q (hr.notin (nopair2 _ _ _ _) R1)⟩, B1.then_grown q (by rintro g ⟨⟩; omega)⟩
  · have q1 := hide (fun W => Tryz.strings_TrimLeft_one s 48 (by decide) W)
    rw [hs] at q1
    obtain ⟨t, ht⟩ : ∃ t, t = Lib.trimLeftB l 48 := ⟨_, rfl⟩
    rw [← ht] at q1
    have htl : t.length ≤ l.length := by rw [ht]; exact M.dropZeros_len l
    have htd : M.Digs t := by rw [ht]; exact M.dropZeros_digs hd
    have htv : M.dec t = M.dec l := by rw [ht]; exact M.dropZeros_dec l
    rw [← htv]
    have hts : (ByteArray.mk t.toArray).data.toList = t := by simp
    have htz := size_of (ByteArray.mk t.toArray) t hts
    generalize ByteArray.mk t.toArray = s' at *
    have h19' : 19 < l.length := by omega
    clear htv ht hd h19
    go_enter Tryz.func79, Tryz.ntmps79
    go_wp2_with fail
    refine (q1.out _).mono ?_
    rintro e w1 ⟨rfl, hw1⟩
    rw [hw1]
    clear hw1 w1
    have q2 := hide (fun W => tens_calls W t.length (by omega))
    go_wp2_with fail
    refine (q2.out _).mono ?_
    rintro e w2 ⟨⟨v, p, rfl, hP, h1, h2⟩, b2⟩
    have q3 := hide (parseHalves_calls p w2 s' t v hts htd h1 (pow_small h2 (by omega)) hP.nats)
    clear h1 h2 hP
    go_wp2_with fail
    refine q3.out.mono ?_
    rintro e w3 ⟨⟨r, rfl, hr⟩, b3⟩
    obtain ⟨r1, r2, r3, r4, rfl⟩ := hr.shape2
    have R1 := kept_block (kept_block R0.out b2) b3
    obtain ⟨z0, z1, f0, f1⟩ := box_facts R1
    have B1 := (B0.out.then_below b2).then_below b3
    go_wp2
    refine bodyPost_ret (v := .agg #[.int .u64 r1, .slice r2 r3 r4]) (by simp [results, Tryz.results79, go_sem, z0, z1]) rfl ?_
    have q := box_grown w3 w.heap.size (.int .u64 r1) (.slice r2 r3 r4)
    exact ⟨⟨_, rfl, hr.kept q (hr.notin (nopair2 _ _ _ _) R1)⟩, B1.then_grown q (by rintro g ⟨⟩; omega)⟩
end Go.Proofs.YtlepicdpelkmlaaGreatDoor
/- ==== NatText ==== -/
namespace Go.Proofs.YtlepicdpelkmlaaGreatDoor
open Go.RowKit
set_option linter.unusedVariables false
theorem pow_small' {p d : Nat} (h : ∀ i, i < p → 19 * 2 ^ i < d) (hd : d ≤ 1099511627776) : p ≤ 36 := by
  rcases Nat.lt_or_ge p 37 with h1 | h1
  · omega
  · have := h 36 (by omega)
    omega
theorem big_lt {l : List Int} {n p : Nat} (hd : M.Dig M.BB l) (hv : M.val M.BB l = n) (hp : 20 * l.length ≤ 19 * 2 ^ p) : n < M.ten p := by
  have h1 := M.val_lt M.BB_pos hd
  rw [hv] at h1
  have h4 : M.BB ^ l.length = ((18446744073709551616 ^ l.length : Nat) : Int) := by rw [Int.natCast_pow]; rfl
  rw [h4] at h1
  have h2 : 18446744073709551616 ^ l.length ≤ (10 ^ 20) ^ l.length := Nat.pow_le_pow_left (by decide) _
  rw [← Nat.pow_mul] at h2
  have h3 : 10 ^ (20 * l.length) ≤ 10 ^ (19 * 2 ^ p) := Nat.pow_le_pow_right (by decide) hp
  have h5 : n < 18446744073709551616 ^ l.length := by exact_mod_cast h1
  unfold M.ten
  omega
theorem natText_word (w : World) (n : Nat) (hn : n < 18446744073709551616) (hT : Pows w) :
    Calls Tryz.prog 61 #[.agg #[.int .u64 n, .slice none 0 0]] w fun e w' => e = .returned (.string ⟨(Lib.decDigits n).toArray⟩) ∧ Below w.heap.size w w' := by
  have B0 := hide (alloc_below w (.cells #[.int .u64 n, .slice none 0 0] 90))
  have q := hide (formatUint_calls n hn _ (hT.below B0.out))
  have q1 := nil_eq
  go_enter Tryz.func61, Tryz.ntmps61
  go_wp2_with fail
  refine q.out.mono ?_
  rintro e w2 ⟨rfl, b2⟩
  go_wp2
  go_ret
  exact ⟨rfl, B0.out.then_below b2⟩
theorem conv_bytes {w : World} {g : Nat} {l : List UInt8} (h : Own .u8 5 w g (M.bs l)) (N : Nat) (hN : l.length = N) (hb : N ≤ 140737488355328) :
    (convert 113 9 (.slice (some ⟨g, 0, none⟩) N N)).run Tryz.prog w = .ok (.string ⟨l.toArray⟩) w := by
  have h := run_convert_bytes_back (P := Tryz.prog) w 113 9 5 ⟨g, 0, none⟩ N l sliceByte (by kernel_rfl) (by kernel_rfl) (fun j hj => by
    rw [Lib.add_plain, Nat.zero_add, h.cell j (by rw [M.bs_len]; exact hj), List.getD_eq_getElem?_getD, M.bs, List.getElem?_map, List.getElem?_eq_getElem hj]
    rfl)
  rw [hN] at h
  exact h
set_option maxRecDepth 100000 in
set_option maxHeartbeats 4000000 in
theorem natText_long (w : World) (b o c n : Nat) (l : List Int) (hr : Row .u64 w (.slice (some ⟨b, o, none⟩) l.length c) l) (hd : M.Dig M.BB l) (ht : M.Trm l) (h2 : 2 ≤ l.length) (hv : M.val M.BB l = n) (hL : l.length ≤ 54975581388) :
    Calls Tryz.prog 61 #[.agg #[.int .u64 0, .slice (some ⟨b, o, none⟩) l.length c]] w fun e w' => e = .returned (.string ⟨(Lib.decDigits n).toArray⟩) ∧ Below w.heap.size w w' := by
  have hu : Den w (.agg #[.int .u64 0, .slice (some ⟨b, o, none⟩) l.length c]) n := .inr ⟨b, o, c, l, rfl, hr, hd, ht, h2, hv⟩
  have hbig := Den.big (w := w) (b := b) (o := o) (c := c) hd ht h2 hv
  have HU := hide hu
  have HB := fun p hp => big_lt (p := p) hd hv hp
  replace HB := hide HB
  obtain ⟨L, hL'⟩ : ∃ L, l.length = L := ⟨_, rfl⟩
  rw [hL'] at HU h2 hL HB ⊢
  have B0 := hide (alloc_below w (.cells #[.int .u64 0, .slice (some ⟨b, o, none⟩) L c] 90))
  have A0 := hide (heap_alloc_new w (.cells #[.int .u64 0, .slice (some ⟨b, o, none⟩) L c] 90))
  clear hr hd ht hv hu hL'
  have q1 := nil_eq
  have q2 := hide (fun W => tens_calls W (20 * L) (by omega))
  have ew : IntKind.i64.wrap (20 * (L : Int)) = ((20 * L : Nat) : Int) := by rw [IntKind.wrap_i64]; omega
  go_enter Tryz.func61, Tryz.ntmps61
  go_wp2_with fail
  refine (q2.out _).mono ?_
  rintro e w1 ⟨⟨v, p, rfl, hP, h1, h3⟩, b1⟩
  obtain ⟨ao, cc, rfl, hc1, hc2⟩ := Nats.shape hP.nats
  have hp0 : p ≠ 0 := by rintro rfl; omega
  have hp36 := pow_small' h3 (by omega)
  have A1 := hide (kept_block A0.out b1)
  have B1 := hide (B0.out.then_below b1)
  have NP := hide hP.nats
  have hn0 := hide (HB.out p h1)
  have s19 : Hid (∀ j, j < p → IntKind.i64.wrap ((19 : Int) * 2 ^ (j + 1)) = ((19 * 2 ^ (j + 1) : Nat) : Int)) := fun j hj => shl_19 (j + 1) (by omega)
  clear hP h1 h3 b1 A0 B0 q2 HB
  go_wp2
  go_loopw [3] (fun pv wr => ∃ j : Nat, j < p ∧ pv = .slice ao (j + 1) cc ∧ Hid (Nats wr (.slice ao (j + 1) cc) (tensL (j + 1))) ∧ Hid (n < M.ten (j + 1)) ∧
      Hid (wr.heap[w.heap.size]? = some (.cells #[.int .u64 0, .slice (some ⟨b, o, none⟩) L c] 90 (0, 0))) ∧ Hid (Below w.heap.size w wr)) (fun pv _ => lenOf pv)
  case atStart =>
    obtain ⟨j, rfl⟩ : ∃ j, p = j + 1 := ⟨p - 1, by omega⟩
    exact ⟨j, by omega, rfl, NP, hn0, A1, B1⟩
  case round =>
    clear NP hn0 A1 B1
    obtain ⟨j, hj, rfl, NP, hn0, A1, B1⟩ := hrel
    obtain ⟨g, off, x, s, k, q, rfl, c2, c3, dx⟩ := NP.out.last
    obtain ⟨a0, a1, -, -⟩ := box_facts A1.out
    have D1 : Below wr.heap.size wr wr.drew := (Below.refl _ _).drew
    have ix := fun W => run_at_nat g off (j + 1) cc j (by omega) (by omega) W
    simp only [Int.toNat_natCast] at ix
    have S0 : Hid (wr.cell? ⟨w.heap.size, 0, none⟩ = some (.int .u64 0) ∧ wr.cell? ⟨w.heap.size, 1, none⟩ = some (.slice (some ⟨b, o, none⟩) L c) ∧ wr.cell? ⟨g, off + j * 2, none⟩ = some (.int .u64 x) ∧ wr.cell? ⟨g, off + j * 2 + 1, none⟩ = some (.slice s k q) ∧ Below w.heap.size w wr) := ⟨a0, a1, c2, c3, B1.out⟩
    obtain ⟨cv, hcv⟩ : ∃ cv, M.cmp (M.ten j) n = cv := ⟨_, rfl⟩
    have C1 := hide (natCmp_calls wr.drew _ _ (M.ten j) n (dx.below D1) (HU.out.below (B1.out.then_below D1)))
    rw [hcv] at C1
    clear a0 a1 c2 c3 dx
    have hj37 : j ≤ 36 := by omega
    have w1' : IntKind.i64.wrap ((j : Int) + 1 - 1) = (j : Int) := by rw [IntKind.wrap_i64]; omega
    have w2' : IntKind.i64.wrap ((j : Int)) = (j : Int) := by rw [IntKind.wrap_i64]; omega
    have w3' : IntKind.i64.wrap (((j + 1 : Nat) : Int) - 1) = (j : Int) := by rw [IntKind.wrap_i64]; omega
    by_cases hlt : n < M.ten j
    · obtain rfl : cv = 1 := by rw [← hcv, M.cmp_gt]; exact_mod_cast hlt
      clear hcv
      have hj0 : j ≠ 0 := by
        rintro rfl
        have : M.ten 0 = 10 ^ 19 := rfl
        omega
      have sl := sl_nats g off (j + 1) cc j (by omega)
      go_wp2_with fail
      go_region_held3
        (fun w' => w'.cell? ⟨w.heap.size, 0, none⟩ = some (.int .u64 0) ∧ w'.cell? ⟨w.heap.size, 1, none⟩ = some (.slice (some ⟨b, o, none⟩) L c) ∧ w'.cell? ⟨g, off + j * 2, none⟩ = some (.int .u64 x) ∧ w'.cell? ⟨g, off + j * 2 + 1, none⟩ = some (.slice s k q) ∧ Below w.heap.size w w')
        (first
          | exact S0.out
          | exact ⟨S0.out.1, S0.out.2.1, S0.out.2.2.1, S0.out.2.2.2.1, S0.out.2.2.2.2.drew⟩
          | exact cells4_keep S0.out (D1.then_below ba))
        (first
          | (go_at_call 84; refine C1.out.mono ?_; rintro e wa ⟨rfl, ba⟩))
      have bA := D1.then_below ba
      have N2 := hide (NP.out.below bA).init
      have A2 := hide (kept_block A1.out bA)
      have B2 := hide (B1.out.then_below bA)
      clear S0 C1 ba bA D1
      go_wp2
      go_roundw
      case rel =>
        obtain ⟨i, rfl⟩ : ∃ i, j = i + 1 := ⟨j - 1, by omega⟩
        exact ⟨i, by omega, rfl, N2, hlt, A2, B2⟩
      case measure => simp [lenOf]
    · have hcv0 : cv ≤ 0 := by
        rw [← hcv]
        unfold M.cmp
        split
        · decide
        · rw [if_pos (by omega)]; decide
      have hcvb : (decide (0 < cv)) = false := decide_eq_false (by omega)
      have es := s19.out j hj
      clear hcv
      go_wp2_with fail
      go_region_held3
        (fun w' => w'.cell? ⟨w.heap.size, 0, none⟩ = some (.int .u64 0) ∧ w'.cell? ⟨w.heap.size, 1, none⟩ = some (.slice (some ⟨b, o, none⟩) L c) ∧ w'.cell? ⟨g, off + j * 2, none⟩ = some (.int .u64 x) ∧ w'.cell? ⟨g, off + j * 2 + 1, none⟩ = some (.slice s k q) ∧ Below w.heap.size w w')
        (first
          | exact S0.out
          | exact ⟨S0.out.1, S0.out.2.1, S0.out.2.2.1, S0.out.2.2.2.1, S0.out.2.2.2.2.drew⟩
          | exact cells4_keep S0.out (D1.then_below ba))
        (first
          | (go_at_call 84; refine C1.out.mono ?_; rintro e wa ⟨rfl, ba⟩))
      have bA := D1.then_below ba
      have N2 := hide (NP.out.below bA)
      have A2 := hide (kept_block A1.out bA)
      have B2 := hide (B1.out.then_below bA)
      have hp37 : 2 ^ (j + 1) ≤ 2 ^ 36 := Nat.pow_le_pow_right (by decide) (by omega)
      generalize hN : 19 * 2 ^ (j + 1) = N at *
      have hNb : N ≤ 1305670057984 := by omega
      have HN := hide hN
      clear S0 C1 ba bA D1 hN hp37
      go_wp2_with (at_make; refine wpList_make_row _ rfl _ _ _ rfl .u8 _ 1 sliceByte infoByte .i64 .i64 _ _ N rfl rfl (by omega) (by omega) (by decide) (by omega) ?_; intro w3 z3 hz3 ho3 hg3 hs3; have A3 := kept_block A2.out (grown_below hg3); obtain ⟨a0, a1, -, -⟩ := box_facts A3)
      have b3 := grown_below hg3
      have B3 := B2.out.then_below b3
      have C5 := writeHalves_calls (j + 1) w3 wa.heap.size 0 N n _ _ z3 ho3 (by rw [hz3.out, HN.out]; simp) (by rw [HN.out]; omega) (by omega) (by rw [hz3.out]; simp; omega) (HU.out.below B3) hn0.out (by omega) (N2.out.below b3)
      rw [HN.out, List.take_zero, List.nil_append, List.drop_of_length_le (by rw [hz3.out]; simp), List.append_nil] at C5
      refine C5.mono ?_
      rintro e w4 ⟨rfl, o4, g4⟩
      have hcv := conv_bytes o4 N (M.pad_len N n) (by omega)
      have B4 := hide (B3.then_grown g4 (by rintro g ⟨⟩; exact B2.out.size))
      have q5 := hide (fun W => Tryz.strings_TrimLeft_one ⟨(M.pad N n).toArray⟩ 48 (by decide) W)
      have hv : Lib.trimLeftB (ByteArray.mk (M.pad N n).toArray).data.toList 48 = Lib.decDigits n := by
        have hdec : M.dec (M.pad N n) = n := by
          rw [M.pad_dec]
          refine Nat.mod_eq_of_lt ?_
          rw [← HN.out]
          exact hn0.out
        show Lib.trimLeftB (M.pad N n).toArray.toList 48 = _
        rw [List.toList_toArray]
        have := M.dropZeros (M.pad_digs N n) (by rw [hdec]; omega)
        rw [hdec] at this
        exact this
      rw [hv] at q5
      clear C5 A3 a0 a1 g4 o4 hg3 ho3 hz3 b3 B3 hs3 hv
      go_wp2_with fail
      refine (q5.out _).mono ?_
      rintro e w5 ⟨rfl, hw5⟩
      rw [hw5]
      clear hw5 w5
      go_wp2
      go_ret
      exact ⟨rfl, B4.out⟩
theorem natText_calls (w : World) (u : Value) (n K : Nat) (hu : Den w u n) (hn : (n : Int) < M.BB ^ K) (hK : K ≤ 54975581388) (hT : Pows w) :
    Calls Tryz.prog 61 #[u] w fun e w' => e = .returned (.string ⟨(Lib.decDigits n).toArray⟩) ∧ Below w.heap.size w w' := by
  rcases hu with ⟨rfl, h⟩ | ⟨b, o, c, l, rfl, hr, hd, ht, hl, hv⟩
  · exact natText_word w n h hT
  · exact natText_long w b o c n l hr hd ht hl hv (Nat.le_trans (len_of hd ht hv hn) hK)
end Go.Proofs.YtlepicdpelkmlaaGreatDoor
/- ==== Rat1 ==== -/
namespace Go.Proofs.YtlepicdpelkmlaaGreatDoor
open Go.RowKit
set_option linter.unusedVariables false
/-- The value v is the sign, the number above and the number below (0 of a whole number) of a rational. -/
def DenR (w : World) (v : Value) (neg : Bool) (n d : Nat) : Prop :=
  ∃ (x1 : Int) (x2 : Option Addr) (x3 x4 : Nat) (y1 : Int) (y2 : Option Addr) (y3 y4 : Nat), v = .agg #[.bool neg, .int .u64 x1, .slice x2 x3 x4, .int .u64 y1, .slice y2 y3 y4] ∧
    Den w (.agg #[.int .u64 x1, .slice x2 x3 x4]) n ∧ Den w (.agg #[.int .u64 y1, .slice y2 y3 y4]) d
theorem DenR.below {w w' : World} {v : Value} {neg : Bool} {n d : Nat} (h : DenR w v neg n d) (b : Below w.heap.size w w') : DenR w' v neg n d := by
  obtain ⟨x1, x2, x3, x4, y1, y2, y3, y4, rfl, h1, h2⟩ := h
  exact ⟨x1, x2, x3, x4, y1, y2, y3, y4, rfl, h1.below b, h2.below b⟩
theorem nopair5 (b : Bool) (x1 : Int) (x2 : Option Addr) (x3 x4 : Nat) (y1 : Int) (y2 : Option Addr) (y3 y4 : Nat) : NoPair #[.bool b, .int .u64 x1, .slice x2 x3 x4, .int .u64 y1, .slice y2 y3 y4] := by
  intro j x y h1 h2
  match j, h1, h2 with
  | 0, h1, h2 => simp at h1
  | 1, h1, h2 => simp at h2
  | 2, h1, h2 => simp at h1
  | 3, h1, h2 => simp at h2
  | 4, h1, h2 => simp at h1
  | j + 5, h1, h2 => simp at h1
/-- The five cells of a rational's box. -/
theorem ratBox {w : World} {g : Nat} {a b c d e : Value} {t : TypeId} (h : w.heap[g]? = some (.cells #[a, b, c, d, e] t (0, 0))) :
    (w.cell? ⟨g, 0, none⟩ = some a ∧ w.cell? ⟨g, 1, none⟩ = some b ∧ w.cell? ⟨g, 2, none⟩ = some c ∧ w.cell? ⟨g, 3, none⟩ = some d ∧ w.cell? ⟨g, 4, none⟩ = some e) ∧
    (w.frozen? ⟨g, 0, none⟩ = false ∧ w.frozen? ⟨g, 1, none⟩ = false ∧ w.frozen? ⟨g, 2, none⟩ = false ∧ w.frozen? ⟨g, 3, none⟩ = false ∧ w.frozen? ⟨g, 4, none⟩ = false) := by
  refine ⟨⟨?_, ?_, ?_, ?_, ?_⟩, ?_, ?_, ?_, ?_, ?_⟩
  · rw [cell_of_row _ _ 0 _ _ (0, 0) h]; rfl
  · rw [cell_of_row _ _ 1 _ _ (0, 0) h]; rfl
  · rw [cell_of_row _ _ 2 _ _ (0, 0) h]; rfl
  · rw [cell_of_row _ _ 3 _ _ (0, 0) h]; rfl
  · rw [cell_of_row _ _ 4 _ _ (0, 0) h]; rfl
  all_goals simp [World.frozen?, h]
theorem set5 (w : World) (g : Nat) (a b c d e : Value) : w.grownBy (((((w.setCell ⟨g, 0, none⟩ a).setCell ⟨g, 1, none⟩ b).setCell ⟨g, 2, none⟩ c).setCell ⟨g, 3, none⟩ d).setCell ⟨g, 4, none⟩ e) (some g) :=
  grown_trans (grown_trans (grown_trans (grown_trans (grown_set _ _ _ _) (grown_set _ _ _ _)) (grown_set _ _ _ _)) (grown_set _ _ _ _)) (grown_set _ _ _ _)
theorem DenR.make {w w' : World} {neg : Bool} {n d g : Nat} {x1 : Int} {x2 : Option Addr} {x3 x4 : Nat} {y1 : Int} {y2 : Option Addr} {y3 y4 : Nat} {cs : Array Value} {t : TypeId} (h1 : Den w (.agg #[.int .u64 x1, .slice x2 x3 x4]) n) (h2 : Den w (.agg #[.int .u64 y1, .slice y2 y3 y4]) d)
    (hg : w.heap[g]? = some (.cells cs t (0, 0))) (hn : NoPair cs) (q : w.grownBy w' (some g)) : DenR w' (.agg #[.bool neg, .int .u64 x1, .slice x2 x3 x4, .int .u64 y1, .slice y2 y3 y4]) neg n d :=
  ⟨x1, x2, x3, x4, y1, y2, y3, y4, rfl, h1.kept q (h1.notin hn hg), h2.kept q (h2.notin hn hg)⟩
theorem cells2_keep {w W W2 : World} {a1 a2 : Addr} {v1 v2 : Value} (h : W.cell? a1 = some v1 ∧ W.cell? a2 = some v2 ∧ Below w.heap.size w W) (b : Below W.heap.size W W2) :
    W2.cell? a1 = some v1 ∧ W2.cell? a2 = some v2 ∧ Below w.heap.size w W2 := by
  obtain ⟨h1, h2, h5⟩ := h
  exact ⟨by rw [b.cell (World.block_lt_of_cell? W _ h1)]; exact h1, by rw [b.cell (World.block_lt_of_cell? W _ h2)]; exact h2, h5.then_below b⟩
theorem cells2_set5 {w W W2 : World} {g H : Nat} {v1 v2 a b c d e : Value} (h : W.cell? ⟨g, 0, none⟩ = some v1 ∧ W.cell? ⟨g, 1, none⟩ = some v2 ∧ Below w.heap.size w W) (bl : Below W.heap.size W W2) (ht : True) (hg : g ≠ H) (hH : w.heap.size ≤ H) :
    (((((W2.setCell ⟨H, 0, none⟩ a).setCell ⟨H, 1, none⟩ b).setCell ⟨H, 2, none⟩ c).setCell ⟨H, 3, none⟩ d).setCell ⟨H, 4, none⟩ e).cell? ⟨g, 0, none⟩ = some v1 ∧
    (((((W2.setCell ⟨H, 0, none⟩ a).setCell ⟨H, 1, none⟩ b).setCell ⟨H, 2, none⟩ c).setCell ⟨H, 3, none⟩ d).setCell ⟨H, 4, none⟩ e).cell? ⟨g, 1, none⟩ = some v2 ∧
    Below w.heap.size w (((((W2.setCell ⟨H, 0, none⟩ a).setCell ⟨H, 1, none⟩ b).setCell ⟨H, 2, none⟩ c).setCell ⟨H, 3, none⟩ d).setCell ⟨H, 4, none⟩ e) := by
  obtain ⟨h1, h2, h5⟩ := cells2_keep h bl
  have q := set5 W2 H a b c d e
  exact ⟨q.cell h1 (by simpa using hg), q.cell h2 (by simpa using hg), h5.then_grown q (by rintro g ⟨⟩; exact hH)⟩
set_option maxRecDepth 100000 in
set_option maxHeartbeats 4000000 in
theorem whole_calls (w : World) (neg : Bool) (u : Value) (n : Nat) (hu : Den w u n) :
    Calls Tryz.prog 71 #[.bool neg, u] w fun e w' => (∃ r, e = .returned r ∧ DenR w' r (neg && !decide (n = 0)) n 0) ∧ Below w.heap.size w w' := by
  obtain ⟨x1, x2, x3, x4, rfl⟩ := hu.shape2
  have T0 := hide (two_new w (.cells #[.int .u64 x1, .slice x2 x3 x4] 90) (.cells #[.bool false, .int .u64 0, .slice none 0 0, .int .u64 0, .slice none 0 0] 92))
  have B0 := hide (alloc2_below w (.cells #[.int .u64 x1, .slice x2 x3 x4] 90) (.cells #[.bool false, .int .u64 0, .slice none 0 0, .int .u64 0, .slice none 0 0] 92))
  cases neg with
  | false =>
    go_enter Tryz.func71, Tryz.ntmps71
    go_wp2_with fail
    obtain ⟨A1, R1, -⟩ := T0.out
    replace B0 := B0.out
    generalize ((w.alloc (.cells #[.int .u64 x1, .slice x2 x3 x4] 90)).alloc (.cells #[.bool false, .int .u64 0, .slice none 0 0, .int .u64 0, .slice none 0 0] 92)) = w1 at *
    obtain ⟨a0, a1, -, -⟩ := box_facts A1
    have S0 : Hid (w1.cell? ⟨w.heap.size, 0, none⟩ = some (.int .u64 x1) ∧ w1.cell? ⟨w.heap.size, 1, none⟩ = some (.slice x2 x3 x4) ∧ Below w.heap.size w w1) := ⟨a0, a1, B0⟩
    have D1 : Below w1.heap.size w1 w1.drew := (Below.refl _ _).drew
    replace A1 := hide A1
    replace R1 := hide R1
    clear T0
    obtain ⟨⟨z0, z1, z2, z3, z4⟩, f0, f1, f2, f3, f4⟩ := ratBox R1.out
    go_region
    go_wp2
    refine bodyPost_ret (v := .agg #[.bool (false), .int .u64 x1, .slice x2 x3 x4, .int .u64 0, .slice none 0 0]) (by simp [results, Tryz.results71, go_sem, z0, z1, z2, z3, z4]) rfl ?_
    have q := grown_drew (set5 w1 (w.heap.size + 1) (.bool (false)) (.int .u64 x1) (.slice x2 x3 x4) (.int .u64 0) (.slice none 0 0))
    exact ⟨⟨_, rfl, DenR.make (hu.below B0) (den_word _ 0 (by decide)) R1.out (nopair5 _ _ _ _ _ _ _ _ _) q⟩, B0.then_grown q (by rintro g ⟨⟩; omega)⟩
  | true =>
    go_enter Tryz.func71, Tryz.ntmps71
    go_wp2_with fail
    obtain ⟨A1, R1, -⟩ := T0.out
    replace B0 := B0.out
    generalize ((w.alloc (.cells #[.int .u64 x1, .slice x2 x3 x4] 90)).alloc (.cells #[.bool false, .int .u64 0, .slice none 0 0, .int .u64 0, .slice none 0 0] 92)) = w1 at *
    obtain ⟨a0, a1, -, -⟩ := box_facts A1
    have S0 : Hid (w1.cell? ⟨w.heap.size, 0, none⟩ = some (.int .u64 x1) ∧ w1.cell? ⟨w.heap.size, 1, none⟩ = some (.slice x2 x3 x4) ∧ Below w.heap.size w w1) := ⟨a0, a1, B0⟩
    have D1 : Below w1.heap.size w1 w1.drew := (Below.refl _ _).drew
    replace A1 := hide A1
    replace R1 := hide R1
    clear a0 a1 T0
    have S1 : Hid (w1.drew.cell? ⟨w.heap.size, 0, none⟩ = some (.int .u64 x1) ∧ w1.drew.cell? ⟨w.heap.size, 1, none⟩ = some (.slice x2 x3 x4) ∧ Below w.heap.size w w1.drew) := cells2_keep S0.out D1
    have hne : w.heap.size ≠ w.heap.size + 1 := by omega
    have hle : w.heap.size ≤ w.heap.size + 1 := by omega
    go_region_held3
      (fun w' => w'.cell? ⟨w.heap.size, 0, none⟩ = some (.int .u64 x1) ∧ w'.cell? ⟨w.heap.size, 1, none⟩ = some (.slice x2 x3 x4) ∧ Below w.heap.size w w')
      (first
        | with_reducible exact S0.out
        | with_reducible exact S1.out
        | with_reducible exact cells2_keep S0.out (D1.then_below ba)
        | with_reducible exact cells2_set5 S0.out (D1.then_below ba) trivial hne hle)
      (first
        | (go_at_call 57; refine (isZero_calls _ _ n (hu.below (B0.then_below D1))).mono ?_; rintro e wa ⟨rfl, ba⟩; have R2 := hide (kept_block R1.out (D1.then_below ba)); obtain ⟨⟨z0, z1, z2, z3, z4⟩, f0, f1, f2, f3, f4⟩ := ratBox R2.out))
    go_wp2
    refine bodyPost_ret (v := .agg #[.bool (!decide (n = 0)), .int .u64 x1, .slice x2 x3 x4, .int .u64 0, .slice none 0 0]) (by simp [results, Tryz.results71, go_sem, z0, z1, z2, z3, z4]) rfl ?_
    have q := set5 wa (w.heap.size + 1) (.bool (!decide (n = 0))) (.int .u64 x1) (.slice x2 x3 x4) (.int .u64 0) (.slice none 0 0)
    exact ⟨⟨_, rfl, DenR.make (hu.below (B0.then_below (D1.then_below ba))) (den_word _ 0 (by decide)) R2.out (nopair5 _ _ _ _ _ _ _ _ _) q⟩, (B0.then_below (D1.then_below ba)).then_grown q (by rintro g ⟨⟩; omega)⟩
end Go.Proofs.YtlepicdpelkmlaaGreatDoor
/- ==== Rat2 ==== -/
namespace Go.Proofs.YtlepicdpelkmlaaGreatDoor
open Go.RowKit
set_option linter.unusedVariables false
theorem three_new' (w : World) (o1 o2 o3 : Obj) : (((w.alloc o1).alloc o2).alloc o3).heap[w.heap.size]? = some o1 ∧ (((w.alloc o1).alloc o2).alloc o3).heap[w.heap.size + 1]? = some o2 ∧ (((w.alloc o1).alloc o2).alloc o3).heap[w.heap.size + 1 + 1]? = some o3 ∧ Below w.heap.size w (((w.alloc o1).alloc o2).alloc o3) := by
  obtain ⟨t1, t2, t3, t4⟩ := three_new w o1 o2 o3
  exact ⟨t1, t2, t3, (alloc2_below w o1 o2).then_below (alloc_below _ o3)⟩
/-- What lowest makes of its parts. -/
theorem ratStore {w : World} {g : Nat} {a b c d e a' b' c' d' e' : Value} {t : TypeId} (h : w.heap[g]? = some (.cells #[a, b, c, d, e] t (0, 0))) :
    (((((w.setCell ⟨g, 0, none⟩ a').setCell ⟨g, 1, none⟩ b').setCell ⟨g, 2, none⟩ c').setCell ⟨g, 3, none⟩ d').setCell ⟨g, 4, none⟩ e').heap[g]? = some (.cells #[a', b', c', d', e'] t (0, 0)) := by
  simp only [World.setCell, Array.getElem?_modify, if_pos, h, Option.map_some]
  simp
theorem DenR.shape {w : World} {v : Value} {neg : Bool} {n d : Nat} (h : DenR w v neg n d) : ∃ (x1 : Int) (x2 : Option Addr) (x3 x4 : Nat) (y1 : Int) (y2 : Option Addr) (y3 y4 : Nat), v = .agg #[.bool neg, .int .u64 x1, .slice x2 x3 x4, .int .u64 y1, .slice y2 y3 y4] ∧
    Den w (.agg #[.int .u64 x1, .slice x2 x3 x4]) n ∧ Den w (.agg #[.int .u64 y1, .slice y2 y3 y4]) d := h
set_option maxRecDepth 100000 in
set_option maxHeartbeats 4000000 in
theorem lowest_zero (w : World) (neg : Bool) (u v : Value) (n d : Nat) (hu : Den w u n) (hv : Den w v d) (h0 : n = 0) :
    Calls Tryz.prog 59 #[.bool neg, u, v] w fun e w' => (∃ r, e = .returned r ∧ DenR w' r (neg && !decide (n = 0)) n 0) ∧ Below w.heap.size w w' := by
  obtain ⟨x1, x2, x3, x4, rfl⟩ := hu.shape2
  obtain ⟨y1, y2, y3, y4, rfl⟩ := hv.shape2
  have T0 := hide (three_new' w (.cells #[.int .u64 x1, .slice x2 x3 x4] 90) (.cells #[.int .u64 y1, .slice y2 y3 y4] 90) (.cells #[.bool false, .int .u64 0, .slice none 0 0, .int .u64 0, .slice none 0 0] 92))
  have SH := hide (fun W hW => isZero_calls W _ n (hu.below hW))
  go_enter Tryz.func59, Tryz.ntmps59
  go_wp2_with fail
  obtain ⟨A1, C1, R1, B1⟩ := T0.out
  generalize (((w.alloc (.cells #[.int .u64 x1, .slice x2 x3 x4] 90)).alloc (.cells #[.int .u64 y1, .slice y2 y3 y4] 90)).alloc (.cells #[.bool false, .int .u64 0, .slice none 0 0, .int .u64 0, .slice none 0 0] 92)) = w1 at *
  refine (SH.out _ B1).mono ?_
  rintro e w2 ⟨rfl, b2⟩
  replace A1 := kept_block A1 b2
  replace C1 := kept_block C1 b2
  replace R1 := kept_block R1 b2
  replace B1 := B1.then_below b2
  clear T0 SH b2
  rw [decide_eq_true h0]
  obtain ⟨a0, a1, -, -⟩ := box_facts A1
  have q := hide (whole_calls w2 neg _ n (hu.below B1))
  go_wp2_with fail
  refine q.out.mono ?_
  rintro e w4 ⟨⟨r, rfl, hr⟩, b4⟩
  obtain ⟨p1, p2, p3, p4, q1, q2, q3, q4, rfl, dn, dd⟩ := hr.shape
  have R2 := kept_block R1 b4
  obtain ⟨⟨z0, z1, z2, z3, z4⟩, f0, f1, f2, f3, f4⟩ := ratBox R2
  clear a0 a1 q hr
  generalize hng : (neg && !decide (n = 0)) = ng at *
  replace hng := hide hng
  go_wp2
  refine bodyPost_ret (v := .agg #[.bool ng, .int .u64 p1, .slice p2 p3 p4, .int .u64 q1, .slice q2 q3 q4]) (by simp [results, Tryz.results59, go_sem, z0, z1, z2, z3, z4]) rfl ?_
  have q := set5 w4 (w.heap.size + 1 + 1) (.bool ng) (.int .u64 p1) (.slice p2 p3 p4) (.int .u64 q1) (.slice q2 q3 q4)
  exact ⟨⟨_, rfl, by rw [hng.out]; exact DenR.make dn dd R2 (nopair5 _ _ _ _ _ _ _ _ _) q⟩, (B1.then_below b4).then_grown q (by rintro g ⟨⟩; omega)⟩
set_option maxRecDepth 100000 in
set_option maxHeartbeats 4000000 in
theorem lowest_one (w : World) (neg : Bool) (u v : Value) (n d : Nat) (hu : Den w u n) (hv : Den w v d) (h0 : n ≠ 0) (h1 : d = 1) :
    Calls Tryz.prog 59 #[.bool neg, u, v] w fun e w' => (∃ r, e = .returned r ∧ DenR w' r (neg && !decide (n = 0)) n 0) ∧ Below w.heap.size w w' := by
  obtain ⟨x1, x2, x3, x4, rfl⟩ := hu.shape2
  obtain ⟨y1, y2, y3, y4, rfl⟩ := hv.shape2
  have T0 := hide (three_new' w (.cells #[.int .u64 x1, .slice x2 x3 x4] 90) (.cells #[.int .u64 y1, .slice y2 y3 y4] 90) (.cells #[.bool false, .int .u64 0, .slice none 0 0, .int .u64 0, .slice none 0 0] 92))
  have SH := hide (fun W hW => isZero_calls W _ n (hu.below hW))
  go_enter Tryz.func59, Tryz.ntmps59
  go_wp2_with fail
  obtain ⟨A1, C1, R1, B1⟩ := T0.out
  generalize (((w.alloc (.cells #[.int .u64 x1, .slice x2 x3 x4] 90)).alloc (.cells #[.int .u64 y1, .slice y2 y3 y4] 90)).alloc (.cells #[.bool false, .int .u64 0, .slice none 0 0, .int .u64 0, .slice none 0 0] 92)) = w1 at *
  refine (SH.out _ B1).mono ?_
  rintro e w2 ⟨rfl, b2⟩
  replace A1 := kept_block A1 b2
  replace C1 := kept_block C1 b2
  replace R1 := kept_block R1 b2
  replace B1 := B1.then_below b2
  clear T0 SH b2
  rw [decide_eq_false h0]
  obtain ⟨c0, c1, -, -⟩ := box_facts C1
  have q1 := hide (isOne_calls w2 _ d (hv.below B1))
  rw [decide_eq_true h1] at q1
  go_wp2_with fail
  refine q1.out.mono ?_
  rintro e w3 ⟨rfl, b2⟩
  clear c0 c1 q1
  replace A1 := kept_block A1 b2
  replace C1 := kept_block C1 b2
  replace R1 := kept_block R1 b2
  replace B1 := B1.then_below b2
  clear b2 w2
  rename World => w2
  obtain ⟨a0, a1, -, -⟩ := box_facts A1
  have q := hide (whole_calls w2 neg _ n (hu.below B1))
  go_wp2_with fail
  refine q.out.mono ?_
  rintro e w4 ⟨⟨r, rfl, hr⟩, b4⟩
  obtain ⟨p1, p2, p3, p4, q1, q2, q3, q4, rfl, dn, dd⟩ := hr.shape
  have R2 := kept_block R1 b4
  obtain ⟨⟨z0, z1, z2, z3, z4⟩, f0, f1, f2, f3, f4⟩ := ratBox R2
  clear a0 a1 q hr
  generalize hng : (neg && !decide (n = 0)) = ng at *
  replace hng := hide hng
  go_wp2
  refine bodyPost_ret (v := .agg #[.bool ng, .int .u64 p1, .slice p2 p3 p4, .int .u64 q1, .slice q2 q3 q4]) (by simp [results, Tryz.results59, go_sem, z0, z1, z2, z3, z4]) rfl ?_
  have q := set5 w4 (w.heap.size + 1 + 1) (.bool ng) (.int .u64 p1) (.slice p2 p3 p4) (.int .u64 q1) (.slice q2 q3 q4)
  exact ⟨⟨_, rfl, by rw [hng.out]; exact DenR.make dn dd R2 (nopair5 _ _ _ _ _ _ _ _ _) q⟩, (B1.then_below b4).then_grown q (by rintro g ⟨⟩; omega)⟩
set_option maxRecDepth 100000 in
set_option maxHeartbeats 4000000 in
theorem lowest_frac (w : World) (neg : Bool) (u v : Value) (n d : Nat) (hu : Den w u n) (hv : Den w v d) (h0 : n ≠ 0) (h1 : d ≠ 1) :
    Calls Tryz.prog 59 #[.bool neg, u, v] w fun e w' => (∃ r, e = .returned r ∧ DenR w' r neg n d) ∧ Below w.heap.size w w' := by
  obtain ⟨x1, x2, x3, x4, rfl⟩ := hu.shape2
  obtain ⟨y1, y2, y3, y4, rfl⟩ := hv.shape2
  have T0 := hide (three_new' w (.cells #[.int .u64 x1, .slice x2 x3 x4] 90) (.cells #[.int .u64 y1, .slice y2 y3 y4] 90) (.cells #[.bool false, .int .u64 0, .slice none 0 0, .int .u64 0, .slice none 0 0] 92))
  have SH := hide (fun W hW => isZero_calls W _ n (hu.below hW))
  go_enter Tryz.func59, Tryz.ntmps59
  go_wp2_with fail
  obtain ⟨A1, C1, R1, B1⟩ := T0.out
  generalize (((w.alloc (.cells #[.int .u64 x1, .slice x2 x3 x4] 90)).alloc (.cells #[.int .u64 y1, .slice y2 y3 y4] 90)).alloc (.cells #[.bool false, .int .u64 0, .slice none 0 0, .int .u64 0, .slice none 0 0] 92)) = w1 at *
  refine (SH.out _ B1).mono ?_
  rintro e w2 ⟨rfl, b2⟩
  replace A1 := kept_block A1 b2
  replace C1 := kept_block C1 b2
  replace R1 := kept_block R1 b2
  replace B1 := B1.then_below b2
  clear T0 SH b2
  rw [decide_eq_false h0]
  obtain ⟨c0, c1, -, -⟩ := box_facts C1
  have q1 := hide (isOne_calls w2 _ d (hv.below B1))
  rw [decide_eq_false h1] at q1
  go_wp2_with fail
  refine q1.out.mono ?_
  rintro e w3 ⟨rfl, b2⟩
  clear c0 c1 q1
  replace A1 := kept_block A1 b2
  replace C1 := kept_block C1 b2
  replace R1 := kept_block R1 b2
  replace B1 := B1.then_below b2
  clear b2 w2
  rename World => w2
  obtain ⟨a0, a1, -, -⟩ := box_facts A1
  obtain ⟨c0, c1, -, -⟩ := box_facts C1
  obtain ⟨⟨z0, z1, z2, z3, z4⟩, f0, f1, f2, f3, f4⟩ := ratBox R1
  go_wp2
  refine bodyPost_ret (v := .agg #[.bool neg, .int .u64 x1, .slice x2 x3 x4, .int .u64 y1, .slice y2 y3 y4]) (by simp [results, Tryz.results59, go_sem, z0, z1, z2, z3, z4]) rfl ?_
  have q := set5 w2 (w.heap.size + 1 + 1) (.bool neg) (.int .u64 x1) (.slice x2 x3 x4) (.int .u64 y1) (.slice y2 y3 y4)
  exact ⟨⟨_, rfl, DenR.make (hu.below B1) (hv.below B1) R1 (nopair5 _ _ _ _ _ _ _ _ _) q⟩, B1.then_grown q (by rintro g ⟨⟩; omega)⟩
/-- The rational that lowest makes: whole where the number above is 0 or the number below 1. -/
def Low (w : World) (r : Value) (neg : Bool) (n d : Nat) : Prop := if n = 0 ∨ d = 1 then DenR w r (neg && !decide (n = 0)) n 0 else DenR w r neg n d
theorem lowest_calls (w : World) (neg : Bool) (u v : Value) (n d : Nat) (hu : Den w u n) (hv : Den w v d) :
    Calls Tryz.prog 59 #[.bool neg, u, v] w fun e w' => (∃ r, e = .returned r ∧ Low w' r neg n d) ∧ Below w.heap.size w w' := by
  unfold Low
  by_cases h : n = 0 ∨ d = 1
  · simp only [if_pos h]
    by_cases h0 : n = 0
    · exact lowest_zero w neg u v n d hu hv h0
    · exact lowest_one w neg u v n d hu hv h0 (h.resolve_left h0)
  · simp only [if_neg h]
    exact lowest_frac w neg u v n d hu hv (fun e => h (.inl e)) (fun e => h (.inr e))
end Go.Proofs.YtlepicdpelkmlaaGreatDoor
