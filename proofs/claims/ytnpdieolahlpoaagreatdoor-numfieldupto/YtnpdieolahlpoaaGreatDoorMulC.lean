/- Laid together of: RatBoxes, RatMul2. -/
import Derived.Test.YtnpdieolahlpoaaGreatDoorMulB
import Derived.Test.YtnpdieolahlpoaaGreatDoorAll8
import Derived.Test.YtnpdieolahlpoaaGreatDoorAll7
import Derived.Deep.RegionWith
import Derived.Deep.DeepCutAuto
import Derived.Deep.RegionHeld3
/- ==== RatBoxes ==== -/
namespace Go.Proofs.YtnpdieolahlpoaaGreatDoor
open Go.RowKit
set_option linter.unusedVariables false
/-- The number under the stroke. -/
def lowN (d : Nat) : Nat := if d = 0 then 1 else d
theorem lowN_pos (d : Nat) : 0 < lowN d := by unfold lowN; split <;> omega
theorem div_BB {a b K : Nat} (h : (a : Int) < M.BB ^ K) : ((a / b : Nat) : Int) < M.BB ^ K := Int.lt_of_le_of_lt (by exact_mod_cast Nat.div_le_self a b) h
theorem lower_low (w : World) (v : Value) (neg : Bool) (n d : Nat) (h : DenR w v neg n d) :
    Calls Tryz.prog 48 #[v] w fun e w' => (∃ r, e = .returned r ∧ Den w' r (lowN d)) ∧ Below w.heap.size w w' := lower_calls w v neg n d h
theorem cells8_keep {w W W2 : World} {a1 a2 a3 a4 a5 a6 a7 a8 : Addr} {v1 v2 v3 v4 v5 v6 v7 v8 : Value} (h : W.cell? a1 = some v1 ∧ W.cell? a2 = some v2 ∧ W.cell? a3 = some v3 ∧ W.cell? a4 = some v4 ∧ W.cell? a5 = some v5 ∧ W.cell? a6 = some v6 ∧ W.cell? a7 = some v7 ∧ W.cell? a8 = some v8 ∧ Below w.heap.size w W) (b : Below W.heap.size W W2) :
    W2.cell? a1 = some v1 ∧ W2.cell? a2 = some v2 ∧ W2.cell? a3 = some v3 ∧ W2.cell? a4 = some v4 ∧ W2.cell? a5 = some v5 ∧ W2.cell? a6 = some v6 ∧ W2.cell? a7 = some v7 ∧ W2.cell? a8 = some v8 ∧ Below w.heap.size w W2 := by
  obtain ⟨h1, h2, h3, h4, h5, h6, h7, h8, hb⟩ := h
  exact ⟨by rw [b.cell (World.block_lt_of_cell? W _ h1)]; exact h1, by rw [b.cell (World.block_lt_of_cell? W _ h2)]; exact h2, by rw [b.cell (World.block_lt_of_cell? W _ h3)]; exact h3, by rw [b.cell (World.block_lt_of_cell? W _ h4)]; exact h4, by rw [b.cell (World.block_lt_of_cell? W _ h5)]; exact h5, by rw [b.cell (World.block_lt_of_cell? W _ h6)]; exact h6, by rw [b.cell (World.block_lt_of_cell? W _ h7)]; exact h7, by rw [b.cell (World.block_lt_of_cell? W _ h8)]; exact h8, hb.then_below b⟩
theorem cells10_keep {w W W2 : World} {a1 a2 a3 a4 a5 a6 a7 a8 a9 a10 : Addr} {v1 v2 v3 v4 v5 v6 v7 v8 v9 v10 : Value} (h : W.cell? a1 = some v1 ∧ W.cell? a2 = some v2 ∧ W.cell? a3 = some v3 ∧ W.cell? a4 = some v4 ∧ W.cell? a5 = some v5 ∧ W.cell? a6 = some v6 ∧ W.cell? a7 = some v7 ∧ W.cell? a8 = some v8 ∧ W.cell? a9 = some v9 ∧ W.cell? a10 = some v10 ∧ Below w.heap.size w W) (b : Below W.heap.size W W2) :
    W2.cell? a1 = some v1 ∧ W2.cell? a2 = some v2 ∧ W2.cell? a3 = some v3 ∧ W2.cell? a4 = some v4 ∧ W2.cell? a5 = some v5 ∧ W2.cell? a6 = some v6 ∧ W2.cell? a7 = some v7 ∧ W2.cell? a8 = some v8 ∧ W2.cell? a9 = some v9 ∧ W2.cell? a10 = some v10 ∧ Below w.heap.size w W2 := by
  obtain ⟨h1, h2, h3, h4, h5, h6, h7, h8, h9, h10, hb⟩ := h
  exact ⟨by rw [b.cell (World.block_lt_of_cell? W _ h1)]; exact h1, by rw [b.cell (World.block_lt_of_cell? W _ h2)]; exact h2, by rw [b.cell (World.block_lt_of_cell? W _ h3)]; exact h3, by rw [b.cell (World.block_lt_of_cell? W _ h4)]; exact h4, by rw [b.cell (World.block_lt_of_cell? W _ h5)]; exact h5, by rw [b.cell (World.block_lt_of_cell? W _ h6)]; exact h6, by rw [b.cell (World.block_lt_of_cell? W _ h7)]; exact h7, by rw [b.cell (World.block_lt_of_cell? W _ h8)]; exact h8, by rw [b.cell (World.block_lt_of_cell? W _ h9)]; exact h9, by rw [b.cell (World.block_lt_of_cell? W _ h10)]; exact h10, hb.then_below b⟩
theorem bare10_keep {W W2 : World} {a1 a2 a3 a4 a5 a6 a7 a8 a9 a10 : Addr} {v1 v2 v3 v4 v5 v6 v7 v8 v9 v10 : Value} (h : W.cell? a1 = some v1 ∧ W.cell? a2 = some v2 ∧ W.cell? a3 = some v3 ∧ W.cell? a4 = some v4 ∧ W.cell? a5 = some v5 ∧ W.cell? a6 = some v6 ∧ W.cell? a7 = some v7 ∧ W.cell? a8 = some v8 ∧ W.cell? a9 = some v9 ∧ W.cell? a10 = some v10) (b : Below W.heap.size W W2) :
    W2.cell? a1 = some v1 ∧ W2.cell? a2 = some v2 ∧ W2.cell? a3 = some v3 ∧ W2.cell? a4 = some v4 ∧ W2.cell? a5 = some v5 ∧ W2.cell? a6 = some v6 ∧ W2.cell? a7 = some v7 ∧ W2.cell? a8 = some v8 ∧ W2.cell? a9 = some v9 ∧ W2.cell? a10 = some v10 := by
  obtain ⟨h1, h2, h3, h4, h5, h6, h7, h8, h9, h10⟩ := h
  exact ⟨by rw [b.cell (World.block_lt_of_cell? W _ h1)]; exact h1, by rw [b.cell (World.block_lt_of_cell? W _ h2)]; exact h2, by rw [b.cell (World.block_lt_of_cell? W _ h3)]; exact h3, by rw [b.cell (World.block_lt_of_cell? W _ h4)]; exact h4, by rw [b.cell (World.block_lt_of_cell? W _ h5)]; exact h5, by rw [b.cell (World.block_lt_of_cell? W _ h6)]; exact h6, by rw [b.cell (World.block_lt_of_cell? W _ h7)]; exact h7, by rw [b.cell (World.block_lt_of_cell? W _ h8)]; exact h8, by rw [b.cell (World.block_lt_of_cell? W _ h9)]; exact h9, by rw [b.cell (World.block_lt_of_cell? W _ h10)]; exact h10⟩
theorem bare10_set5 {W : World} {a1 a2 a3 a4 a5 a6 a7 a8 a9 a10 : Addr} {v1 v2 v3 v4 v5 v6 v7 v8 v9 v10 a b c d e : Value} {H : Nat} (h : W.cell? a1 = some v1 ∧ W.cell? a2 = some v2 ∧ W.cell? a3 = some v3 ∧ W.cell? a4 = some v4 ∧ W.cell? a5 = some v5 ∧ W.cell? a6 = some v6 ∧ W.cell? a7 = some v7 ∧ W.cell? a8 = some v8 ∧ W.cell? a9 = some v9 ∧ W.cell? a10 = some v10) (n1 : a1.block ≠ H) (n2 : a2.block ≠ H) (n3 : a3.block ≠ H) (n4 : a4.block ≠ H) (n5 : a5.block ≠ H) (n6 : a6.block ≠ H) (n7 : a7.block ≠ H) (n8 : a8.block ≠ H) (n9 : a9.block ≠ H) (n10 : a10.block ≠ H) :
    let W2 := (((((W.setCell ⟨H, 0, none⟩ a).setCell ⟨H, 1, none⟩ b).setCell ⟨H, 2, none⟩ c).setCell ⟨H, 3, none⟩ d).setCell ⟨H, 4, none⟩ e)
    W2.cell? a1 = some v1 ∧ W2.cell? a2 = some v2 ∧ W2.cell? a3 = some v3 ∧ W2.cell? a4 = some v4 ∧ W2.cell? a5 = some v5 ∧ W2.cell? a6 = some v6 ∧ W2.cell? a7 = some v7 ∧ W2.cell? a8 = some v8 ∧ W2.cell? a9 = some v9 ∧ W2.cell? a10 = some v10 := by
  obtain ⟨h1, h2, h3, h4, h5, h6, h7, h8, h9, h10⟩ := h
  have q := set5 W H a b c d e
  exact ⟨q.cell h1 (by simpa using n1), q.cell h2 (by simpa using n2), q.cell h3 (by simpa using n3), q.cell h4 (by simpa using n4), q.cell h5 (by simpa using n5), q.cell h6 (by simpa using n6), q.cell h7 (by simpa using n7), q.cell h8 (by simpa using n8), q.cell h9 (by simpa using n9), q.cell h10 (by simpa using n10)⟩
/-- A box that holds the number a. -/
def OneB (w1 wx : World) (g7 : Nat) (q1 : Int) (q2 : Option Addr) (q3 q4 : Nat) (a : Nat) : Prop :=
  wx.heap[g7]? = some (.cells #[.int .u64 q1, .slice q2 q3 q4] 39 (0, 0)) ∧ Den wx (.agg #[.int .u64 q1, .slice q2 q3 q4]) a ∧ w1.heap.size ≤ g7 ∧ Below w1.heap.size w1 wx
theorem ob_alloc {w1 w2 : World} {q1 : Int} {q2 : Option Addr} {q3 q4 : Nat} {a : Nat} (bw : Below w1.heap.size w1 w2) (hq : Den w2 (.agg #[.int .u64 q1, .slice q2 q3 q4]) a) :
    OneB w1 (w2.alloc (.cells #[.int .u64 q1, .slice q2 q3 q4] 39)) w2.heap.size q1 q2 q3 q4 a :=
  ⟨heap_alloc_new w2 _, hq.below (alloc_below w2 _), bw.size, bw.then_below (alloc_below w2 _)⟩
theorem ob_set {w1 w2 : World} {q1 : Int} {q2 : Option Addr} {q3 q4 : Nat} {a h : Nat} (bw : Below w1.heap.size w1 w2) (hq : Den w2 (.agg #[.int .u64 q1, .slice q2 q3 q4]) a)
    (AZ : w2.heap[h]? = some (.cells #[.int .u64 0, .slice none 0 0] 39 (0, 0))) (hh : w1.heap.size ≤ h) :
    OneB w1 ((w2.setCell ⟨h, 0, none⟩ (.int .u64 q1)).setCell ⟨h, 1, none⟩ (.slice q2 q3 q4)) h q1 q2 q3 q4 a := by
  have q := box_grown w2 h (.int .u64 q1) (.slice q2 q3 q4)
  exact ⟨box_store AZ _ _, hq.kept q (hq.notin (nopair2 _ _ _ _) AZ), hh, bw.then_grown q (by rintro g ⟨⟩; exact hh)⟩
theorem bare8_keep {W W2 : World} {a1 a2 a3 a4 a5 a6 a7 a8 : Addr} {v1 v2 v3 v4 v5 v6 v7 v8 : Value} (h : W.cell? a1 = some v1 ∧ W.cell? a2 = some v2 ∧ W.cell? a3 = some v3 ∧ W.cell? a4 = some v4 ∧ W.cell? a5 = some v5 ∧ W.cell? a6 = some v6 ∧ W.cell? a7 = some v7 ∧ W.cell? a8 = some v8) (b : Below W.heap.size W W2) :
    W2.cell? a1 = some v1 ∧ W2.cell? a2 = some v2 ∧ W2.cell? a3 = some v3 ∧ W2.cell? a4 = some v4 ∧ W2.cell? a5 = some v5 ∧ W2.cell? a6 = some v6 ∧ W2.cell? a7 = some v7 ∧ W2.cell? a8 = some v8 := by
  obtain ⟨h1, h2, h3, h4, h5, h6, h7, h8⟩ := h
  exact ⟨by rw [b.cell (World.block_lt_of_cell? W _ h1)]; exact h1, by rw [b.cell (World.block_lt_of_cell? W _ h2)]; exact h2, by rw [b.cell (World.block_lt_of_cell? W _ h3)]; exact h3, by rw [b.cell (World.block_lt_of_cell? W _ h4)]; exact h4, by rw [b.cell (World.block_lt_of_cell? W _ h5)]; exact h5, by rw [b.cell (World.block_lt_of_cell? W _ h6)]; exact h6, by rw [b.cell (World.block_lt_of_cell? W _ h7)]; exact h7, by rw [b.cell (World.block_lt_of_cell? W _ h8)]; exact h8⟩
theorem bare8_set5 {W : World} {a1 a2 a3 a4 a5 a6 a7 a8 : Addr} {v1 v2 v3 v4 v5 v6 v7 v8 a b c d e : Value} {H : Nat} (h : W.cell? a1 = some v1 ∧ W.cell? a2 = some v2 ∧ W.cell? a3 = some v3 ∧ W.cell? a4 = some v4 ∧ W.cell? a5 = some v5 ∧ W.cell? a6 = some v6 ∧ W.cell? a7 = some v7 ∧ W.cell? a8 = some v8) (n1 : a1.block ≠ H) (n2 : a2.block ≠ H) (n3 : a3.block ≠ H) (n4 : a4.block ≠ H) (n5 : a5.block ≠ H) (n6 : a6.block ≠ H) (n7 : a7.block ≠ H) (n8 : a8.block ≠ H) :
    let W2 := (((((W.setCell ⟨H, 0, none⟩ a).setCell ⟨H, 1, none⟩ b).setCell ⟨H, 2, none⟩ c).setCell ⟨H, 3, none⟩ d).setCell ⟨H, 4, none⟩ e)
    W2.cell? a1 = some v1 ∧ W2.cell? a2 = some v2 ∧ W2.cell? a3 = some v3 ∧ W2.cell? a4 = some v4 ∧ W2.cell? a5 = some v5 ∧ W2.cell? a6 = some v6 ∧ W2.cell? a7 = some v7 ∧ W2.cell? a8 = some v8 := by
  obtain ⟨h1, h2, h3, h4, h5, h6, h7, h8⟩ := h
  have q := set5 W H a b c d e
  exact ⟨q.cell h1 (by simpa using n1), q.cell h2 (by simpa using n2), q.cell h3 (by simpa using n3), q.cell h4 (by simpa using n4), q.cell h5 (by simpa using n5), q.cell h6 (by simpa using n6), q.cell h7 (by simpa using n7), q.cell h8 (by simpa using n8)⟩
theorem cells6n_keep {w W W2 : World} {a1 a2 a3 a4 a5 a6 : Addr} {v1 v2 v3 v4 v5 v6 : Value} (h : W.cell? a1 = some v1 ∧ W.cell? a2 = some v2 ∧ W.cell? a3 = some v3 ∧ W.cell? a4 = some v4 ∧ W.cell? a5 = some v5 ∧ W.cell? a6 = some v6 ∧ Below w.heap.size w W) (b : Below W.heap.size W W2) :
    W2.cell? a1 = some v1 ∧ W2.cell? a2 = some v2 ∧ W2.cell? a3 = some v3 ∧ W2.cell? a4 = some v4 ∧ W2.cell? a5 = some v5 ∧ W2.cell? a6 = some v6 ∧ Below w.heap.size w W2 := by
  obtain ⟨h1, h2, h3, h4, h5, h6, hb⟩ := h
  exact ⟨by rw [b.cell (World.block_lt_of_cell? W _ h1)]; exact h1, by rw [b.cell (World.block_lt_of_cell? W _ h2)]; exact h2, by rw [b.cell (World.block_lt_of_cell? W _ h3)]; exact h3, by rw [b.cell (World.block_lt_of_cell? W _ h4)]; exact h4, by rw [b.cell (World.block_lt_of_cell? W _ h5)]; exact h5, by rw [b.cell (World.block_lt_of_cell? W _ h6)]; exact h6, hb.then_below b⟩
end Go.Proofs.YtnpdieolahlpoaaGreatDoor
/- ==== RatMul2 ==== -/
namespace Go.Proofs.YtnpdieolahlpoaaGreatDoor
open Go.RowKit
set_option linter.unusedVariables false
set_option maxRecDepth 100000 in
set_option maxHeartbeats 32000000 in
theorem pmul_frac (w : World) (va vb : Value) (s1 s2 : Bool) (n1 d1 n2 d2 K : Nat) (ha : DenR w va s1 n1 d1) (hb : DenR w vb s2 n2 d2) (hd : ¬ (d1 = 0 ∧ d2 = 0)) (k1 : (n1 : Int) < M.BB ^ K) (l1 : ((lowN d1 : Nat) : Int) < M.BB ^ K) (k2 : (n2 : Int) < M.BB ^ K) (l2 : ((lowN d2 : Nat) : Int) < M.BB ^ K) (hK : K ≤ 4398046511104) (hT : Tab w) :
    Calls Tryz.prog 33 #[va, vb] w fun e w' => (∃ r, e = .returned r ∧ Low w' r (s1 != s2) (n1 / Nat.gcd n1 (lowN d2) * (n2 / Nat.gcd n2 (lowN d1))) (lowN d1 / Nat.gcd n2 (lowN d1) * (lowN d2 / Nat.gcd n1 (lowN d2)))) ∧ Below w.heap.size w w' := by
  have ha' := hide ha
  have hb' := hide hb
  obtain ⟨x1, x2, x3, x4, y1, y2, y3, y4, rfl, a1, a2⟩ := ha
  obtain ⟨p1, p2, p3, p4, r1, r2, r3, r4, rfl, b1, b2⟩ := hb
  have z1 : (w.alloc (.cells #[.bool s1, .int .u64 x1, .slice x2 x3 x4, .int .u64 y1, .slice y2 y3 y4] 42)).heap.size = w.heap.size + 1 := by show (w.heap.push _).size = _; simp
  have z2 : ((w.alloc (.cells #[.bool s1, .int .u64 x1, .slice x2 x3 x4, .int .u64 y1, .slice y2 y3 y4] 42)).alloc (.cells #[.bool s2, .int .u64 p1, .slice p2 p3 p4, .int .u64 r1, .slice r2 r3 r4] 42)).heap.size = w.heap.size + 1 + 1 := by show ((w.heap.push _).push _).size = _; simp
  have P0 := kept_block (kept_block (heap_alloc_new w (.cells #[.bool s1, .int .u64 x1, .slice x2 x3 x4, .int .u64 y1, .slice y2 y3 y4] 42)) (alloc_below _ (.cells #[.bool s2, .int .u64 p1, .slice p2 p3 p4, .int .u64 r1, .slice r2 r3 r4] 42))) (alloc_below _ (.cells #[.bool false, .int .u64 0, .slice none 0 0, .int .u64 0, .slice none 0 0] 42))
  have Q0 := kept_block (heap_alloc_new (w.alloc (.cells #[.bool s1, .int .u64 x1, .slice x2 x3 x4, .int .u64 y1, .slice y2 y3 y4] 42)) (.cells #[.bool s2, .int .u64 p1, .slice p2 p3 p4, .int .u64 r1, .slice r2 r3 r4] 42)) (alloc_below _ (.cells #[.bool false, .int .u64 0, .slice none 0 0, .int .u64 0, .slice none 0 0] 42))
  have R0 := heap_alloc_new ((w.alloc (.cells #[.bool s1, .int .u64 x1, .slice x2 x3 x4, .int .u64 y1, .slice y2 y3 y4] 42)).alloc (.cells #[.bool s2, .int .u64 p1, .slice p2 p3 p4, .int .u64 r1, .slice r2 r3 r4] 42)) (.cells #[.bool false, .int .u64 0, .slice none 0 0, .int .u64 0, .slice none 0 0] 42)
  rw [z1] at Q0
  rw [z2] at R0
  have B0 := (alloc2_below w (.cells #[.bool s1, .int .u64 x1, .slice x2 x3 x4, .int .u64 y1, .slice y2 y3 y4] 42) (.cells #[.bool s2, .int .u64 p1, .slice p2 p3 p4, .int .u64 r1, .slice r2 r3 r4] 42)).then_below (alloc_below _ (.cells #[.bool false, .int .u64 0, .slice none 0 0, .int .u64 0, .slice none 0 0] 42))
  clear z1 z2
  obtain ⟨W0, hW0⟩ : ∃ W0, ((w.alloc (.cells #[.bool s1, .int .u64 x1, .slice x2 x3 x4, .int .u64 y1, .slice y2 y3 y4] 42)).alloc (.cells #[.bool s2, .int .u64 p1, .slice p2 p3 p4, .int .u64 r1, .slice r2 r3 r4] 42)).alloc (.cells #[.bool false, .int .u64 0, .slice none 0 0, .int .u64 0, .slice none 0 0] 42) = W0 := ⟨_, rfl⟩
  rw [hW0] at P0 Q0 R0 B0
  have TT := hide hT
  have hg1 : Nat.gcd n1 (lowN d2) ≠ 0 := Nat.ne_of_gt (Nat.gcd_pos_of_pos_right _ (lowN_pos d2))
  have hg2 : Nat.gcd n2 (lowN d1) ≠ 0 := Nat.ne_of_gt (Nat.gcd_pos_of_pos_right _ (lowN_pos d1))
  replace hg1 := hide hg1
  replace hg2 := hide hg2
  clear hT
  replace P0 := hide P0
  replace Q0 := hide Q0
  replace R0 := hide R0
  replace B0 := hide B0
  replace a1 := hide a1
  replace a2 := hide a2
  replace b1 := hide b1
  replace b2 := hide b2
  replace k1 := hide k1
  replace k2 := hide k2
  replace l1 := hide l1
  replace l2 := hide l2
  obtain ⟨⟨i0, i1, i2, i3, i4⟩, -⟩ := ratBox P0.out
  obtain ⟨⟨j0, j1, j2, j3, j4⟩, -⟩ := ratBox Q0.out
  have HD := hide hd
  clear hd
  go_enter Tryz.func33, Tryz.ntmps33
  go_upto_region 2 with fail
  go_cut [21] (fun sx wx => sx = .bool false ∧ Hid (Below W0.heap.size W0 wx))
  case first =>
    by_cases h1 : d1 = 0
    · have h2 : d2 ≠ 0 := fun e => HD.out ⟨h1, e⟩
      have q1 := hide (isWhole_calls W0 _ s1 n1 d1 (ha'.out.below B0.out))
      have q2 := hide (fun W (hW : Below W0.heap.size W0 W) => isWhole_calls W _ s2 n2 d2 ((hb'.out.below B0.out).below hW))
      rw [decide_eq_true h1] at q1
      rw [decide_eq_false h2] at q2
      clear h1 h2
      go_wp2_with (first
        | (go_at_call_of 44 (Value.agg #[.bool s1, .int .u64 x1, .slice x2 x3 x4, .int .u64 y1, .slice y2 y3 y4]); refine q1.out.mono ?_; rintro e wa ⟨rfl, ba⟩; obtain ⟨⟨t0, t1, t2, t3, t4⟩, -⟩ := ratBox (kept_block Q0.out ba); replace ba := hide ba)
        | (go_at_call_of 44 (Value.agg #[.bool s2, .int .u64 p1, .slice p2 p3 p4, .int .u64 r1, .slice r2 r3 r4]); refine (q2.out _ ba.out).mono ?_; rintro e wb ⟨rfl, bb⟩; replace bb := hide (ba.out.then_below bb)))
      go_meet
      exact ⟨rfl, bb⟩
    · have q1 := hide (isWhole_calls W0 _ s1 n1 d1 (ha'.out.below B0.out))
      rw [decide_eq_false h1] at q1
      clear h1
      go_wp2_with (first
        | (go_at_call_of 44 (Value.agg #[.bool s1, .int .u64 x1, .slice x2 x3 x4, .int .u64 y1, .slice y2 y3 y4]); refine q1.out.mono ?_; rintro e wa ⟨rfl, ba⟩; replace ba := hide ba))
      go_meet
      exact ⟨rfl, ba⟩
  case rest =>
  obtain ⟨rfl, B1⟩ := hcut
  rename World => W1
  clear i0 i1 i2 i3 i4 j0 j1 j2 j3 j4 hW0 HD
  have BW := hide (B0.out.then_below B1.out)
  have P1 := hide (kept_block P0.out B1.out)
  have Q1 := hide (kept_block Q0.out B1.out)
  have R1 := hide (kept_block R0.out B1.out)
  have HA := hide (ha'.out.below BW.out)
  have HB := hide (hb'.out.below BW.out)
  have A1 := hide (a1.out.below BW.out)
  have N1 := hide (b1.out.below BW.out)
  have T1 := hide (TT.out.below BW.out)
  clear P0 Q0 R0 B0 B1 ha' hb' a1 a2 b1 b2 TT
  go_upto_region 4 with fail
  obtain ⟨⟨i0, i1, i2, i3, i4⟩, -⟩ := ratBox P1.out
  obtain ⟨⟨j0, j1, j2, j3, j4⟩, -⟩ := ratBox Q1.out
  have S0 := hide (And.intro i0 (And.intro i1 (And.intro i2 (And.intro i3 (And.intro i4 (And.intro j0 (And.intro j1 (And.intro j2 (And.intro j3 (And.intro j4 (Below.refl W1.heap.size W1)))))))))))
  clear i0 i1 i2 i3 i4 j0 j1 j2 j3 j4
  go_cut [6, 7] (fun sx sy wx => ∃ (gx gy : Nat) (q1 : Int) (q2 : Option Addr) (q3 q4 : Nat) (r1 : Int) (r2 : Option Addr) (r3 r4 : Nat), sx = .pointer (some ⟨gx, 0, none⟩) ∧ sy = .pointer (some ⟨gy, 0, none⟩) ∧ Hid (TwoB W1 wx gx gy q1 q2 q3 q4 r1 r2 r3 r4 (lowN d1) (lowN d2)))
  case first =>
    go_region_held3
      (fun w' => w'.cell? ⟨w.heap.size, 0, none⟩ = some (.bool s1) ∧ w'.cell? ⟨w.heap.size, 1, none⟩ = some (.int .u64 x1) ∧ w'.cell? ⟨w.heap.size, 2, none⟩ = some (.slice x2 x3 x4) ∧ w'.cell? ⟨w.heap.size, 3, none⟩ = some (.int .u64 y1) ∧ w'.cell? ⟨w.heap.size, 4, none⟩ = some (.slice y2 y3 y4) ∧ w'.cell? ⟨w.heap.size + 1, 0, none⟩ = some (.bool s2) ∧ w'.cell? ⟨w.heap.size + 1, 1, none⟩ = some (.int .u64 p1) ∧ w'.cell? ⟨w.heap.size + 1, 2, none⟩ = some (.slice p2 p3 p4) ∧ w'.cell? ⟨w.heap.size + 1, 3, none⟩ = some (.int .u64 r1) ∧ w'.cell? ⟨w.heap.size + 1, 4, none⟩ = some (.slice r2 r3 r4) ∧ Below W1.heap.size W1 w')
      ((refine cells10_keep (w := W1) S0.out ?_; repeat (first | with_reducible exact Below.refl _ _ | with_reducible refine Below.drew ?_ | with_reducible refine Below.then_below ?_ (alloc_below _ _) | with_reducible refine Below.then_below ?_ ba | with_reducible refine Below.then_below ?_ bb | (with_reducible refine Below.then_grown ?_ (box_grown _ _ _ _) (by rintro g ⟨⟩; first | exact Nat.le_refl _ | omega)))))
      (first
        | (go_at_call_of 48 (Value.agg #[.bool s1, .int .u64 x1, .slice x2 x3 x4, .int .u64 y1, .slice y2 y3 y4]); refine (lower_low _ _ s1 n1 d1 (HA.out.below (by repeat (first | with_reducible exact Below.refl _ _ | with_reducible refine Below.drew ?_ | with_reducible refine Below.then_below ?_ (alloc_below _ _))))).mono ?_; rintro e wa ⟨⟨ra, rfl, da⟩, ba⟩; obtain ⟨u1, u2, u3, u4, rfl⟩ := da.shape2; have Ba : Below W1.heap.size W1 wa := (by repeat (first | with_reducible exact Below.refl _ _ | with_reducible refine Below.drew ?_ | with_reducible refine Below.then_below ?_ (alloc_below _ _) | with_reducible refine Below.then_below ?_ ba)); have sa : W1.heap.size ≤ wa.heap.size := Ba.size; (first | (have AZa0 : wa.heap[W1.heap.size]? = some (.cells #[.int .u64 0, .slice none 0 0] 39 (0, 0)) := kept_block (by first | exact heap_alloc_new W1 (.cells #[.int .u64 0, .slice none 0 0] 39) | exact (two_new W1 (.cells #[.int .u64 0, .slice none 0 0] 39) (.cells #[.int .u64 0, .slice none 0 0] 39)).1) ba; have lz0 : W1.heap.size < wa.heap.size := (Array.getElem?_eq_some_iff.1 AZa0).1) | skip); (first | (have AZa1 : wa.heap[W1.heap.size + 1]? = some (.cells #[.int .u64 0, .slice none 0 0] 39 (0, 0)) := kept_block (by exact (two_new W1 (.cells #[.int .u64 0, .slice none 0 0] 39) (.cells #[.int .u64 0, .slice none 0 0] 39)).2.1) ba; have lz1 : W1.heap.size + 1 < wa.heap.size := (Array.getElem?_eq_some_iff.1 AZa1).1) | skip))
        | (go_at_call_of 48 (Value.agg #[.bool s2, .int .u64 p1, .slice p2 p3 p4, .int .u64 r1, .slice r2 r3 r4]); refine (lower_low _ _ s2 n2 d2 (HB.out.below (by repeat (first | with_reducible exact Below.refl _ _ | with_reducible refine Below.drew ?_ | with_reducible refine Below.then_below ?_ (alloc_below _ _) | with_reducible refine Below.then_below ?_ ba)))).mono ?_; rintro e wb ⟨⟨rb, rfl, db⟩, bb⟩; obtain ⟨v1, v2, v3, v4, rfl⟩ := db.shape2; have BAB : Below wa.heap.size wa wb := (by repeat (first | with_reducible exact Below.refl _ _ | with_reducible refine Below.drew ?_ | with_reducible refine Below.then_below ?_ (alloc_below _ _) | with_reducible refine Below.then_below ?_ bb)); have bw : Below W1.heap.size W1 wb := Ba.then_below BAB; have dq := da.below BAB; have sb : wa.heap.size ≤ wb.heap.size := BAB.size; (first | (have AZ0 : wb.heap[W1.heap.size]? = some (.cells #[.int .u64 0, .slice none 0 0] 39 (0, 0)) := kept_block AZa0 BAB; obtain ⟨ta0, ta1, taf0, taf1⟩ := box_facts AZ0; have lAZ0 : W1.heap.size < wb.heap.size := (Array.getElem?_eq_some_iff.1 AZ0).1; have nAZ0 : W1.heap.size ≠ wb.heap.size := Nat.ne_of_lt lAZ0; have mAZ0 : wb.heap.size ≠ W1.heap.size := Nat.ne_of_gt lAZ0) | skip); (first | (have AZ1 : wb.heap[W1.heap.size + 1]? = some (.cells #[.int .u64 0, .slice none 0 0] 39 (0, 0)) := kept_block AZa1 BAB; obtain ⟨tb0, tb1, tbf0, tbf1⟩ := box_facts AZ1; have lAZ1 : W1.heap.size + 1 < wb.heap.size := (Array.getElem?_eq_some_iff.1 AZ1).1; have nAZ1 : W1.heap.size + 1 ≠ wb.heap.size := Nat.ne_of_lt lAZ1; have mAZ1 : wb.heap.size ≠ W1.heap.size + 1 := Nat.ne_of_gt lAZ1) | skip); (first | (have AY0 : wb.heap[wa.heap.size]? = some (.cells #[.int .u64 0, .slice none 0 0] 39 (0, 0)) := kept_block (by first | exact heap_alloc_new wa (.cells #[.int .u64 0, .slice none 0 0] 39) | exact (two_new wa (.cells #[.int .u64 0, .slice none 0 0] 39) (.cells #[.int .u64 0, .slice none 0 0] 39)).1) bb; obtain ⟨tc0, tc1, tcf0, tcf1⟩ := box_facts AY0; have lAY0 : wa.heap.size < wb.heap.size := (Array.getElem?_eq_some_iff.1 AY0).1; have nAY0 : wa.heap.size ≠ wb.heap.size := Nat.ne_of_lt lAY0; have mAY0 : wb.heap.size ≠ wa.heap.size := Nat.ne_of_gt lAY0) | skip); (first | (have AY1 : wb.heap[wa.heap.size + 1]? = some (.cells #[.int .u64 0, .slice none 0 0] 39 (0, 0)) := kept_block (by exact (two_new wa (.cells #[.int .u64 0, .slice none 0 0] 39) (.cells #[.int .u64 0, .slice none 0 0] 39)).2.1) bb; obtain ⟨td0, td1, tdf0, tdf1⟩ := box_facts AY1; have lAY1 : wa.heap.size + 1 < wb.heap.size := (Array.getElem?_eq_some_iff.1 AY1).1; have nAY1 : wa.heap.size + 1 ≠ wb.heap.size := Nat.ne_of_lt lAY1; have mAY1 : wb.heap.size ≠ wa.heap.size + 1 := Nat.ne_of_gt lAY1) | skip); (first | (have nl : W1.heap.size ≠ wa.heap.size := Nat.ne_of_lt lz0; have ml : wa.heap.size ≠ W1.heap.size := Nat.ne_of_gt lz0) | skip)))
    all_goals (go_wp2_with fail; go_meet)
    all_goals first
      | with_reducible exact ⟨_, _, u1, u2, u3, u4, v1, v2, v3, v4, rfl, rfl, hide (tb_alloc bw dq db)⟩
      | with_reducible exact ⟨_, _, u1, u2, u3, u4, v1, v2, v3, v4, rfl, rfl, hide ((tb_alloc bw db dq).swap)⟩
      | with_reducible exact ⟨_, _, u1, u2, u3, u4, v1, v2, v3, v4, rfl, rfl, hide (tb_set_alloc bw dq db AZ0 (by omega))⟩
      | with_reducible exact ⟨_, _, u1, u2, u3, u4, v1, v2, v3, v4, rfl, rfl, hide ((tb_set_alloc bw db dq AZ0 (by omega)).swap)⟩
      | with_reducible exact ⟨_, _, u1, u2, u3, u4, v1, v2, v3, v4, rfl, rfl, hide (tb_set_alloc bw dq db AY0 (by omega))⟩
      | with_reducible exact ⟨_, _, u1, u2, u3, u4, v1, v2, v3, v4, rfl, rfl, hide ((tb_set_alloc bw db dq AY0 (by omega)).swap)⟩
      | with_reducible exact ⟨_, _, u1, u2, u3, u4, v1, v2, v3, v4, rfl, rfl, hide (tb_set_set bw dq db AZ0 AZ1 (by omega) (by omega) (by omega))⟩
      | with_reducible exact ⟨_, _, u1, u2, u3, u4, v1, v2, v3, v4, rfl, rfl, hide ((tb_set_set bw db dq AZ1 AZ0 (by omega) (by omega) (by omega)).swap)⟩
      | with_reducible exact ⟨_, _, u1, u2, u3, u4, v1, v2, v3, v4, rfl, rfl, hide (tb_set_set bw dq db AZ1 AZ0 (by omega) (by omega) (by omega))⟩
      | with_reducible exact ⟨_, _, u1, u2, u3, u4, v1, v2, v3, v4, rfl, rfl, hide ((tb_set_set bw db dq AZ0 AZ1 (by omega) (by omega) (by omega)).swap)⟩
      | with_reducible exact ⟨_, _, u1, u2, u3, u4, v1, v2, v3, v4, rfl, rfl, hide (tb_set_set bw dq db AZ0 AY0 (by omega) (by omega) (by omega))⟩
      | with_reducible exact ⟨_, _, u1, u2, u3, u4, v1, v2, v3, v4, rfl, rfl, hide ((tb_set_set bw db dq AY0 AZ0 (by omega) (by omega) (by omega)).swap)⟩
      | with_reducible exact ⟨_, _, u1, u2, u3, u4, v1, v2, v3, v4, rfl, rfl, hide (tb_set_set bw dq db AY0 AZ0 (by omega) (by omega) (by omega))⟩
      | with_reducible exact ⟨_, _, u1, u2, u3, u4, v1, v2, v3, v4, rfl, rfl, hide ((tb_set_set bw db dq AZ0 AY0 (by omega) (by omega) (by omega)).swap)⟩
      | with_reducible exact ⟨_, _, u1, u2, u3, u4, v1, v2, v3, v4, rfl, rfl, hide (tb_set_set bw dq db AY0 AY1 (by omega) (by omega) (by omega))⟩
      | with_reducible exact ⟨_, _, u1, u2, u3, u4, v1, v2, v3, v4, rfl, rfl, hide ((tb_set_set bw db dq AY1 AY0 (by omega) (by omega) (by omega)).swap)⟩
      | with_reducible exact ⟨_, _, u1, u2, u3, u4, v1, v2, v3, v4, rfl, rfl, hide (tb_set_set bw dq db AY1 AY0 (by omega) (by omega) (by omega))⟩
      | with_reducible exact ⟨_, _, u1, u2, u3, u4, v1, v2, v3, v4, rfl, rfl, hide ((tb_set_set bw db dq AY0 AY1 (by omega) (by omega) (by omega)).swap)⟩
  case rest =>
  obtain ⟨g6, g7, u1, u2, u3, u4, v1, v2, v3, v4, rfl, rfl, T⟩ := hcut
  obtain ⟨p6, p7, hu, hv, h6, h7, B2⟩ := T.out
  have lr : w.heap.size + 1 + 1 < W1.heap.size := (Array.getElem?_eq_some_iff.1 R1.out).1
  have n6 : g6 ≠ w.heap.size + 1 + 1 := by omega
  have n7 : g7 ≠ w.heap.size + 1 + 1 := by omega
  replace n6 := hide n6
  replace n7 := hide n7
  clear lr
  clear T S0 HA HB
  rename World => W2
  replace B2 := hide B2
  replace p6 := hide p6
  replace p7 := hide p7
  have U := hide hu
  have V := hide hv
  clear hu hv
  replace BW := hide (BW.out.then_below B2.out)
  replace P1 := hide (kept_block P1.out B2.out)
  replace Q1 := hide (kept_block Q1.out B2.out)
  replace R1 := hide (kept_block R1.out B2.out)
  replace A1 := hide (A1.out.below B2.out)
  replace N1 := hide (N1.out.below B2.out)
  replace T1 := hide (T1.out.below B2.out)
  clear h6 h7 B2
  go_upto_region 5 with fail
  obtain ⟨⟨i0, i1, i2, i3, i4⟩, -⟩ := ratBox P1.out
  obtain ⟨⟨j0, j1, j2, j3, j4⟩, -⟩ := ratBox Q1.out
  obtain ⟨e0, e1, -, -⟩ := box_facts p6.out
  obtain ⟨f0, f1, -, -⟩ := box_facts p7.out
  have S0 := hide (And.intro i1 (And.intro i2 (And.intro j1 (And.intro j2 (And.intro e0 (And.intro e1 (And.intro f0 (And.intro f1 (Below.refl W2.heap.size W2)))))))))
  clear i0 i1 i2 i3 i4 j0 j1 j2 j3 j4 e0 e1 f0 f1
  go_cut [8, 9] (fun sx sy wx => ∃ (gx gy : Nat) (q1 : Int) (q2 : Option Addr) (q3 q4 : Nat) (r1 : Int) (r2 : Option Addr) (r3 r4 : Nat), sx = .pointer (some ⟨gx, 0, none⟩) ∧ sy = .pointer (some ⟨gy, 0, none⟩) ∧ Hid (TwoB W2 wx gx gy q1 q2 q3 q4 r1 r2 r3 r4 (Nat.gcd n1 (lowN d2)) (Nat.gcd n2 (lowN d1))))
  case first =>
    go_region_held3
      (fun w' => w'.cell? ⟨w.heap.size, 1, none⟩ = some (.int .u64 x1) ∧ w'.cell? ⟨w.heap.size, 2, none⟩ = some (.slice x2 x3 x4) ∧ w'.cell? ⟨w.heap.size + 1, 1, none⟩ = some (.int .u64 p1) ∧ w'.cell? ⟨w.heap.size + 1, 2, none⟩ = some (.slice p2 p3 p4) ∧ w'.cell? ⟨g6, 0, none⟩ = some (.int .u64 u1) ∧ w'.cell? ⟨g6, 1, none⟩ = some (.slice u2 u3 u4) ∧ w'.cell? ⟨g7, 0, none⟩ = some (.int .u64 v1) ∧ w'.cell? ⟨g7, 1, none⟩ = some (.slice v2 v3 v4) ∧ Below W2.heap.size W2 w')
      ((refine cells8_keep (w := W2) S0.out ?_; repeat (first | with_reducible exact Below.refl _ _ | with_reducible refine Below.drew ?_ | with_reducible refine Below.then_below ?_ (alloc_below _ _) | with_reducible refine Below.then_below ?_ ba | with_reducible refine Below.then_below ?_ bb | (with_reducible refine Below.then_grown ?_ (box_grown _ _ _ _) (by rintro g ⟨⟩; first | exact Nat.le_refl _ | omega)))))
      (first
        | (go_at_call_of 40 (Value.agg #[.int .u64 x1, .slice x2 x3 x4]); refine (natGcd_calls _ _ _ n1 (lowN d2) K (A1.out.below (by repeat (first | with_reducible exact Below.refl _ _ | with_reducible refine Below.drew ?_ | with_reducible refine Below.then_below ?_ (alloc_below _ _)))) (V.out.below (by repeat (first | with_reducible exact Below.refl _ _ | with_reducible refine Below.drew ?_ | with_reducible refine Below.then_below ?_ (alloc_below _ _)))) k1.out l2.out hK (T1.out.below (by repeat (first | with_reducible exact Below.refl _ _ | with_reducible refine Below.drew ?_ | with_reducible refine Below.then_below ?_ (alloc_below _ _))))).mono ?_; rintro e wa ⟨⟨ra, rfl, da⟩, ba⟩; obtain ⟨e1, e2, e3, e4, rfl⟩ := da.shape2; have Ba : Below W2.heap.size W2 wa := (by repeat (first | with_reducible exact Below.refl _ _ | with_reducible refine Below.drew ?_ | with_reducible refine Below.then_below ?_ (alloc_below _ _) | with_reducible refine Below.then_below ?_ ba)); have sa : W2.heap.size ≤ wa.heap.size := Ba.size; (first | (have AZa0 : wa.heap[W2.heap.size]? = some (.cells #[.int .u64 0, .slice none 0 0] 39 (0, 0)) := kept_block (by first | exact heap_alloc_new W2 (.cells #[.int .u64 0, .slice none 0 0] 39) | exact (two_new W2 (.cells #[.int .u64 0, .slice none 0 0] 39) (.cells #[.int .u64 0, .slice none 0 0] 39)).1) ba; have lz0 : W2.heap.size < wa.heap.size := (Array.getElem?_eq_some_iff.1 AZa0).1) | skip); (first | (have AZa1 : wa.heap[W2.heap.size + 1]? = some (.cells #[.int .u64 0, .slice none 0 0] 39 (0, 0)) := kept_block (by exact (two_new W2 (.cells #[.int .u64 0, .slice none 0 0] 39) (.cells #[.int .u64 0, .slice none 0 0] 39)).2.1) ba; have lz1 : W2.heap.size + 1 < wa.heap.size := (Array.getElem?_eq_some_iff.1 AZa1).1) | skip))
        | (go_at_call_of 40 (Value.agg #[.int .u64 p1, .slice p2 p3 p4]); refine (natGcd_calls _ _ _ n2 (lowN d1) K (N1.out.below (by repeat (first | with_reducible exact Below.refl _ _ | with_reducible refine Below.drew ?_ | with_reducible refine Below.then_below ?_ (alloc_below _ _) | with_reducible refine Below.then_below ?_ ba))) (U.out.below (by repeat (first | with_reducible exact Below.refl _ _ | with_reducible refine Below.drew ?_ | with_reducible refine Below.then_below ?_ (alloc_below _ _) | with_reducible refine Below.then_below ?_ ba))) k2.out l1.out hK (T1.out.below (by repeat (first | with_reducible exact Below.refl _ _ | with_reducible refine Below.drew ?_ | with_reducible refine Below.then_below ?_ (alloc_below _ _) | with_reducible refine Below.then_below ?_ ba)))).mono ?_; rintro e wb ⟨⟨rb, rfl, db⟩, bb⟩; obtain ⟨f1, f2, f3, f4, rfl⟩ := db.shape2; have BAB : Below wa.heap.size wa wb := (by repeat (first | with_reducible exact Below.refl _ _ | with_reducible refine Below.drew ?_ | with_reducible refine Below.then_below ?_ (alloc_below _ _) | with_reducible refine Below.then_below ?_ bb)); have bw : Below W2.heap.size W2 wb := Ba.then_below BAB; have dq := da.below BAB; have sb : wa.heap.size ≤ wb.heap.size := BAB.size; (first | (have AZ0 : wb.heap[W2.heap.size]? = some (.cells #[.int .u64 0, .slice none 0 0] 39 (0, 0)) := kept_block AZa0 BAB; obtain ⟨ta0, ta1, taf0, taf1⟩ := box_facts AZ0; have lAZ0 : W2.heap.size < wb.heap.size := (Array.getElem?_eq_some_iff.1 AZ0).1; have nAZ0 : W2.heap.size ≠ wb.heap.size := Nat.ne_of_lt lAZ0; have mAZ0 : wb.heap.size ≠ W2.heap.size := Nat.ne_of_gt lAZ0) | skip); (first | (have AZ1 : wb.heap[W2.heap.size + 1]? = some (.cells #[.int .u64 0, .slice none 0 0] 39 (0, 0)) := kept_block AZa1 BAB; obtain ⟨tb0, tb1, tbf0, tbf1⟩ := box_facts AZ1; have lAZ1 : W2.heap.size + 1 < wb.heap.size := (Array.getElem?_eq_some_iff.1 AZ1).1; have nAZ1 : W2.heap.size + 1 ≠ wb.heap.size := Nat.ne_of_lt lAZ1; have mAZ1 : wb.heap.size ≠ W2.heap.size + 1 := Nat.ne_of_gt lAZ1) | skip); (first | (have AY0 : wb.heap[wa.heap.size]? = some (.cells #[.int .u64 0, .slice none 0 0] 39 (0, 0)) := kept_block (by first | exact heap_alloc_new wa (.cells #[.int .u64 0, .slice none 0 0] 39) | exact (two_new wa (.cells #[.int .u64 0, .slice none 0 0] 39) (.cells #[.int .u64 0, .slice none 0 0] 39)).1) bb; obtain ⟨tc0, tc1, tcf0, tcf1⟩ := box_facts AY0; have lAY0 : wa.heap.size < wb.heap.size := (Array.getElem?_eq_some_iff.1 AY0).1; have nAY0 : wa.heap.size ≠ wb.heap.size := Nat.ne_of_lt lAY0; have mAY0 : wb.heap.size ≠ wa.heap.size := Nat.ne_of_gt lAY0) | skip); (first | (have AY1 : wb.heap[wa.heap.size + 1]? = some (.cells #[.int .u64 0, .slice none 0 0] 39 (0, 0)) := kept_block (by exact (two_new wa (.cells #[.int .u64 0, .slice none 0 0] 39) (.cells #[.int .u64 0, .slice none 0 0] 39)).2.1) bb; obtain ⟨td0, td1, tdf0, tdf1⟩ := box_facts AY1; have lAY1 : wa.heap.size + 1 < wb.heap.size := (Array.getElem?_eq_some_iff.1 AY1).1; have nAY1 : wa.heap.size + 1 ≠ wb.heap.size := Nat.ne_of_lt lAY1; have mAY1 : wb.heap.size ≠ wa.heap.size + 1 := Nat.ne_of_gt lAY1) | skip); (first | (have nl : W2.heap.size ≠ wa.heap.size := Nat.ne_of_lt lz0; have ml : wa.heap.size ≠ W2.heap.size := Nat.ne_of_gt lz0) | skip)))
    all_goals (go_wp2_with fail; go_meet)
    all_goals first
      | with_reducible exact ⟨_, _, e1, e2, e3, e4, f1, f2, f3, f4, rfl, rfl, hide (tb_alloc bw dq db)⟩
      | with_reducible exact ⟨_, _, e1, e2, e3, e4, f1, f2, f3, f4, rfl, rfl, hide ((tb_alloc bw db dq).swap)⟩
      | with_reducible exact ⟨_, _, e1, e2, e3, e4, f1, f2, f3, f4, rfl, rfl, hide (tb_set_alloc bw dq db AZ0 (by omega))⟩
      | with_reducible exact ⟨_, _, e1, e2, e3, e4, f1, f2, f3, f4, rfl, rfl, hide ((tb_set_alloc bw db dq AZ0 (by omega)).swap)⟩
      | with_reducible exact ⟨_, _, e1, e2, e3, e4, f1, f2, f3, f4, rfl, rfl, hide (tb_set_alloc bw dq db AY0 (by omega))⟩
      | with_reducible exact ⟨_, _, e1, e2, e3, e4, f1, f2, f3, f4, rfl, rfl, hide ((tb_set_alloc bw db dq AY0 (by omega)).swap)⟩
      | with_reducible exact ⟨_, _, e1, e2, e3, e4, f1, f2, f3, f4, rfl, rfl, hide (tb_set_set bw dq db AZ0 AZ1 (by omega) (by omega) (by omega))⟩
      | with_reducible exact ⟨_, _, e1, e2, e3, e4, f1, f2, f3, f4, rfl, rfl, hide ((tb_set_set bw db dq AZ1 AZ0 (by omega) (by omega) (by omega)).swap)⟩
      | with_reducible exact ⟨_, _, e1, e2, e3, e4, f1, f2, f3, f4, rfl, rfl, hide (tb_set_set bw dq db AZ1 AZ0 (by omega) (by omega) (by omega))⟩
      | with_reducible exact ⟨_, _, e1, e2, e3, e4, f1, f2, f3, f4, rfl, rfl, hide ((tb_set_set bw db dq AZ0 AZ1 (by omega) (by omega) (by omega)).swap)⟩
      | with_reducible exact ⟨_, _, e1, e2, e3, e4, f1, f2, f3, f4, rfl, rfl, hide (tb_set_set bw dq db AZ0 AY0 (by omega) (by omega) (by omega))⟩
      | with_reducible exact ⟨_, _, e1, e2, e3, e4, f1, f2, f3, f4, rfl, rfl, hide ((tb_set_set bw db dq AY0 AZ0 (by omega) (by omega) (by omega)).swap)⟩
      | with_reducible exact ⟨_, _, e1, e2, e3, e4, f1, f2, f3, f4, rfl, rfl, hide (tb_set_set bw dq db AY0 AZ0 (by omega) (by omega) (by omega))⟩
      | with_reducible exact ⟨_, _, e1, e2, e3, e4, f1, f2, f3, f4, rfl, rfl, hide ((tb_set_set bw db dq AZ0 AY0 (by omega) (by omega) (by omega)).swap)⟩
      | with_reducible exact ⟨_, _, e1, e2, e3, e4, f1, f2, f3, f4, rfl, rfl, hide (tb_set_set bw dq db AY0 AY1 (by omega) (by omega) (by omega))⟩
      | with_reducible exact ⟨_, _, e1, e2, e3, e4, f1, f2, f3, f4, rfl, rfl, hide ((tb_set_set bw db dq AY1 AY0 (by omega) (by omega) (by omega)).swap)⟩
      | with_reducible exact ⟨_, _, e1, e2, e3, e4, f1, f2, f3, f4, rfl, rfl, hide (tb_set_set bw dq db AY1 AY0 (by omega) (by omega) (by omega))⟩
      | with_reducible exact ⟨_, _, e1, e2, e3, e4, f1, f2, f3, f4, rfl, rfl, hide ((tb_set_set bw db dq AY0 AY1 (by omega) (by omega) (by omega)).swap)⟩
  case rest =>
  obtain ⟨g8, g9, e1, e2, e3, e4, f1, f2, f3, f4, rfl, rfl, T⟩ := hcut
  obtain ⟨p8, p9, he, hf, h8, h9, B2⟩ := T.out
  have lr : w.heap.size + 1 + 1 < W2.heap.size := (Array.getElem?_eq_some_iff.1 R1.out).1
  have n8 : g8 ≠ w.heap.size + 1 + 1 := by omega
  have n9 : g9 ≠ w.heap.size + 1 + 1 := by omega
  replace n8 := hide n8
  replace n9 := hide n9
  clear lr
  clear T S0
  rename World => W3
  replace B2 := hide B2
  replace p8 := hide p8
  replace p9 := hide p9
  have E := hide he
  have F := hide hf
  clear he hf
  replace BW := hide (BW.out.then_below B2.out)
  replace P1 := hide (kept_block P1.out B2.out)
  replace Q1 := hide (kept_block Q1.out B2.out)
  replace R1 := hide (kept_block R1.out B2.out)
  replace p6 := hide (kept_block p6.out B2.out)
  replace p7 := hide (kept_block p7.out B2.out)
  replace A1 := hide (A1.out.below B2.out)
  replace N1 := hide (N1.out.below B2.out)
  replace T1 := hide (T1.out.below B2.out)
  replace U := hide (U.out.below B2.out)
  replace V := hide (V.out.below B2.out)
  clear h8 h9 B2
  go_upto_region 6 with fail
  obtain ⟨⟨i0, i1, i2, i3, i4⟩, -⟩ := ratBox P1.out
  obtain ⟨⟨j0, j1, j2, j3, j4⟩, -⟩ := ratBox Q1.out
  obtain ⟨c0, c1, -, -⟩ := box_facts p8.out
  obtain ⟨c2, c3, -, -⟩ := box_facts p9.out
  have S0 := hide (And.intro i1 (And.intro i2 (And.intro j1 (And.intro j2 (And.intro c0 (And.intro c1 (And.intro c2 (And.intro c3 (Below.refl W3.heap.size W3)))))))))
  clear i0 i1 i2 i3 i4 j0 j1 j2 j3 j4 c0 c1 c2 c3
  go_cut [10] (fun sx wx => ∃ (gx : Nat) (q1 : Int) (q2 : Option Addr) (q3 q4 : Nat), sx = .pointer (some ⟨gx, 0, none⟩) ∧ Hid (OneB W3 wx gx q1 q2 q3 q4 (n1 / Nat.gcd n1 (lowN d2) * (n2 / Nat.gcd n2 (lowN d1)))))
  case first =>
    go_region_held3
      (fun w' => w'.cell? ⟨w.heap.size, 1, none⟩ = some (.int .u64 x1) ∧ w'.cell? ⟨w.heap.size, 2, none⟩ = some (.slice x2 x3 x4) ∧ w'.cell? ⟨w.heap.size + 1, 1, none⟩ = some (.int .u64 p1) ∧ w'.cell? ⟨w.heap.size + 1, 2, none⟩ = some (.slice p2 p3 p4) ∧ w'.cell? ⟨g8, 0, none⟩ = some (.int .u64 e1) ∧ w'.cell? ⟨g8, 1, none⟩ = some (.slice e2 e3 e4) ∧ w'.cell? ⟨g9, 0, none⟩ = some (.int .u64 f1) ∧ w'.cell? ⟨g9, 1, none⟩ = some (.slice f2 f3 f4) ∧ Below W3.heap.size W3 w')
      ((refine cells8_keep (w := W3) S0.out ?_; repeat (first | with_reducible exact Below.refl _ _ | with_reducible refine Below.drew ?_ | with_reducible refine Below.then_below ?_ (alloc_below _ _) | with_reducible refine Below.then_below ?_ b1 | with_reducible refine Below.then_below ?_ b2 | with_reducible refine Below.then_below ?_ b3 | (with_reducible refine Below.then_grown ?_ (box_grown _ _ _ _) (by rintro g ⟨⟩; first | exact Nat.le_refl _ | omega)))))
      (first
        | (go_at_call_of 42 (Value.agg #[.int .u64 x1, .slice x2 x3 x4]); refine (over_calls _ _ _ n1 (Nat.gcd n1 (lowN d2)) K (A1.out.below (by repeat (first | with_reducible exact Below.refl _ _ | with_reducible refine Below.drew ?_ | with_reducible refine Below.then_below ?_ (alloc_below _ _)))) (E.out.below (by repeat (first | with_reducible exact Below.refl _ _ | with_reducible refine Below.drew ?_ | with_reducible refine Below.then_below ?_ (alloc_below _ _)))) k1.out hg1.out hK).mono ?_; rintro e w1 ⟨⟨ra, rfl, da⟩, b1⟩; have B1 : Below W3.heap.size W3 w1 := (by repeat (first | with_reducible exact Below.refl _ _ | with_reducible refine Below.drew ?_ | with_reducible refine Below.then_below ?_ (alloc_below _ _) | with_reducible refine Below.then_below ?_ b1)); have sz1 : W3.heap.size ≤ w1.heap.size := B1.size; (first | (have AZ : w1.heap[W3.heap.size]? = some (.cells #[.int .u64 0, .slice none 0 0] 39 (0, 0)) := kept_block (by exact heap_alloc_new W3 (.cells #[.int .u64 0, .slice none 0 0] 39)) b1; have lz : W3.heap.size < w1.heap.size := (Array.getElem?_eq_some_iff.1 AZ).1) | (replace AZ := kept_block AZ B1) | skip))
        | (go_at_call_of 42 (Value.agg #[.int .u64 p1, .slice p2 p3 p4]); refine (over_calls _ _ _ n2 (Nat.gcd n2 (lowN d1)) K (N1.out.below (by repeat (first | with_reducible exact Below.refl _ _ | with_reducible refine Below.drew ?_ | with_reducible refine Below.then_below ?_ (alloc_below _ _) | with_reducible refine Below.then_below ?_ b1))) (F.out.below (by repeat (first | with_reducible exact Below.refl _ _ | with_reducible refine Below.drew ?_ | with_reducible refine Below.then_below ?_ (alloc_below _ _) | with_reducible refine Below.then_below ?_ b1))) k2.out hg2.out hK).mono ?_; rintro e w2 ⟨⟨rb, rfl, db⟩, b2⟩; have B2 : Below w1.heap.size w1 w2 := (by repeat (first | with_reducible exact Below.refl _ _ | with_reducible refine Below.drew ?_ | with_reducible refine Below.then_below ?_ (alloc_below _ _) | with_reducible refine Below.then_below ?_ b2)); have sz2 : w1.heap.size ≤ w2.heap.size := B2.size; replace da := da.below B2; (first | (have AZ : w2.heap[w1.heap.size]? = some (.cells #[.int .u64 0, .slice none 0 0] 39 (0, 0)) := kept_block (by exact heap_alloc_new w1 (.cells #[.int .u64 0, .slice none 0 0] 39)) b2; have lz : w1.heap.size < w2.heap.size := (Array.getElem?_eq_some_iff.1 AZ).1) | (replace AZ := kept_block AZ B2) | skip))
        | (go_at_call 49; refine (natMul_calls _ _ _ (n1 / Nat.gcd n1 (lowN d2)) (n2 / Nat.gcd n2 (lowN d1)) K (da.below (by repeat (first | with_reducible exact Below.refl _ _ | with_reducible refine Below.drew ?_ | with_reducible refine Below.then_below ?_ (alloc_below _ _)))) (db.below (by repeat (first | with_reducible exact Below.refl _ _ | with_reducible refine Below.drew ?_ | with_reducible refine Below.then_below ?_ (alloc_below _ _)))) (div_BB k1.out) (div_BB k2.out) hK).mono ?_; rintro e w3 ⟨⟨rc, rfl, dq⟩, b3⟩; have B3 : Below w2.heap.size w2 w3 := (by repeat (first | with_reducible exact Below.refl _ _ | with_reducible refine Below.drew ?_ | with_reducible refine Below.then_below ?_ (alloc_below _ _) | with_reducible refine Below.then_below ?_ b3)); have sz3 : w2.heap.size ≤ w3.heap.size := B3.size; obtain ⟨m1, m2, m3, m4, rfl⟩ := dq.shape2; (first | (have AZ : w3.heap[w2.heap.size]? = some (.cells #[.int .u64 0, .slice none 0 0] 39 (0, 0)) := kept_block (by exact heap_alloc_new w2 (.cells #[.int .u64 0, .slice none 0 0] 39)) b3; have lz : w2.heap.size < w3.heap.size := (Array.getElem?_eq_some_iff.1 AZ).1) | (replace AZ := kept_block AZ B3) | skip); (first | (have AZ2 := AZ; obtain ⟨ta0, ta1, tf0, tf1⟩ := box_facts AZ2) | skip)))
    all_goals (go_wp2_with fail; go_meet)
    all_goals first
      | with_reducible exact ⟨_, m1, m2, m3, m4, rfl, hide (ob_alloc ((B1.then_below B2).then_below B3) dq)⟩
      | with_reducible exact ⟨_, m1, m2, m3, m4, rfl, hide (ob_set ((B1.then_below B2).then_below B3) dq AZ (by omega))⟩
  case rest =>
  obtain ⟨g10, m1, m2, m3, m4, rfl, T⟩ := hcut
  obtain ⟨p10, hm, h10, B2⟩ := T.out
  have lr : w.heap.size + 1 + 1 < W3.heap.size := (Array.getElem?_eq_some_iff.1 R1.out).1
  have n10 : g10 ≠ w.heap.size + 1 + 1 := by omega
  replace n10 := hide n10
  clear lr
  clear T S0
  rename World => W4
  replace B2 := hide B2
  have Mm := hide hm
  clear hm
  replace BW := hide (BW.out.then_below B2.out)
  replace R1 := hide (kept_block R1.out B2.out)
  replace p6 := hide (kept_block p6.out B2.out)
  replace p7 := hide (kept_block p7.out B2.out)
  replace p8 := hide (kept_block p8.out B2.out)
  replace p9 := hide (kept_block p9.out B2.out)
  replace U := hide (U.out.below B2.out)
  replace V := hide (V.out.below B2.out)
  replace E := hide (E.out.below B2.out)
  replace F := hide (F.out.below B2.out)
  clear h10 B2 P1 Q1 A1 N1 T1
  go_upto_region 7 with fail
  replace p10 := hide (kept_block p10 (Below.refl _ _))
  obtain ⟨c0, c1, -, -⟩ := box_facts p10.out
  obtain ⟨c2, c3, -, -⟩ := box_facts p6.out
  obtain ⟨c4, c5, -, -⟩ := box_facts p9.out
  obtain ⟨c6, c7, -, -⟩ := box_facts p7.out
  obtain ⟨c8, c9, -, -⟩ := box_facts p8.out
  have S0 := hide (And.intro c0 (And.intro c1 (And.intro c2 (And.intro c3 (And.intro c4 (And.intro c5 (And.intro c6 (And.intro c7 (And.intro c8 c9)))))))))
  clear c0 c1 c2 c3 c4 c5 c6 c7 c8 c9 p10
  go_region_held3
    (fun w' => w'.cell? ⟨g10, 0, none⟩ = some (.int .u64 m1) ∧ w'.cell? ⟨g10, 1, none⟩ = some (.slice m2 m3 m4) ∧ w'.cell? ⟨g6, 0, none⟩ = some (.int .u64 u1) ∧ w'.cell? ⟨g6, 1, none⟩ = some (.slice u2 u3 u4) ∧ w'.cell? ⟨g9, 0, none⟩ = some (.int .u64 f1) ∧ w'.cell? ⟨g9, 1, none⟩ = some (.slice f2 f3 f4) ∧ w'.cell? ⟨g7, 0, none⟩ = some (.int .u64 v1) ∧ w'.cell? ⟨g7, 1, none⟩ = some (.slice v2 v3 v4) ∧ w'.cell? ⟨g8, 0, none⟩ = some (.int .u64 e1) ∧ w'.cell? ⟨g8, 1, none⟩ = some (.slice e2 e3 e4))
    ((repeat (first | with_reducible exact S0.out | with_reducible refine bare10_set5 ?_ n10.out n10.out n6.out n6.out n9.out n9.out n7.out n7.out n8.out n8.out | with_reducible refine bare10_keep ?_ w4b | with_reducible refine bare10_keep ?_ w3b | with_reducible refine bare10_keep ?_ w2b | with_reducible refine bare10_keep ?_ w1b | with_reducible refine bare10_keep ?_ ((Below.refl _ _).drew))))
    (first
      | (go_at_call_of 42 (Value.agg #[.int .u64 u1, .slice u2 u3 u4]); refine (over_calls _ _ _ (lowN d1) (Nat.gcd n2 (lowN d1)) K (U.out.below (by repeat (first | with_reducible exact Below.refl _ _ | with_reducible refine Below.drew ?_ | with_reducible refine Below.then_below ?_ (alloc_below _ _)))) (F.out.below (by repeat (first | with_reducible exact Below.refl _ _ | with_reducible refine Below.drew ?_ | with_reducible refine Below.then_below ?_ (alloc_below _ _)))) l1.out hg2.out hK).mono ?_; rintro e w1 ⟨⟨ra, rfl, da⟩, w1b⟩)
      | (go_at_call_of 42 (Value.agg #[.int .u64 v1, .slice v2 v3 v4]); refine (over_calls _ _ _ (lowN d2) (Nat.gcd n1 (lowN d2)) K (V.out.below (by repeat (first | with_reducible exact Below.refl _ _ | with_reducible refine Below.drew ?_ | with_reducible refine Below.then_below ?_ (alloc_below _ _) | with_reducible refine Below.then_below ?_ w1b))) (E.out.below (by repeat (first | with_reducible exact Below.refl _ _ | with_reducible refine Below.drew ?_ | with_reducible refine Below.then_below ?_ (alloc_below _ _) | with_reducible refine Below.then_below ?_ w1b))) l2.out hg1.out hK).mono ?_; rintro e w2 ⟨⟨rb, rfl, db⟩, w2b⟩)
      | (go_at_call 49; refine (natMul_calls _ _ _ (lowN d1 / Nat.gcd n2 (lowN d1)) (lowN d2 / Nat.gcd n1 (lowN d2)) K (da.below w2b) db (div_BB l1.out) (div_BB l2.out) hK).mono ?_; rintro e w3 ⟨⟨rc, rfl, dc⟩, w3b⟩)
      | (go_at_call 41; refine (lowest_calls _ (s1 != s2) _ _ (n1 / Nat.gcd n1 (lowN d2) * (n2 / Nat.gcd n2 (lowN d1))) _ (Mm.out.below (by repeat (first | with_reducible exact Below.refl _ _ | with_reducible refine Below.drew ?_ | with_reducible refine Below.then_below ?_ (alloc_below _ _) | with_reducible refine Below.then_below ?_ w3b | with_reducible refine Below.then_below ?_ w2b | with_reducible refine Below.then_below ?_ w1b))) dc).mono ?_; rintro e w4 ⟨⟨rd, rfl, ld⟩, w4b⟩; obtain ⟨lb, nn, dd, hrd, hLow⟩ := Low.shape ld; obtain ⟨t1, t2, t3, t4, t5, t6, t7, t8, rfl, dn, dl⟩ := hrd.shape; have bw4 : Below W4.heap.size W4 w4 := (by repeat (first | with_reducible exact Below.refl _ _ | with_reducible refine Below.drew ?_ | with_reducible refine Below.then_below ?_ (alloc_below _ _) | with_reducible refine Below.then_below ?_ w4b | with_reducible refine Below.then_below ?_ w3b | with_reducible refine Below.then_below ?_ w2b | with_reducible refine Below.then_below ?_ w1b)); have R2 := kept_block R1.out bw4; obtain ⟨⟨o0, o1, o2, o3, o4⟩, of0, of1, of2, of3, of4⟩ := ratBox R2))
  go_wp2
  refine bodyPost_ret (v := .agg #[.bool lb, .int .u64 t1, .slice t2 t3 t4, .int .u64 t5, .slice t6 t7 t8]) (by simp [results, Tryz.results33, go_sem, o0, o1, o2, o3, o4]) rfl ?_
  have q := set5 w4 (w.heap.size + 1 + 1) (.bool lb) (.int .u64 t1) (.slice t2 t3 t4) (.int .u64 t5) (.slice t6 t7 t8)
  exact ⟨⟨_, rfl, hLow.out _ _ (DenR.make dn dl R2 (nopair5 _ _ _ _ _ _ _ _ _) q)⟩, (BW.out.then_below bw4).then_grown q (by rintro g ⟨⟩; omega)⟩
end Go.Proofs.YtnpdieolahlpoaaGreatDoor
