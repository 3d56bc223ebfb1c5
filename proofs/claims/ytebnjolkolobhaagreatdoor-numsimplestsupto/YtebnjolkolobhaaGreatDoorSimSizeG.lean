/-
  Package num: the simplest number between the sizes of two bounds (simplestSize).
-/
import Derived.Test.YtebnjolkolobhaaGreatDoorSimChain
import Derived.Test.YtebnjolkolobhaaGreatDoorSimHeadG
import Derived.BigRegion
/- ==== SimSize ==== -/
namespace Go.Proofs.YtebnjolkolobhaaGreatDoor
open Go.RowKit
set_option linter.unusedVariables false
set_option linter.unusedSimpArgs false
theorem PairD.kept {w w' : World} {v : Value} {n d g : Nat} {cs : Array Value} {t : TypeId} (h : PairD w v n d) (hg : w.heap[g]? = some (.cells cs t (0, 0))) (hp : NoPair cs) (q : w.grownBy w' (some g)) : PairD w' v n d := by
  obtain ⟨x1, x2, x3, x4, y1, y2, y3, y4, rfl, h1, h2⟩ := h
  exact ⟨x1, x2, x3, x4, y1, y2, y3, y4, rfl, h1.kept q (h1.notin hp hg), h2.kept q (h2.notin hp hg)⟩
/-- Two pairs in boxes of their own. -/
def TwoP (w1 wx : World) (g h : Nat) (c1 c2 : Array Value) (n1 d1 n2 d2 : Nat) : Prop :=
  wx.heap[g]? = some (.cells c1 105 (0, 0)) ∧ wx.heap[h]? = some (.cells c2 105 (0, 0)) ∧ PairD wx (.agg c1) n1 d1 ∧ PairD wx (.agg c2) n2 d2 ∧ w1.heap.size ≤ g ∧ w1.heap.size ≤ h ∧ Below w1.heap.size w1 wx
theorem TwoP.swap {w1 wx : World} {g h : Nat} {c1 c2 : Array Value} {n1 d1 n2 d2 : Nat} (q : TwoP w1 wx g h c1 c2 n1 d1 n2 d2) : TwoP w1 wx h g c2 c1 n2 d2 n1 d1 :=
  ⟨q.2.1, q.1, q.2.2.2.1, q.2.2.1, q.2.2.2.2.2.1, q.2.2.2.2.1, q.2.2.2.2.2.2⟩
theorem fb_alloc {w1 w2 : World} {c1 c2 : Array Value} {n1 d1 n2 d2 : Nat} (bw : Below w1.heap.size w1 w2) (hq : PairD w2 (.agg c1) n1 d1) (hr : PairD w2 (.agg c2) n2 d2) :
    TwoP w1 ((w2.alloc (.cells c1 105)).alloc (.cells c2 105)) w2.heap.size (w2.heap.size + 1) c1 c2 n1 d1 n2 d2 := by
  obtain ⟨t1, t2, bb⟩ := alloc2_facts w2 (.cells c1 105) (.cells c2 105)
  have := bw.size
  exact ⟨t1, t2, hq.below bb, hr.below bb, this, by omega, bw.then_below bb⟩
theorem fb_set_alloc {w1 w2 : World} {a b c d : Value} {c2 : Array Value} {n1 d1 n2 d2 h : Nat} (bw : Below w1.heap.size w1 w2) (hq : PairD w2 (.agg #[a, b, c, d]) n1 d1) (hr : PairD w2 (.agg c2) n2 d2)
    (AZ : w2.heap[h]? = some (.cells #[.int .u64 0, .slice none 0 0, .int .u64 0, .slice none 0 0] 105 (0, 0))) (hh : w1.heap.size ≤ h) :
    TwoP w1 (((((w2.setCell ⟨h, 0, none⟩ a).setCell ⟨h, 1, none⟩ b).setCell ⟨h, 2, none⟩ c).setCell ⟨h, 3, none⟩ d).alloc (.cells c2 105)) h w2.heap.size #[a, b, c, d] c2 n1 d1 n2 d2 := by
  have q := box4_grown w2 h a b c d
  have t1 := box4_store AZ a b c d
  have e : ((((w2.setCell ⟨h, 0, none⟩ a).setCell ⟨h, 1, none⟩ b).setCell ⟨h, 2, none⟩ c).setCell ⟨h, 3, none⟩ d).heap.size = w2.heap.size := by simp [World.setCell]
  have bb := alloc_below ((((w2.setCell ⟨h, 0, none⟩ a).setCell ⟨h, 1, none⟩ b).setCell ⟨h, 2, none⟩ c).setCell ⟨h, 3, none⟩ d) (.cells c2 105)
  have t2 := heap_alloc_new ((((w2.setCell ⟨h, 0, none⟩ a).setCell ⟨h, 1, none⟩ b).setCell ⟨h, 2, none⟩ c).setCell ⟨h, 3, none⟩ d) (.cells c2 105)
  rw [e] at t2
  exact ⟨kept_block t1 bb, t2, (hq.kept AZ (nopair4 _ _ _ _ _ _ _ _) q).below bb, (hr.kept AZ (nopair4 _ _ _ _ _ _ _ _) q).below bb, hh, bw.size, (bw.then_grown q (by rintro g ⟨⟩; exact hh)).then_below bb⟩
theorem fb_set_set {w1 w2 : World} {a b c d a' b' c' d' : Value} {n1 d1 n2 d2 h h' : Nat} (bw : Below w1.heap.size w1 w2) (hq : PairD w2 (.agg #[a, b, c, d]) n1 d1) (hr : PairD w2 (.agg #[a', b', c', d']) n2 d2)
    (AZ : w2.heap[h]? = some (.cells #[.int .u64 0, .slice none 0 0, .int .u64 0, .slice none 0 0] 105 (0, 0))) (AY : w2.heap[h']? = some (.cells #[.int .u64 0, .slice none 0 0, .int .u64 0, .slice none 0 0] 105 (0, 0))) (hh : w1.heap.size ≤ h) (hh' : w1.heap.size ≤ h') (hn : h ≠ h') :
    TwoP w1 ((((((((w2.setCell ⟨h, 0, none⟩ a).setCell ⟨h, 1, none⟩ b).setCell ⟨h, 2, none⟩ c).setCell ⟨h, 3, none⟩ d).setCell ⟨h', 0, none⟩ a').setCell ⟨h', 1, none⟩ b').setCell ⟨h', 2, none⟩ c').setCell ⟨h', 3, none⟩ d') h h' #[a, b, c, d] #[a', b', c', d'] n1 d1 n2 d2 := by
  have q := box4_grown w2 h a b c d
  have t1 := box4_store AZ a b c d
  have y1 := grown_block AY q (fun e => hn e.symm)
  have q' := box4_grown ((((w2.setCell ⟨h, 0, none⟩ a).setCell ⟨h, 1, none⟩ b).setCell ⟨h, 2, none⟩ c).setCell ⟨h, 3, none⟩ d) h' a' b' c' d'
  exact ⟨grown_block t1 q' hn, box4_store y1 a' b' c' d', (hq.kept AZ (nopair4 _ _ _ _ _ _ _ _) q).kept y1 (nopair4 _ _ _ _ _ _ _ _) q', (hr.kept AZ (nopair4 _ _ _ _ _ _ _ _) q).kept y1 (nopair4 _ _ _ _ _ _ _ _) q', hh, hh', (bw.then_grown q (by rintro g ⟨⟩; exact hh)).then_grown q' (by rintro g ⟨⟩; exact hh')⟩
theorem two_store4 {w : World} {g h : Nat} {x1 z1 X1 Z1 : Int} {x2 z2 X2 Z2 : Option Addr} {x3 x4 z3 z4 X3 X4 Z3 Z4 : Nat} {t t' : TypeId} (h1 : w.heap[g]? = some (.cells #[.int .u64 x1, .slice x2 x3 x4, .int .u64 X1, .slice X2 X3 X4] t (0, 0))) (h2 : w.heap[h]? = some (.cells #[.int .u64 z1, .slice z2 z3 z4, .int .u64 Z1, .slice Z2 Z3 Z4] t' (0, 0))) (ne : g ≠ h) (a b c d a' b' c' d' : Value) :
    Both w ((((((((w.setCell ⟨g, 0, none⟩ a).setCell ⟨g, 1, none⟩ b).setCell ⟨g, 2, none⟩ c).setCell ⟨g, 3, none⟩ d).setCell ⟨h, 0, none⟩ a').setCell ⟨h, 1, none⟩ b').setCell ⟨h, 2, none⟩ c').setCell ⟨h, 3, none⟩ d') g h ∧ ((((((((w.setCell ⟨g, 0, none⟩ a).setCell ⟨g, 1, none⟩ b).setCell ⟨g, 2, none⟩ c).setCell ⟨g, 3, none⟩ d).setCell ⟨h, 0, none⟩ a').setCell ⟨h, 1, none⟩ b').setCell ⟨h, 2, none⟩ c').setCell ⟨h, 3, none⟩ d').heap[g]? = some (.cells #[a, b, c, d] t (0, 0)) ∧ ((((((((w.setCell ⟨g, 0, none⟩ a).setCell ⟨g, 1, none⟩ b).setCell ⟨g, 2, none⟩ c).setCell ⟨g, 3, none⟩ d).setCell ⟨h, 0, none⟩ a').setCell ⟨h, 1, none⟩ b').setCell ⟨h, 2, none⟩ c').setCell ⟨h, 3, none⟩ d').heap[h]? = some (.cells #[a', b', c', d'] t' (0, 0)) := by
  have q1 := box4_grown w g a b c d
  have m2 := grown_block h2 q1 (fun e => ne e.symm)
  have q2 := box4_grown ((((w.setCell ⟨g, 0, none⟩ a).setCell ⟨g, 1, none⟩ b).setCell ⟨g, 2, none⟩ c).setCell ⟨g, 3, none⟩ d) h a' b' c' d'
  exact ⟨⟨_, _, _, t, t', nopair4 _ _ _ _ _ _ _ _, nopair4 _ _ _ _ _ _ _ _, h1, m2, q1, q2⟩, grown_block (box4_store h1 a b c d) q2 ne, box4_store m2 a' b' c' d'⟩
theorem bel_refl {w : World} : Below w.heap.size w w := Below.refl _ _
theorem bel_drew {w W : World} (h : Below w.heap.size w W) : Below w.heap.size w W.drew := h.drew
theorem bel_alloc {w W : World} {o : Obj} (h : Below w.heap.size w W) : Below w.heap.size w (W.alloc o) := h.then_below (alloc_below _ _)
theorem bel_set {w W : World} {g j : Nat} {v : Value} (h : Below w.heap.size w W) (hg : w.heap.size ≤ g) : Below w.heap.size w (W.setCell ⟨g, j, none⟩ v) := h.then_grown (grown_set _ _ _ _) (by rintro _ ⟨⟩; exact hg)
theorem bel_set4 {w W : World} {g : Nat} {a b c d : Value} (h : Below w.heap.size w W) (hg : w.heap.size ≤ g) : Below w.heap.size w ((((W.setCell ⟨g, 0, none⟩ a).setCell ⟨g, 1, none⟩ b).setCell ⟨g, 2, none⟩ c).setCell ⟨g, 3, none⟩ d) := h.then_grown (box4_grown _ _ _ _ _ _) (by rintro _ ⟨⟩; exact hg)
theorem bel_set2 {w W : World} {g : Nat} {a b : Value} (h : Below w.heap.size w W) (hg : w.heap.size ≤ g) : Below w.heap.size w ((W.setCell ⟨g, 0, none⟩ a).setCell ⟨g, 1, none⟩ b) := h.then_grown (box_grown _ _ _ _) (by rintro _ ⟨⟩; exact hg)
theorem le_up {a b : Nat} (h : a ≤ b) : a ≤ b + 1 := Nat.le_succ_of_le h
theorem cells12_keep {w W W2 : World} {a1 a2 a3 a4 a5 a6 a7 a8 a9 a10 a11 a12 : Addr} {v1 v2 v3 v4 v5 v6 v7 v8 v9 v10 v11 v12 : Value} (h : W.cell? a1 = some v1 ∧ W.cell? a2 = some v2 ∧ W.cell? a3 = some v3 ∧ W.cell? a4 = some v4 ∧ W.cell? a5 = some v5 ∧ W.cell? a6 = some v6 ∧ W.cell? a7 = some v7 ∧ W.cell? a8 = some v8 ∧ W.cell? a9 = some v9 ∧ W.cell? a10 = some v10 ∧ W.cell? a11 = some v11 ∧ W.cell? a12 = some v12 ∧ Below w.heap.size w W) (b : Below W.heap.size W W2) : W2.cell? a1 = some v1 ∧ W2.cell? a2 = some v2 ∧ W2.cell? a3 = some v3 ∧ W2.cell? a4 = some v4 ∧ W2.cell? a5 = some v5 ∧ W2.cell? a6 = some v6 ∧ W2.cell? a7 = some v7 ∧ W2.cell? a8 = some v8 ∧ W2.cell? a9 = some v9 ∧ W2.cell? a10 = some v10 ∧ W2.cell? a11 = some v11 ∧ W2.cell? a12 = some v12 ∧ Below w.heap.size w W2 := by
  obtain ⟨h1, h2, h3, h4, h5, h6, h7, h8, h9, h10, h11, h12, hb⟩ := h
  exact ⟨by rw [b.cell (World.block_lt_of_cell? W _ h1)]; exact h1, by rw [b.cell (World.block_lt_of_cell? W _ h2)]; exact h2, by rw [b.cell (World.block_lt_of_cell? W _ h3)]; exact h3, by rw [b.cell (World.block_lt_of_cell? W _ h4)]; exact h4, by rw [b.cell (World.block_lt_of_cell? W _ h5)]; exact h5, by rw [b.cell (World.block_lt_of_cell? W _ h6)]; exact h6, by rw [b.cell (World.block_lt_of_cell? W _ h7)]; exact h7, by rw [b.cell (World.block_lt_of_cell? W _ h8)]; exact h8, by rw [b.cell (World.block_lt_of_cell? W _ h9)]; exact h9, by rw [b.cell (World.block_lt_of_cell? W _ h10)]; exact h10, by rw [b.cell (World.block_lt_of_cell? W _ h11)]; exact h11, by rw [b.cell (World.block_lt_of_cell? W _ h12)]; exact h12, hb.then_below b⟩
theorem BB_lt {x X K : Nat} (h : x ≤ X) (hX : (X : Int) < M.BB ^ K) : (x : Int) < M.BB ^ K := Int.lt_of_le_of_lt (by exact_mod_cast h) hX
set_option maxRecDepth 100000 in
set_option maxHeartbeats 16000000 in
theorem ssize_calls (w : World) (vn vf : Value) (s1 s2 g : Bool) (n1 d1 n2 d2 lu0 ll0 hu0 hl0 N E K X Kb : Nat) (hn : BD w vn true s1 n1 d1) (hf : BD w vf g s2 n2 d2) (e1 : n1 = lu0) (e2 : lowN d1 = ll0) (e3 : (if g then n2 else 1) = hu0) (e4 : (if g then lowN d2 else 0) = hl0)
    (bt : M.Bt lu0 ll0 hu0 hl0) (hS : M.smp lu0 ll0 hu0 hl0 = (N, E)) (b1 : lu0 ≤ X) (b2 : ll0 ≤ X) (b3 : hu0 ≤ X) (b4 : hl0 ≤ X) (kX : ((2 * X : Nat) : Int) < M.BB ^ K) (hK : K ≤ 4398046511104) (hXb : X < 2 ^ Kb) (hKb : Kb ≤ 400000000) (hT : Tab w) :
    Calls Tryz.prog 40 #[vn, vf] w fun e w' => (∃ r, e = .returned r ∧ Low w' r false N E) ∧ Below w.heap.size w w' := by
  have hn' := hn
  have hf' := hf
  obtain ⟨sn, x1, x2, x3, x4, y1, y2, y3, y4, rfl, -⟩ := hn
  obtain ⟨sf, p1, p2, p3, p4, r1, r2, r3, r4, rfl, -⟩ := hf
  obtain ⟨A0, C0, R0, B0⟩ := three_new' w (.cells #[.bool true, .bool sn, .int .u64 x1, .slice x2 x3 x4, .int .u64 y1, .slice y2 y3 y4] 51) (.cells #[.bool g, .bool sf, .int .u64 p1, .slice p2 p3 p4, .int .u64 r1, .slice r2 r3 r4] 51) (.cells #[.bool false, .int .u64 0, .slice none 0 0, .int .u64 0, .slice none 0 0] 45)
  have HN := hide (hn'.below B0)
  have HF := hide (hf'.below B0)
  have HT := hide hT
  have kXH := hide kX
  have NE0 : Hid (M.back [] (M.smp lu0 ll0 hu0 hl0) = (N, E)) := hS
  have BT0 := hide bt
  have BD0 : Hid (lu0 ≤ X ∧ ll0 ≤ X ∧ hu0 ≤ X ∧ hl0 ≤ X) := ⟨b1, b2, b3, b4⟩
  have FW0 : Hid (M.Few Kb 0 lu0 ll0 hl0) := .inl ⟨Nat.lt_of_le_of_lt b2 hXb, Nat.lt_of_le_of_lt b4 hXb, rfl⟩
  have cop : Hid (Nat.gcd N E = 1 ∧ N ≤ 2 * X ∧ E ≤ 2 * X) := by
    have c := (M.smp_cop _ _ _ _ bt).1
    have l := M.smp_le bt
    rw [hS] at c l
    exact ⟨c, by have := l.1; simp only at this; omega, by have := l.2; simp only at this; omega⟩
  have q1 := hide (fun W (h : Below ((((w.alloc (.cells #[.bool true, .bool sn, .int .u64 x1, .slice x2 x3 x4, .int .u64 y1, .slice y2 y3 y4] 51)).alloc (.cells #[.bool g, .bool sf, .int .u64 p1, .slice p2 p3 p4, .int .u64 r1, .slice r2 r3 r4] 51)).alloc (.cells #[.bool false, .int .u64 0, .slice none 0 0, .int .u64 0, .slice none 0 0] 45))).heap.size (((w.alloc (.cells #[.bool true, .bool sn, .int .u64 x1, .slice x2 x3 x4, .int .u64 y1, .slice y2 y3 y4] 51)).alloc (.cells #[.bool g, .bool sf, .int .u64 p1, .slice p2 p3 p4, .int .u64 r1, .slice r2 r3 r4] 51)).alloc (.cells #[.bool false, .int .u64 0, .slice none 0 0, .int .u64 0, .slice none 0 0] 45)) W) => bsize_calls W _ true s1 n1 d1 (HN.out.below h))
  have q2 := hide (fun W (h : Below ((((w.alloc (.cells #[.bool true, .bool sn, .int .u64 x1, .slice x2 x3 x4, .int .u64 y1, .slice y2 y3 y4] 51)).alloc (.cells #[.bool g, .bool sf, .int .u64 p1, .slice p2 p3 p4, .int .u64 r1, .slice r2 r3 r4] 51)).alloc (.cells #[.bool false, .int .u64 0, .slice none 0 0, .int .u64 0, .slice none 0 0] 45))).heap.size (((w.alloc (.cells #[.bool true, .bool sn, .int .u64 x1, .slice x2 x3 x4, .int .u64 y1, .slice y2 y3 y4] 51)).alloc (.cells #[.bool g, .bool sf, .int .u64 p1, .slice p2 p3 p4, .int .u64 r1, .slice r2 r3 r4] 51)).alloc (.cells #[.bool false, .int .u64 0, .slice none 0 0, .int .u64 0, .slice none 0 0] 45)) W) => bsize_calls W _ g s2 n2 d2 (HF.out.below h))
  rw [if_pos rfl, if_pos rfl, e1, e2] at q1
  rw [e3, e4] at q2
  clear hn' hf' hT kX hS bt b1 b2 b3 b4 e1 e2 e3 e4 hXb HN HF
  go_enter Tryz.func40, Tryz.ntmps40
  go_upto_region 1 with fail
  generalize (((w.alloc (.cells #[.bool true, .bool sn, .int .u64 x1, .slice x2 x3 x4, .int .u64 y1, .slice y2 y3 y4] 51)).alloc (.cells #[.bool g, .bool sf, .int .u64 p1, .slice p2 p3 p4, .int .u64 r1, .slice r2 r3 r4] 51)).alloc (.cells #[.bool false, .int .u64 0, .slice none 0 0, .int .u64 0, .slice none 0 0] 45)) = W1 at *
  obtain ⟨⟨i0, i1, i2, i3, i4, i5⟩, -⟩ := box6 A0
  obtain ⟨⟨j0, j1, j2, j3, j4, j5⟩, -⟩ := box6 C0
  have S0 := hide (And.intro i0 (And.intro i1 (And.intro i2 (And.intro i3 (And.intro i4 (And.intro i5 (And.intro j0 (And.intro j1 (And.intro j2 (And.intro j3 (And.intro j4 (And.intro j5 (Below.refl W1.heap.size W1)))))))))))))
  replace R0 := hide R0
  replace B0 := hide B0
  have lw : w.heap.size + 1 + 1 < W1.heap.size := (Array.getElem?_eq_some_iff.1 R0.out).1
  clear A0 C0 i0 i1 i2 i3 i4 i5 j0 j1 j2 j3 j4 j5
  go_cut [5, 6] (fun sx sy wx => ∃ (gx gy : Nat) (a1 : Int) (a2 : Option Addr) (a3 a4 : Nat) (b1 : Int) (b2 : Option Addr) (b3 b4 : Nat) (c1 : Int) (c2 : Option Addr) (c3 c4 : Nat) (f1 : Int) (f2 : Option Addr) (f3 f4 : Nat), sx = .pointer (some ⟨gx, 0, none⟩) ∧ sy = .pointer (some ⟨gy, 0, none⟩) ∧ Hid (TwoP W1 wx gx gy #[.int .u64 a1, .slice a2 a3 a4, .int .u64 b1, .slice b2 b3 b4] #[.int .u64 c1, .slice c2 c3 c4, .int .u64 f1, .slice f2 f3 f4] lu0 ll0 hu0 hl0) ∧ Hid (gx ≠ gy))
  case first =>
    go_region_held3
      (fun w' => w'.cell? ⟨w.heap.size, 0, none⟩ = some (.bool true) ∧ w'.cell? ⟨w.heap.size, 1, none⟩ = some (.bool sn) ∧ w'.cell? ⟨w.heap.size, 2, none⟩ = some (.int .u64 x1) ∧ w'.cell? ⟨w.heap.size, 3, none⟩ = some (.slice x2 x3 x4) ∧ w'.cell? ⟨w.heap.size, 4, none⟩ = some (.int .u64 y1) ∧ w'.cell? ⟨w.heap.size, 5, none⟩ = some (.slice y2 y3 y4) ∧ w'.cell? ⟨w.heap.size + 1, 0, none⟩ = some (.bool g) ∧ w'.cell? ⟨w.heap.size + 1, 1, none⟩ = some (.bool sf) ∧ w'.cell? ⟨w.heap.size + 1, 2, none⟩ = some (.int .u64 p1) ∧ w'.cell? ⟨w.heap.size + 1, 3, none⟩ = some (.slice p2 p3 p4) ∧ w'.cell? ⟨w.heap.size + 1, 4, none⟩ = some (.int .u64 r1) ∧ w'.cell? ⟨w.heap.size + 1, 5, none⟩ = some (.slice r2 r3 r4) ∧ Below W1.heap.size W1 w')
      (exact cells12_keep (w := W1) S0.out (by first | with_reducible exact bel_drew bel_refl | with_reducible exact bel_drew (bel_alloc (bel_refl)) | with_reducible exact bel_drew (bel_alloc (bel_alloc (bel_refl))) | with_reducible exact bel_alloc (bel_drew bel_refl) | with_reducible exact bel_alloc (bel_alloc (bel_drew bel_refl)) | with_reducible exact Ba | with_reducible exact bel_alloc (Ba) | with_reducible exact bel_alloc (bel_alloc (Ba)) | with_reducible exact bw | with_reducible exact bel_alloc (bw) | with_reducible exact bel_set4 (bw) (by omega) | with_reducible exact bel_alloc (bel_alloc (bw)) | with_reducible exact bel_set4 (bel_alloc (bw)) (by omega) | with_reducible exact bel_alloc (bel_set4 (bw) (by omega)) | with_reducible exact bel_set4 (bel_set4 (bw) (by omega)) (by omega) | with_reducible exact bel_alloc (bel_alloc (bel_alloc (bw))) | with_reducible exact bel_set4 (bel_alloc (bel_alloc (bw))) (by omega) | with_reducible exact bel_alloc (bel_set4 (bel_alloc (bw)) (by omega)) | with_reducible exact bel_set4 (bel_set4 (bel_alloc (bw)) (by omega)) (by omega) | with_reducible exact bel_alloc (bel_alloc (bel_set4 (bw) (by omega))) | with_reducible exact bel_set4 (bel_alloc (bel_set4 (bw) (by omega))) (by omega) | with_reducible exact bel_alloc (bel_set4 (bel_set4 (bw) (by omega)) (by omega)) | with_reducible exact bel_set4 (bel_set4 (bel_set4 (bw) (by omega)) (by omega)) (by omega)))
      (first
        | (go_at_call_of 82 (Value.agg #[.bool true, .bool sn, .int .u64 x1, .slice x2 x3 x4, .int .u64 y1, .slice y2 y3 y4]); refine (q1.out _ (by first | with_reducible exact bel_drew bel_refl | with_reducible exact bel_drew (bel_alloc (bel_refl)) | with_reducible exact bel_drew (bel_alloc (bel_alloc (bel_refl))) | with_reducible exact bel_alloc (bel_drew bel_refl) | with_reducible exact bel_alloc (bel_alloc (bel_drew bel_refl)))).mono ?_; rintro e wa ⟨⟨ra, rfl, da⟩, ba⟩; have da' := da; obtain ⟨u1, u2, u3, u4, v1, v2, v3, v4, rfl, -, -⟩ := da'; have Ba : Below W1.heap.size W1 wa := Below.then_below (by first | with_reducible exact bel_drew bel_refl | with_reducible exact bel_drew (bel_alloc (bel_refl)) | with_reducible exact bel_drew (bel_alloc (bel_alloc (bel_refl))) | with_reducible exact bel_alloc (bel_drew bel_refl) | with_reducible exact bel_alloc (bel_alloc (bel_drew bel_refl))) ba; have sa : W1.heap.size ≤ wa.heap.size := Ba.size; (first | (have AZ0 : wa.heap[W1.heap.size]? = some (.cells #[.int .u64 0, .slice none 0 0, .int .u64 0, .slice none 0 0] 105 (0, 0)) := kept_block (by first | exact heap_alloc_new W1 (.cells #[.int .u64 0, .slice none 0 0, .int .u64 0, .slice none 0 0] 105) | exact (two_new W1 (.cells #[.int .u64 0, .slice none 0 0, .int .u64 0, .slice none 0 0] 105) (.cells #[.int .u64 0, .slice none 0 0, .int .u64 0, .slice none 0 0] 105)).1) ba; have lAZ0 : W1.heap.size < wa.heap.size := (Array.getElem?_eq_some_iff.1 AZ0).1; have nAZ0 : W1.heap.size ≠ wa.heap.size := Nat.ne_of_lt lAZ0; have mAZ0 : wa.heap.size ≠ W1.heap.size := Nat.ne_of_gt lAZ0) | skip); (first | (have AZ1 : wa.heap[W1.heap.size + 1]? = some (.cells #[.int .u64 0, .slice none 0 0, .int .u64 0, .slice none 0 0] 105 (0, 0)) := kept_block (by exact (two_new W1 (.cells #[.int .u64 0, .slice none 0 0, .int .u64 0, .slice none 0 0] 105) (.cells #[.int .u64 0, .slice none 0 0, .int .u64 0, .slice none 0 0] 105)).2.1) ba; have lAZ1 : W1.heap.size + 1 < wa.heap.size := (Array.getElem?_eq_some_iff.1 AZ1).1; have nAZ1 : W1.heap.size + 1 ≠ wa.heap.size := Nat.ne_of_lt lAZ1; have mAZ1 : wa.heap.size ≠ W1.heap.size + 1 := Nat.ne_of_gt lAZ1) | skip))
        | (go_at_call_of 82 (Value.agg #[.bool g, .bool sf, .int .u64 p1, .slice p2 p3 p4, .int .u64 r1, .slice r2 r3 r4]); refine (q2.out _ (by first | with_reducible exact Ba | with_reducible exact bel_alloc (Ba) | with_reducible exact bel_alloc (bel_alloc (Ba)))).mono ?_; rintro e wb ⟨⟨rb, rfl, db⟩, bb⟩; have db' := db; obtain ⟨c1, c2, c3, c4, f1, f2, f3, f4, rfl, -, -⟩ := db'; have BAB : Below wa.heap.size wa wb := Below.then_below (by first | with_reducible exact bel_refl | with_reducible exact bel_alloc (bel_refl) | with_reducible exact bel_alloc (bel_alloc (bel_refl))) bb; have bw : Below W1.heap.size W1 wb := Ba.then_below BAB; have dq := da.below BAB; have sb : wa.heap.size ≤ wb.heap.size := BAB.size; have sab : W1.heap.size ≤ wb.heap.size := bw.size; (first | (have AK0 := kept_block AZ0 BAB; obtain ⟨⟨kk00, kk01, kk02, kk03⟩, jk00, jk01, jk02, jk03⟩ := box4 AK0; have lAK0 := (Array.getElem?_eq_some_iff.1 AK0).1; have nAK0 := Nat.ne_of_lt lAK0; have mAK0 := Nat.ne_of_gt lAK0) | skip); (first | (have AK1 := kept_block AZ1 BAB; obtain ⟨⟨kk10, kk11, kk12, kk13⟩, jk10, jk11, jk12, jk13⟩ := box4 AK1; have lAK1 := (Array.getElem?_eq_some_iff.1 AK1).1; have nAK1 := Nat.ne_of_lt lAK1; have mAK1 := Nat.ne_of_gt lAK1) | skip); (first | (have AY0 : wb.heap[wa.heap.size]? = some (.cells #[.int .u64 0, .slice none 0 0, .int .u64 0, .slice none 0 0] 105 (0, 0)) := kept_block (by first | with_reducible exact heap_alloc_new wa (.cells #[.int .u64 0, .slice none 0 0, .int .u64 0, .slice none 0 0] 105) | with_reducible exact (two_new wa (.cells #[.int .u64 0, .slice none 0 0, .int .u64 0, .slice none 0 0] 105) (.cells #[.int .u64 0, .slice none 0 0, .int .u64 0, .slice none 0 0] 105)).1) bb; obtain ⟨⟨ty00, ty01, ty02, ty03⟩, fy00, fy01, fy02, fy03⟩ := box4 AY0; have lAY0 : wa.heap.size < wb.heap.size := (Array.getElem?_eq_some_iff.1 AY0).1; have nAY0 : wa.heap.size ≠ wb.heap.size := Nat.ne_of_lt lAY0; have mAY0 : wb.heap.size ≠ wa.heap.size := Nat.ne_of_gt lAY0) | skip); (first | (have AY1 : wb.heap[wa.heap.size + 1]? = some (.cells #[.int .u64 0, .slice none 0 0, .int .u64 0, .slice none 0 0] 105 (0, 0)) := kept_block (by with_reducible exact (two_new wa (.cells #[.int .u64 0, .slice none 0 0, .int .u64 0, .slice none 0 0] 105) (.cells #[.int .u64 0, .slice none 0 0, .int .u64 0, .slice none 0 0] 105)).2.1) bb; obtain ⟨⟨ty10, ty11, ty12, ty13⟩, fy10, fy11, fy12, fy13⟩ := box4 AY1; have lAY1 : wa.heap.size + 1 < wb.heap.size := (Array.getElem?_eq_some_iff.1 AY1).1; have nAY1 : wa.heap.size + 1 ≠ wb.heap.size := Nat.ne_of_lt lAY1; have mAY1 : wb.heap.size ≠ wa.heap.size + 1 := Nat.ne_of_gt lAY1) | skip)))
    all_goals (go_wp2_with fail; go_meet)
    all_goals first
      | with_reducible exact ⟨_, _, u1, u2, u3, u4, v1, v2, v3, v4, c1, c2, c3, c4, f1, f2, f3, f4, rfl, rfl, hide (fb_alloc bw dq db), hide (by omega)⟩
      | with_reducible exact ⟨_, _, u1, u2, u3, u4, v1, v2, v3, v4, c1, c2, c3, c4, f1, f2, f3, f4, rfl, rfl, hide ((fb_alloc bw db dq).swap), hide (by omega)⟩
      | with_reducible exact ⟨_, _, u1, u2, u3, u4, v1, v2, v3, v4, c1, c2, c3, c4, f1, f2, f3, f4, rfl, rfl, hide (fb_set_alloc bw dq db AK0 (by omega)), hide (by omega)⟩
      | with_reducible exact ⟨_, _, u1, u2, u3, u4, v1, v2, v3, v4, c1, c2, c3, c4, f1, f2, f3, f4, rfl, rfl, hide ((fb_set_alloc bw db dq AK0 (by omega)).swap), hide (by omega)⟩
      | with_reducible exact ⟨_, _, u1, u2, u3, u4, v1, v2, v3, v4, c1, c2, c3, c4, f1, f2, f3, f4, rfl, rfl, hide (fb_set_alloc bw dq db AY0 (by omega)), hide (by omega)⟩
      | with_reducible exact ⟨_, _, u1, u2, u3, u4, v1, v2, v3, v4, c1, c2, c3, c4, f1, f2, f3, f4, rfl, rfl, hide ((fb_set_alloc bw db dq AY0 (by omega)).swap), hide (by omega)⟩
      | with_reducible exact ⟨_, _, u1, u2, u3, u4, v1, v2, v3, v4, c1, c2, c3, c4, f1, f2, f3, f4, rfl, rfl, hide (fb_set_set bw dq db AK0 AK1 (by omega) (by omega) (by omega)), hide (by omega)⟩
      | with_reducible exact ⟨_, _, u1, u2, u3, u4, v1, v2, v3, v4, c1, c2, c3, c4, f1, f2, f3, f4, rfl, rfl, hide ((fb_set_set bw db dq AK0 AK1 (by omega) (by omega) (by omega)).swap), hide (by omega)⟩
      | with_reducible exact ⟨_, _, u1, u2, u3, u4, v1, v2, v3, v4, c1, c2, c3, c4, f1, f2, f3, f4, rfl, rfl, hide (fb_set_set bw dq db AK1 AK0 (by omega) (by omega) (by omega)), hide (by omega)⟩
      | with_reducible exact ⟨_, _, u1, u2, u3, u4, v1, v2, v3, v4, c1, c2, c3, c4, f1, f2, f3, f4, rfl, rfl, hide ((fb_set_set bw db dq AK1 AK0 (by omega) (by omega) (by omega)).swap), hide (by omega)⟩
      | with_reducible exact ⟨_, _, u1, u2, u3, u4, v1, v2, v3, v4, c1, c2, c3, c4, f1, f2, f3, f4, rfl, rfl, hide (fb_set_set bw dq db AK0 AY0 (by omega) (by omega) (by omega)), hide (by omega)⟩
      | with_reducible exact ⟨_, _, u1, u2, u3, u4, v1, v2, v3, v4, c1, c2, c3, c4, f1, f2, f3, f4, rfl, rfl, hide ((fb_set_set bw db dq AK0 AY0 (by omega) (by omega) (by omega)).swap), hide (by omega)⟩
      | with_reducible exact ⟨_, _, u1, u2, u3, u4, v1, v2, v3, v4, c1, c2, c3, c4, f1, f2, f3, f4, rfl, rfl, hide (fb_set_set bw dq db AY0 AK0 (by omega) (by omega) (by omega)), hide (by omega)⟩
      | with_reducible exact ⟨_, _, u1, u2, u3, u4, v1, v2, v3, v4, c1, c2, c3, c4, f1, f2, f3, f4, rfl, rfl, hide ((fb_set_set bw db dq AY0 AK0 (by omega) (by omega) (by omega)).swap), hide (by omega)⟩
      | with_reducible exact ⟨_, _, u1, u2, u3, u4, v1, v2, v3, v4, c1, c2, c3, c4, f1, f2, f3, f4, rfl, rfl, hide (fb_set_set bw dq db AY0 AY1 (by omega) (by omega) (by omega)), hide (by omega)⟩
      | with_reducible exact ⟨_, _, u1, u2, u3, u4, v1, v2, v3, v4, c1, c2, c3, c4, f1, f2, f3, f4, rfl, rfl, hide ((fb_set_set bw db dq AY0 AY1 (by omega) (by omega) (by omega)).swap), hide (by omega)⟩
      | with_reducible exact ⟨_, _, u1, u2, u3, u4, v1, v2, v3, v4, c1, c2, c3, c4, f1, f2, f3, f4, rfl, rfl, hide (fb_set_set bw dq db AY1 AY0 (by omega) (by omega) (by omega)), hide (by omega)⟩
      | with_reducible exact ⟨_, _, u1, u2, u3, u4, v1, v2, v3, v4, c1, c2, c3, c4, f1, f2, f3, f4, rfl, rfl, hide ((fb_set_set bw db dq AY1 AY0 (by omega) (by omega) (by omega)).swap), hide (by omega)⟩
  case rest =>
  obtain ⟨g5, g6, a1, a2, a3, a4, b1, b2, b3, b4, c1, c2, c3, c4, f1, f2, f3, f4, rfl, rfl, T, NE⟩ := hcut
  rename World => W2
  obtain ⟨p5, p6, hu, hv, h5, h6, B2⟩ := T.out
  obtain ⟨_, _, _, _, _, _, _, _, eu, hu1, hu2⟩ := hu
  obtain ⟨_, _, _, _, _, _, _, _, ev, hv1, hv2⟩ := hv
  simp only [Value.agg.injEq, Array.mk.injEq, List.cons.injEq, Value.int.injEq, Value.slice.injEq, true_and, and_true] at eu ev
  obtain ⟨rfl, ⟨rfl, rfl, rfl⟩, rfl, rfl, rfl, rfl⟩ := eu
  obtain ⟨rfl, ⟨rfl, rfl, rfl⟩, rfl, rfl, rfl, rfl⟩ := ev
  have bw : Below w.heap.size w W2 := B0.out.then_below B2
  have D0 := hide bw
  have RR0 := hide (kept_block R0.out B2)
  have P50 := hide p5
  have P60 := hide p6
  have U1 := hide hu1
  have U2 := hide hu2
  have V1 := hide hv1
  have V2 := hide hv2
  have L0 := hide (NL.nil W2.heap.size W2)
  have n5 : Hid (w.heap.size + 1 + 1 ≠ g5) := hide (by omega)
  have n6 : Hid (w.heap.size + 1 + 1 ≠ g6) := hide (by omega)
  have l5 : Hid (w.heap.size ≤ g5) := hide (by omega)
  have l6 : Hid (w.heap.size ≤ g6) := hide (by omega)
  have g5l : Hid (g5 < W2.heap.size) := (Array.getElem?_eq_some_iff.1 p5).1
  have g6l : Hid (g6 < W2.heap.size) := (Array.getElem?_eq_some_iff.1 p6).1
  have rlt : Hid (w.heap.size + 1 + 1 < W2.heap.size) := (Array.getElem?_eq_some_iff.1 RR0.out).1
  have ww : Hid (W2.heap.size ≤ W2.heap.size) := Nat.le_refl _
  clear T S0 p5 p6 hu1 hu2 hv1 hv2 h5 h6 B2 R0 B0 bw q1 q2 lw
  go_wp2_with fail
  go_loopw [7] (fun pv wr => ∃ (qs : List Nat) (lu ll hu hl : Nat) (a1 : Int) (a2 : Option Addr) (a3 a4 : Nat) (b1 : Int) (b2 : Option Addr) (b3 b4 : Nat) (c1 : Int) (c2 : Option Addr) (c3 c4 : Nat) (f1 : Int) (f2 : Option Addr) (f3 f4 : Nat), Hid (NL qs W2.heap.size wr pv) ∧ Hid (M.back qs (M.smp lu ll hu hl) = (N, E)) ∧ Hid (M.Bt lu ll hu hl) ∧ Hid (lu ≤ X ∧ ll ≤ X ∧ hu ≤ X ∧ hl ≤ X) ∧ Hid (M.Few Kb qs.length lu ll hl) ∧
      Hid (Den wr (.agg #[.int .u64 a1, .slice a2 a3 a4]) lu) ∧ Hid (Den wr (.agg #[.int .u64 b1, .slice b2 b3 b4]) ll) ∧ Hid (Den wr (.agg #[.int .u64 c1, .slice c2 c3 c4]) hu) ∧ Hid (Den wr (.agg #[.int .u64 f1, .slice f2 f3 f4]) hl) ∧
      Hid (wr.heap[g5]? = some (.cells #[.int .u64 a1, .slice a2 a3 a4, .int .u64 b1, .slice b2 b3 b4] 105 (0, 0))) ∧ Hid (wr.heap[g6]? = some (.cells #[.int .u64 c1, .slice c2 c3 c4, .int .u64 f1, .slice f2 f3 f4] 105 (0, 0))) ∧ Hid (wr.heap[w.heap.size + 1 + 1]? = some (.cells #[.bool false, .int .u64 0, .slice none 0 0, .int .u64 0, .slice none 0 0] 45 (0, 0))) ∧ Hid (Below w.heap.size w wr) ∧ Hid (W2.heap.size ≤ wr.heap.size)) (fun pv _ => 2 * Kb + 2 - lenOf pv)
  case atStart => exact ⟨[], lu0, ll0, hu0, hl0, _, _, _, _, _, _, _, _, _, _, _, _, _, _, _, _, L0, NE0, BT0, BD0, FW0, U1, U2, V1, V2, P50, P60, RR0, D0, ww⟩
  case round =>
    clear P50 P60 U1 U2 V1 V2 L0 RR0 D0 ww NE0 BT0 BD0 FW0
    obtain ⟨qs, lu, ll, hu, hl, a1, a2, a3, a4, b1, b2, b3, b4, c1, c2, c3, c4, f1, f2, f3, f4, LL, HB, BT, BD, FW, A, Bd, C, F, P5, P6, RR, DD, WW⟩ := hrel
    obtain ⟨sa, sc, rfl⟩ := LL.out.shape
    have fw := FW.out.le
    have hlen : qs.length ≤ 800000001 := by omega
    replace fw := hide fw
    have ll0 : ll ≠ 0 := Nat.ne_of_gt BT.out.1
    have kX2 : Hid ((X : Int) < M.BB ^ K) := BB_lt (by omega) kXH.out
    have QD := hide (fun W (h : Below wr.heap.size wr W) => divMod_calls W _ _ lu ll K (A.out.below h) (Bd.out.below h) (BB_lt BD.out.1 kX2.out) ll0 hK)
    obtain ⟨⟨i0, i1, i2, i3⟩, -⟩ := box4 P5.out
    go_upto_region 4 with (go_at_call 83; refine (QD.out _ (Below.refl _ _)).mono ?_; rintro e wa ⟨⟨q, r, rfl, hq, hr⟩, ba⟩; obtain ⟨q1, q2, q3, q4, rfl⟩ := hq.shape2; obtain ⟨r1, r2, r3, r4, rfl⟩ := hr.shape2)
    obtain ⟨p8, p9, hq, hr, h8, h9, B3⟩ := tb_alloc ba hq hr
    generalize hg8 : wa.heap.size = g8 at *
    generalize hg9 : g8 + 1 = g9 at *
    generalize (wa.alloc (.cells #[.int .u64 q1, .slice q2 q3 q4] 43)).alloc (.cells #[.int .u64 r1, .slice r2 r3 r4] 43) = W3 at *
    have D3 := hide (DD.out.then_below B3)
    have R3 := hide (kept_block RR.out B3)
    have P53 := hide (kept_block P5.out B3)
    have P63 := hide (kept_block P6.out B3)
    have B3' := hide (Bd.out.below B3)
    have C3 := hide (C.out.below B3)
    have F3 := hide (F.out.below B3)
    have L3 := hide (LL.out.below B3)
    have W3' : Hid (W2.heap.size ≤ W3.heap.size) := Nat.le_trans WW.out B3.size
    have P8 := hide p8
    have P9 := hide p9
    have Q := hide hq
    have R := hide hr
    have o8 : Hid ((Value.slice sa qs.length sc).ownBlock ≠ some g8) := fun e => by have := LL.out.lt _ e; omega
    have o9 : Hid ((Value.slice sa qs.length sc).ownBlock ≠ some g9) := fun e => by have := LL.out.lt _ e; omega
    have k8 : Hid (W2.heap.size ≤ g8) := Nat.le_trans WW.out h8
    have k9 : Hid (W2.heap.size ≤ g9) := Nat.le_trans WW.out h9
    clear QD A Bd C F LL P5 P6 RR DD WW p8 p9 hq hr h8 h9 B3 i0 i1 i2 i3 ba hg8 hg9
    have hw : lu / ll ≤ lu := Nat.div_le_self _ _
    have hw1 : lu / ll + 1 ≤ 2 * X := by
      have h1 := BD.out.1
      have h2 := BD.out.2.1
      have h3 := BT.out.1
      omega
    have hx1 : 1 ≤ 2 * X := Nat.le_trans (Nat.le_add_left 1 _) hw1
    have QA := hide (fun W v (h : Below W3.heap.size W3 W) (hv : Den W v 1) => natAdd_calls W _ v (lu / ll) 1 K (Q.out.below h) hv (BB_lt (Nat.le_trans hw BD.out.1) kX2.out) (BB_lt hx1 kXH.out) hK)
    obtain ⟨i0, i1, -, -⟩ := box_facts P8.out
    have S0 := hide (And.intro i0 (And.intro i1 (Below.refl W3.heap.size W3)))
    clear i0 i1
    go_cut [10] (fun sx wx => ∃ (gx : Nat) (q1 : Int) (q2 : Option Addr) (q3 q4 : Nat), sx = .pointer (some ⟨gx, 0, none⟩) ∧ Hid (OneB W3 wx gx q1 q2 q3 q4 (lu / ll + 1)))
    case first =>
      go_region_held3
        (fun w' => w'.cell? ⟨g8, 0, none⟩ = some (.int .u64 q1) ∧ w'.cell? ⟨g8, 1, none⟩ = some (.slice q2 q3 q4) ∧ Below W3.heap.size W3 w')
        (exact cells2_keep (w := W3) S0.out (by first | with_reducible exact bel_drew bel_refl | with_reducible exact bel_drew (bel_alloc (bel_refl)) | with_reducible exact bel_drew (bel_alloc (bel_alloc (bel_refl))) | with_reducible exact bel_alloc (bel_drew bel_refl) | with_reducible exact bel_alloc (bel_alloc (bel_drew bel_refl)) | with_reducible exact Ba | with_reducible exact bel_alloc (Ba) | with_reducible exact bel_alloc (bel_alloc (Ba)) | with_reducible exact bw | with_reducible exact bel_alloc (bw) | with_reducible exact bel_set2 (bw) (by omega) | with_reducible exact bel_alloc (bel_alloc (bw)) | with_reducible exact bel_set2 (bel_alloc (bw)) (by omega) | with_reducible exact bel_alloc (bel_set2 (bw) (by omega)) | with_reducible exact bel_set2 (bel_set2 (bw) (by omega)) (by omega)))
        (first
          | (go_at_call 53; refine (word_calls _ 1 (by decide)).mono ?_; rintro e wa ⟨rfl, ba⟩; have Ba : Below W3.heap.size W3 wa := Below.then_below (by first | with_reducible exact bel_drew bel_refl | with_reducible exact bel_drew (bel_alloc (bel_refl)) | with_reducible exact bel_drew (bel_alloc (bel_alloc (bel_refl))) | with_reducible exact bel_alloc (bel_drew bel_refl) | with_reducible exact bel_alloc (bel_alloc (bel_drew bel_refl))) ba; have sa : W3.heap.size ≤ wa.heap.size := Ba.size; (first | (have AZ0 : wa.heap[W3.heap.size]? = some (.cells #[.int .u64 0, .slice none 0 0] 43 (0, 0)) := kept_block (by first | exact heap_alloc_new W3 (.cells #[.int .u64 0, .slice none 0 0] 43) | exact (two_new W3 (.cells #[.int .u64 0, .slice none 0 0] 43) (.cells #[.int .u64 0, .slice none 0 0] 43)).1) ba; have lAZ0 : W3.heap.size < wa.heap.size := (Array.getElem?_eq_some_iff.1 AZ0).1; have nAZ0 : W3.heap.size ≠ wa.heap.size := Nat.ne_of_lt lAZ0; have mAZ0 : wa.heap.size ≠ W3.heap.size := Nat.ne_of_gt lAZ0) | skip))
          | (go_at_call 84; refine (QA.out _ _ (by first | with_reducible exact Ba | with_reducible exact bel_alloc (Ba) | with_reducible exact bel_alloc (bel_alloc (Ba))) (den_word _ 1 (by decide))).mono ?_; rintro e wb ⟨⟨rb, rfl, hb⟩, bb⟩; obtain ⟨s1, s2, s3, s4, rfl⟩ := hb.shape2; have BAB : Below wa.heap.size wa wb := Below.then_below (by first | with_reducible exact bel_refl | with_reducible exact bel_alloc (bel_refl) | with_reducible exact bel_alloc (bel_alloc (bel_refl))) bb; have bw : Below W3.heap.size W3 wb := Ba.then_below BAB; have sb : wa.heap.size ≤ wb.heap.size := BAB.size; have sab : W3.heap.size ≤ wb.heap.size := bw.size; (first | (have AK0 := kept_block AZ0 BAB; obtain ⟨kk00, kk01, jk00, jk01⟩ := box_facts AK0; have lAK0 := (Array.getElem?_eq_some_iff.1 AK0).1; have nAK0 := Nat.ne_of_lt lAK0; have mAK0 := Nat.ne_of_gt lAK0) | skip); (first | (have AY0 : wb.heap[wa.heap.size]? = some (.cells #[.int .u64 0, .slice none 0 0] 43 (0, 0)) := kept_block (by first | with_reducible exact heap_alloc_new wa (.cells #[.int .u64 0, .slice none 0 0] 43) | with_reducible exact (two_new wa (.cells #[.int .u64 0, .slice none 0 0] 43) (.cells #[.int .u64 0, .slice none 0 0] 43)).1) bb; obtain ⟨ty00, ty01, fy00, fy01⟩ := box_facts AY0; have lAY0 : wa.heap.size < wb.heap.size := (Array.getElem?_eq_some_iff.1 AY0).1; have nAY0 : wa.heap.size ≠ wb.heap.size := Nat.ne_of_lt lAY0; have mAY0 : wb.heap.size ≠ wa.heap.size := Nat.ne_of_gt lAY0) | skip)))
      all_goals (go_wp2_with fail; go_meet)
      all_goals first
        | with_reducible exact ⟨_, s1, s2, s3, s4, rfl, hide (ob_alloc bw hb)⟩
        | with_reducible exact ⟨_, s1, s2, s3, s4, rfl, hide (ob_set bw hb AK0 (by omega))⟩
        | with_reducible exact ⟨_, s1, s2, s3, s4, rfl, hide (ob_set bw hb AY0 (by omega))⟩
    case rest =>
    obtain ⟨g10, t1, t2, t3, t4, rfl, T⟩ := hcut
    rename World => W4
    obtain ⟨p10, ht, h10, B4⟩ := T.out
    have D4 := hide (D3.out.then_below B4)
    have R4 := hide (kept_block R3.out B4)
    have P54 := hide (kept_block P53.out B4)
    have P64 := hide (kept_block P63.out B4)
    have P84 := hide (kept_block P8.out B4)
    have P94 := hide (kept_block P9.out B4)
    have LL4 := hide (B3'.out.below B4)
    have C4 := hide (C3.out.below B4)
    have F4 := hide (F3.out.below B4)
    have L4 := hide (L3.out.below B4)
    have Q4 := hide (Q.out.below B4)
    have RR4 := hide (R.out.below B4)
    have W4' : Hid (W2.heap.size ≤ W4.heap.size) := Nat.le_trans W3'.out B4.size
    have P10 := hide p10
    have NX := hide ht
    clear T S0 QA D3 R3 P53 P63 P8 P9 B3' C3 F3 L3 Q R W3' p10 ht h10 B4
    have QM := hide (fun W (h : Below W4.heap.size W4 W) => natMul_calls W _ _ (lu / ll + 1) hl K (NX.out.below h) (F4.out.below h) (BB_lt hw1 kXH.out) (BB_lt BD.out.2.2.2 kX2.out) hK)
    have QC := hide (fun W x c (h : Below W4.heap.size W4 W) (hx : Den W x ((lu / ll + 1) * hl)) (hc : M.cmp (((lu / ll + 1) * hl : Nat) : Int) (hu : Int) = c) => natCmp_c W x _ _ hu c hc hx (C4.out.below h))
    obtain ⟨i0, i1, -, -⟩ := box_facts P10.out
    obtain ⟨⟨j0, j1, j2, j3⟩, -⟩ := box4 P64.out
    have S0 := hide (And.intro i0 (And.intro i1 (And.intro j0 (And.intro j1 (And.intro j2 (And.intro j3 (Below.refl W4.heap.size W4)))))))
    clear i0 i1 j0 j1 j2 j3
    by_cases hb : (lu / ll + 1) * hl < hu
    · have hc : Hid (M.cmp (((lu / ll + 1) * hl : Nat) : Int) (hu : Int) = -1) := M.cmp_lt (by exact_mod_cast hb)
      have hNE : Hid (M.back qs (lu / ll + 1, 1) = (N, E)) := by
        have := HB.out
        rw [M.smp_top hb] at this
        exact this
      have QH := hide (fun W (h : Below W4.heap.size W4 W) => chain_calls W _ _ (lu / ll + 1) qs W2.heap.size K (2 * X) (NX.out.below h) (L4.out.below h) (Nat.succ_pos _) N E hNE.out cop.out.2 kXH.out hK (by omega) (HT.out.below (D4.out.then_below h)))
      clear HB hb
      go_upto_region 5 with fail
      go_region_held3
        (fun w' => w'.cell? ⟨g10, 0, none⟩ = some (.int .u64 t1) ∧ w'.cell? ⟨g10, 1, none⟩ = some (.slice t2 t3 t4) ∧ w'.cell? ⟨g6, 0, none⟩ = some (.int .u64 c1) ∧ w'.cell? ⟨g6, 1, none⟩ = some (.slice c2 c3 c4) ∧ w'.cell? ⟨g6, 2, none⟩ = some (.int .u64 f1) ∧ w'.cell? ⟨g6, 3, none⟩ = some (.slice f2 f3 f4) ∧ Below W4.heap.size W4 w')
        (exact cells6_keep (w := W4) S0.out (by first | with_reducible exact bel_drew bel_refl | with_reducible exact Ba | with_reducible exact bw))
        (first
          | (go_at_call 56; refine (QM.out _ (by first | with_reducible exact bel_drew bel_refl | with_reducible exact bel_drew (bel_alloc (bel_refl)) | with_reducible exact bel_drew (bel_alloc (bel_alloc (bel_refl))) | with_reducible exact bel_alloc (bel_drew bel_refl) | with_reducible exact bel_alloc (bel_alloc (bel_drew bel_refl)))).mono ?_; rintro e wa ⟨⟨ra, rfl, ha⟩, ba⟩; obtain ⟨m1, m2, m3, m4, rfl⟩ := ha.shape2; have Ba : Below W4.heap.size W4 wa := Below.then_below (by first | with_reducible exact bel_drew bel_refl | with_reducible exact bel_drew (bel_alloc (bel_refl)) | with_reducible exact bel_drew (bel_alloc (bel_alloc (bel_refl))) | with_reducible exact bel_alloc (bel_drew bel_refl) | with_reducible exact bel_alloc (bel_alloc (bel_drew bel_refl))) ba)
          | (go_at_call 74; refine (QC.out _ _ _ Ba ha hc.out).mono ?_; rintro e wb ⟨rfl, bb⟩; have bw : Below W4.heap.size W4 wb := Ba.then_below bb))
      obtain ⟨i0, i1, -, -⟩ := box_facts (kept_block P10.out bw)
      replace bw := hide bw
      clear ha ba bb Ba
      go_wp2_with (go_at_call 85; refine (QH.out _ bw.out).mono ?_; rintro e wc ⟨⟨r, rfl, hr⟩, bc⟩; rw [cop.out.1, Nat.div_one, Nat.div_one] at hr; obtain ⟨ng, nn, dd, hrd, hLow⟩ := Low.shape hr; obtain ⟨p1, p2, p3, p4, q1, q2, q3, q4, rfl, dn, dl⟩ := hrd.shape; have Bc : Below W4.heap.size W4 wc := bw.out.then_below bc; have R2 := hide (kept_block R4.out Bc); obtain ⟨⟨z0, z1, z2, z3, z4⟩, e0, e1, e2, e3, e4⟩ := ratBox R2.out)
      refine bodyPost_ret (v := .agg #[.bool ng, .int .u64 p1, .slice p2 p3 p4, .int .u64 q1, .slice q2 q3 q4]) (by simp [results, Tryz.results40, go_sem, z0, z1, z2, z3, z4]) rfl ?_
      have q := set5 wc (w.heap.size + 1 + 1) (.bool ng) (.int .u64 p1) (.slice p2 p3 p4) (.int .u64 q1) (.slice q2 q3 q4)
      exact ⟨⟨_, rfl, hLow.out _ _ (DenR.make dn dl R2.out (nopair5 _ _ _ _ _ _ _ _ _) q)⟩, (D4.out.then_below Bc).then_grown q (by rintro g ⟨⟩; omega)⟩
    · obtain ⟨c, hce⟩ : ∃ c, M.cmp (((lu / ll + 1) * hl : Nat) : Int) (hu : Int) = c := ⟨_, rfl⟩
      have hc0 : ¬ c < 0 := by
        rw [← hce]
        have h' : ¬ (((lu / ll + 1) * hl : Nat) : Int) < (hu : Int) := fun h => hb (by exact_mod_cast h)
        unfold M.cmp
        rw [if_neg h']
        split <;> decide
      have hc := hide hce
      obtain ⟨wv, rv, av, e1, e2, e3, e4, e5, k1, k2, k3, k4⟩ := M.step_parts BT.out hb
      have HB2 : Hid (M.back (qs ++ [lu / ll]) (M.smp hl (hu - lu / ll * hl) ll (lu % ll)) = (N, E)) := by
        have := HB.out
        rw [M.smp_step BT.out.1 hb] at this
        show _ = _
        rw [← this]
        exact M.back_snoc _ _ _ _
      have BT2 : Hid (M.Bt hl (hu - lu / ll * hl) ll (lu % ll)) := BT.out.step hb
      have FW2 : Hid (M.Few Kb (qs ++ [lu / ll]).length hl (hu - lu / ll * hl) (lu % ll)) := by
        show M.Few _ _ _ _ _
        rw [List.length_append]
        exact M.Few.step BT.out hb FW.out
      have hsub : lu / ll * hl ≤ hu := by rw [e1]; omega
      have BD2 : Hid (hl ≤ X ∧ hu - lu / ll * hl ≤ X ∧ ll ≤ X ∧ lu % ll ≤ X) := by
        have h2 := BD.out.2.1
        have h4 := BD.out.2.2.2
        rw [e1, e2, e3]
        exact ⟨h4, by omega, h2, by omega⟩
      clear e1 e2 e3 e4 e5 k1 k2 k3 k4 hce hb HB
      have hwX : lu / ll ≤ X := Nat.le_trans hw BD.out.1
      generalize lu / ll = wl at *
      generalize lu % ll = rl at *
      go_upto_region 5 with fail
      go_region_held3
        (fun w' => w'.cell? ⟨g10, 0, none⟩ = some (.int .u64 t1) ∧ w'.cell? ⟨g10, 1, none⟩ = some (.slice t2 t3 t4) ∧ w'.cell? ⟨g6, 0, none⟩ = some (.int .u64 c1) ∧ w'.cell? ⟨g6, 1, none⟩ = some (.slice c2 c3 c4) ∧ w'.cell? ⟨g6, 2, none⟩ = some (.int .u64 f1) ∧ w'.cell? ⟨g6, 3, none⟩ = some (.slice f2 f3 f4) ∧ Below W4.heap.size W4 w')
        (exact cells6_keep (w := W4) S0.out (by first | with_reducible exact bel_drew bel_refl | with_reducible exact Ba | with_reducible exact bw))
        (first
          | (go_at_call 56; refine (QM.out _ (by first | with_reducible exact bel_drew bel_refl | with_reducible exact bel_drew (bel_alloc (bel_refl)) | with_reducible exact bel_drew (bel_alloc (bel_alloc (bel_refl))) | with_reducible exact bel_alloc (bel_drew bel_refl) | with_reducible exact bel_alloc (bel_alloc (bel_drew bel_refl)))).mono ?_; rintro e wa ⟨⟨ra, rfl, ha⟩, ba⟩; obtain ⟨m1, m2, m3, m4, rfl⟩ := ha.shape2; have Ba : Below W4.heap.size W4 wa := Below.then_below (by first | with_reducible exact bel_drew bel_refl | with_reducible exact bel_drew (bel_alloc (bel_refl)) | with_reducible exact bel_drew (bel_alloc (bel_alloc (bel_refl))) | with_reducible exact bel_alloc (bel_drew bel_refl) | with_reducible exact bel_alloc (bel_alloc (bel_drew bel_refl))) ba)
          | (go_at_call 74; refine (QC.out _ _ _ Ba ha hc.out).mono ?_; rintro e wb ⟨rfl, bb⟩; have bw : Below W4.heap.size W4 wb := Ba.then_below bb))
      obtain ⟨i0, i1, -, -⟩ := box_facts (kept_block P84.out bw)
      obtain ⟨xs, hX, hE⟩ := L4.out
      have B5 := bw.then_below (alloc_below wb (.cells #[.int .u64 q1, .slice q2 q3 q4] 43))
      have X5 := hide (hX.below B5)
      have E5 : Hid (∀ i, i < qs.length → ∃ x s c q, xs[i * 2]? = some (.int .u64 x) ∧ xs[i * 2 + 1]? = some (.slice s c q) ∧ Den (wb.alloc (.cells #[.int .u64 q1, .slice q2 q3 q4] 43)) (.agg #[.int .u64 x, .slice s c q]) (qs.getD i 0)) := fun i hi => by
        obtain ⟨x, s, c, q, e1, e2, dd⟩ := hE i hi
        exact ⟨x, s, c, q, e1, e2, dd.below B5⟩
      have C5 := hide (box_facts (heap_alloc_new wb (.cells #[.int .u64 q1, .slice q2 q3 q4] 43)))
      have D5 := hide (D4.out.then_below B5)
      have R5 := hide (kept_block R4.out B5)
      have P55 := hide (kept_block P54.out B5)
      have P65 := hide (kept_block P64.out B5)
      have P85 := hide (kept_block P84.out B5)
      have P95 := hide (kept_block P94.out B5)
      have LL5 := hide (LL4.out.below B5)
      have C5' := hide (C4.out.below B5)
      have F5 := hide (F4.out.below B5)
      have Q5 := hide (Q4.out.below B5)
      have RR5 := hide (RR4.out.below B5)
      have W5 : Hid (W2.heap.size ≤ (wb.alloc (.cells #[.int .u64 q1, .slice q2 q3 q4] 43)).heap.size) := Nat.le_trans W4'.out B5.size
      have k85 : Hid (g8 ≠ wb.heap.size) := by
        have h1 := (Array.getElem?_eq_some_iff.1 P84.out).1
        have h2 := bw.size
        show g8 ≠ _
        omega
      clear S0 QM QC D4 R4 P54 P64 P84 P94 LL4 C4 F4 L4 Q4 RR4 W4' P10 NX hX hE B5 bw ha ba bb Ba
      go_wp2_with (at_builtin; refine wpList_append_nat _ rfl _ _ rfl W2.heap.size _ _ _ rfl X5.out _ _ q1 q2 q3 q4 rfl C5.out.1 C5.out.2.1 (by omega) W5.out ?_)
      intro v' w' hv' hg'
      have ng : ∀ g, (Value.slice sa qs.length sc).ownBlock = some g → W2.heap.size ≤ g := fun g hg => (X5.out.1.lt g hg).1
      have nb : ∀ {g : Nat} {o : Obj}, (wb.alloc (.cells #[.int .u64 q1, .slice q2 q3 q4] 43)).heap[g]? = some o → (Value.slice sa qs.length sc).ownBlock ≠ some g → w'.heap[g]? = some o := fun {g o} h hne => (hg'.block g (Array.getElem?_eq_some_iff.1 h).1 (fun e => hne e.symm)).trans h
      have D7 := hide (D5.out.then_grown hg' (fun g hg => by have h1 := ng g hg; have h2 := rlt.out; omega))
      have P57 := hide (nb P55.out (fun e => by have h1 := ng _ e; have h2 := g5l.out; omega))
      have P67 := hide (nb P65.out (fun e => by have h1 := ng _ e; have h2 := g6l.out; omega))
      have P87 := hide (nb P85.out o8.out)
      have P97 := hide (nb P95.out o9.out)
      have R7 := hide (nb R5.out (fun e => by have h1 := ng _ e; have h2 := rlt.out; omega))
      have LL7 := hide (Den.own X5.out LL5.out hg')
      have C7 := hide (Den.own X5.out C5'.out hg')
      have F7 := hide (Den.own X5.out F5.out hg')
      have Q7 := hide (Den.own X5.out Q5.out hg')
      have RR7 := hide (Den.own X5.out RR5.out hg')
      have S7 := hide (NL.push X5.out E5.out Q5.out hv' hg')
      have W7 : Hid (W2.heap.size ≤ w'.heap.size) := Nat.le_trans W5.out hg'.size
      clear ng nb D5 P55 P65 P85 P95 R5 LL5 C5' F5 Q5 RR5 X5 E5 C5 W5 k85 hv' hg' i0 i1 xs
      have QM := hide (fun W (h : Below w'.heap.size w' W) => natMul_calls W _ _ wl hl K (Q7.out.below h) (F7.out.below h) (BB_lt hwX kX2.out) (BB_lt BD.out.2.2.2 kX2.out) hK)
      have QS := hide (fun W x (h : Below w'.heap.size w' W) (hx : Den W x (wl * hl)) => natSub_calls W _ x hu (wl * hl) K (C7.out.below h) hx (BB_lt BD.out.2.2.1 kX2.out) hsub hK)
      obtain ⟨i0, i1, -, -⟩ := box_facts P87.out
      obtain ⟨⟨j0, j1, j2, j3⟩, -⟩ := box4 P67.out
      have S0 := hide (And.intro i0 (And.intro i1 (And.intro j0 (And.intro j1 (And.intro j2 (And.intro j3 (Below.refl w'.heap.size w')))))))
      clear i0 i1 j0 j1 j2 j3
      obtain ⟨va, vc, ev⟩ := S7.out.shape
      obtain ⟨L, hL⟩ : ∃ L, (qs ++ [wl]).length = L := ⟨_, rfl⟩
      rw [hL] at ev
      subst ev
      have hL2 : Hid (L = qs.length + 1) := by
        show _ = _
        rw [← hL, List.length_append]
        rfl
      clear hL
      go_upto_region 8 with fail
      go_cut [11] (fun sx wx => ∃ (gx : Nat) (q1 : Int) (q2 : Option Addr) (q3 q4 : Nat), sx = .pointer (some ⟨gx, 0, none⟩) ∧ Hid (OneB w' wx gx q1 q2 q3 q4 (hu - wl * hl)))
      case first =>
        go_region_held3
          (fun ww => ww.cell? ⟨g8, 0, none⟩ = some (.int .u64 q1) ∧ ww.cell? ⟨g8, 1, none⟩ = some (.slice q2 q3 q4) ∧ ww.cell? ⟨g6, 0, none⟩ = some (.int .u64 c1) ∧ ww.cell? ⟨g6, 1, none⟩ = some (.slice c2 c3 c4) ∧ ww.cell? ⟨g6, 2, none⟩ = some (.int .u64 f1) ∧ ww.cell? ⟨g6, 3, none⟩ = some (.slice f2 f3 f4) ∧ Below w'.heap.size w' ww)
          (exact cells6_keep (w := w') S0.out (by first | with_reducible exact bel_drew bel_refl | with_reducible exact bel_drew (bel_alloc (bel_refl)) | with_reducible exact bel_drew (bel_alloc (bel_alloc (bel_refl))) | with_reducible exact bel_alloc (bel_drew bel_refl) | with_reducible exact bel_alloc (bel_alloc (bel_drew bel_refl)) | with_reducible exact Ba | with_reducible exact bel_alloc (Ba) | with_reducible exact bel_alloc (bel_alloc (Ba)) | with_reducible exact bw | with_reducible exact bel_alloc (bw) | with_reducible exact bel_set2 (bw) (by omega) | with_reducible exact bel_alloc (bel_alloc (bw)) | with_reducible exact bel_set2 (bel_alloc (bw)) (by omega) | with_reducible exact bel_alloc (bel_set2 (bw) (by omega)) | with_reducible exact bel_set2 (bel_set2 (bw) (by omega)) (by omega)))
          (first
            | (go_at_call 56; refine (QM.out _ (by first | with_reducible exact bel_drew bel_refl | with_reducible exact bel_drew (bel_alloc (bel_refl)) | with_reducible exact bel_drew (bel_alloc (bel_alloc (bel_refl))) | with_reducible exact bel_alloc (bel_drew bel_refl) | with_reducible exact bel_alloc (bel_alloc (bel_drew bel_refl)))).mono ?_; rintro e wa ⟨⟨ra, rfl, ha⟩, ba⟩; obtain ⟨m1, m2, m3, m4, rfl⟩ := ha.shape2; have Ba : Below w'.heap.size w' wa := Below.then_below (by first | with_reducible exact bel_drew bel_refl | with_reducible exact bel_drew (bel_alloc (bel_refl)) | with_reducible exact bel_drew (bel_alloc (bel_alloc (bel_refl))) | with_reducible exact bel_alloc (bel_drew bel_refl) | with_reducible exact bel_alloc (bel_alloc (bel_drew bel_refl))) ba; have sa : w'.heap.size ≤ wa.heap.size := Ba.size; (first | (have AZ0 : wa.heap[w'.heap.size]? = some (.cells #[.int .u64 0, .slice none 0 0] 43 (0, 0)) := kept_block (by first | exact heap_alloc_new w' (.cells #[.int .u64 0, .slice none 0 0] 43) | exact (two_new w' (.cells #[.int .u64 0, .slice none 0 0] 43) (.cells #[.int .u64 0, .slice none 0 0] 43)).1) ba; have lAZ0 : w'.heap.size < wa.heap.size := (Array.getElem?_eq_some_iff.1 AZ0).1; have nAZ0 : w'.heap.size ≠ wa.heap.size := Nat.ne_of_lt lAZ0; have mAZ0 : wa.heap.size ≠ w'.heap.size := Nat.ne_of_gt lAZ0) | skip))
            | (go_at_call 86; refine (QS.out _ _ (by first | with_reducible exact Ba | with_reducible exact bel_alloc (Ba) | with_reducible exact bel_alloc (bel_alloc (Ba))) (ha.below (by first | with_reducible exact bel_refl | with_reducible exact bel_alloc (bel_refl) | with_reducible exact bel_alloc (bel_alloc (bel_refl))))).mono ?_; rintro e wb ⟨⟨rb, rfl, hb⟩, bb⟩; obtain ⟨s1, s2, s3, s4, rfl⟩ := hb.shape2; have BAB : Below wa.heap.size wa wb := Below.then_below (by first | with_reducible exact bel_refl | with_reducible exact bel_alloc (bel_refl) | with_reducible exact bel_alloc (bel_alloc (bel_refl))) bb; have bw : Below w'.heap.size w' wb := Ba.then_below BAB; have sb : wa.heap.size ≤ wb.heap.size := BAB.size; have sab : w'.heap.size ≤ wb.heap.size := bw.size; (first | (have AK0 := kept_block AZ0 BAB; obtain ⟨kk00, kk01, jk00, jk01⟩ := box_facts AK0; have lAK0 := (Array.getElem?_eq_some_iff.1 AK0).1; have nAK0 := Nat.ne_of_lt lAK0; have mAK0 := Nat.ne_of_gt lAK0) | skip); (first | (have AY0 : wb.heap[wa.heap.size]? = some (.cells #[.int .u64 0, .slice none 0 0] 43 (0, 0)) := kept_block (by first | with_reducible exact heap_alloc_new wa (.cells #[.int .u64 0, .slice none 0 0] 43) | with_reducible exact (two_new wa (.cells #[.int .u64 0, .slice none 0 0] 43) (.cells #[.int .u64 0, .slice none 0 0] 43)).1) bb; obtain ⟨ty00, ty01, fy00, fy01⟩ := box_facts AY0; have lAY0 : wa.heap.size < wb.heap.size := (Array.getElem?_eq_some_iff.1 AY0).1; have nAY0 : wa.heap.size ≠ wb.heap.size := Nat.ne_of_lt lAY0; have mAY0 : wb.heap.size ≠ wa.heap.size := Nat.ne_of_gt lAY0) | skip)))
        all_goals (go_wp2_with fail; go_meet)
        all_goals first
          | with_reducible exact ⟨_, s1, s2, s3, s4, rfl, hide (ob_alloc bw hb)⟩
          | with_reducible exact ⟨_, s1, s2, s3, s4, rfl, hide (ob_set bw hb AK0 (by omega))⟩
          | with_reducible exact ⟨_, s1, s2, s3, s4, rfl, hide (ob_set bw hb AY0 (by omega))⟩
      case rest =>
      obtain ⟨g11, z1, z2, z3, z4, rfl, T⟩ := hcut
      rename World => W8
      obtain ⟨p11, hz, h11, B8⟩ := T.out
      have P58 := kept_block P57.out B8
      have P68 := kept_block P67.out B8
      obtain ⟨⟨i0, i1, i2, i3⟩, ei0, ei1, ei2, ei3⟩ := box4 P58
      obtain ⟨⟨j0, j1, j2, j3⟩, ej0, ej1, ej2, ej3⟩ := box4 P68
      obtain ⟨c0, c1, -, -⟩ := box_facts (kept_block P97.out B8)
      obtain ⟨c2', c3', -, -⟩ := box_facts p11
      have ny : g5 ≠ g6 := NE.out
      have ny' : g6 ≠ g5 := ny.symm
      obtain ⟨qq, q5, q6⟩ := two_store4 P58 P68 ny (.int .u64 f1) (.slice f2 f3 f4) (.int .u64 z1) (.slice z2 z3 z4) (.int .u64 b1) (.slice b2 b3 b4) (.int .u64 r1) (.slice r2 r3 r4)
      have KF := hide (qq.den (F7.out.below B8))
      have KZ := hide (qq.den hz)
      have KL := hide (qq.den (LL7.out.below B8))
      have KR := hide (qq.den (RR7.out.below B8))
      have KN := hide (qq.nl (S7.out.below B8) (S7.out.far g5 g5l.out) (S7.out.far g6 g6l.out))
      have RX := hide (qq.block (kept_block R7.out B8) n5.out n6.out)
      have DX := hide (qq.bel (D7.out.then_below B8) l5.out l6.out)
      have WX : Hid (W2.heap.size ≤ W8.heap.size) := Nat.le_trans W7.out B8.size
      replace q5 := hide q5
      replace q6 := hide q6
      have fwo := fw.out
      clear qq T S0 QM QS P57 P67 P87 P97 R7 LL7 C7 F7 Q7 RR7 S7 W7 D7 hz h11 B8 P58 P68 p11
      have n95 : g9 ≠ g5 := by have h1 := g5l.out; have h2 := k9.out; omega
      have n59 : g5 ≠ g9 := n95.symm
      go_upto_region 9 with fail
      go_region
      all_goals (go_wp2_with fail; go_roundw)
      all_goals first
        | exact ⟨qs ++ [wl], hl, hu - wl * hl, ll, rl, f1, f2, f3, f4, z1, z2, z3, z4, b1, b2, b3, b4, r1, r2, r3, r4, hide (KN.out.below (Below.refl _ _).drew), HB2, BT2, BD2, FW2, hide (KF.out.below (Below.refl _ _).drew), hide (KZ.out.below (Below.refl _ _).drew), hide (KL.out.below (Below.refl _ _).drew), hide (KR.out.below (Below.refl _ _).drew), hide (kept_block q5.out (Below.refl _ _).drew), hide (kept_block q6.out (Below.refl _ _).drew), hide (kept_block RX.out (Below.refl _ _).drew), hide (DX.out.then_below (Below.refl _ _).drew), (by show _ ≤ _; simpa [World.setCell, World.drew] using WX.out)⟩
        | exact ⟨qs ++ [wl], hl, hu - wl * hl, ll, rl, f1, f2, f3, f4, z1, z2, z3, z4, b1, b2, b3, b4, r1, r2, r3, r4, KN, HB2, BT2, BD2, FW2, KF, KZ, KL, KR, q5, q6, RX, DX, (by show _ ≤ _; simpa [World.setCell] using WX.out)⟩
        | (have hl2 := hL2.out; simp only [lenOf]; omega)
end Go.Proofs.YtebnjolkolobhaaGreatDoor
