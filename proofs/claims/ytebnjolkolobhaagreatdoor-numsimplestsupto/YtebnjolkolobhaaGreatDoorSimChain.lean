/-
  Package num: from the last whole part back to the first (chain).
-/
import Derived.Test.YtebnjolkolobhaaGreatDoorSimBox
import Derived.Test.YtebnjolkolobhaaGreatDoorSimMath
/- ==== SimChain ==== -/
namespace Go.Proofs.YtebnjolkolobhaaGreatDoor
open Go.RowKit
set_option linter.unusedVariables false
/-- A list of numbers in a row of its own. -/
def NL (qs : List Nat) (B : Nat) (W : World) (pv : Value) : Prop :=
  ∃ xs, OwnN W B pv qs.length xs ∧ ∀ i, i < qs.length → ∃ x s k q, xs[i * 2]? = some (.int .u64 x) ∧ xs[i * 2 + 1]? = some (.slice s k q) ∧ Den W (.agg #[.int .u64 x, .slice s k q]) (qs.getD i 0)
theorem NL.below {qs : List Nat} {B : Nat} {W W' : World} {pv : Value} (h : NL qs B W pv) (b : Below W.heap.size W W') : NL qs B W' pv := by
  obtain ⟨xs, h1, h2⟩ := h
  refine ⟨xs, h1.below b, fun i hi => ?_⟩
  obtain ⟨x, s, k, q, e1, e2, d⟩ := h2 i hi
  exact ⟨x, s, k, q, e1, e2, d.below b⟩
theorem NL.kept {qs : List Nat} {B g : Nat} {W W' : World} {pv : Value} {cs : Array Value} {t : TypeId} (h : NL qs B W pv) (hg : W.heap[g]? = some (.cells cs t (0, 0))) (hp : NoPair cs) (hne : pv.ownBlock ≠ some g) (q : W.grownBy W' (some g)) : NL qs B W' pv := by
  obtain ⟨xs, h1, h2⟩ := h
  refine ⟨xs, h1.past q hne, fun i hi => ?_⟩
  obtain ⟨x, s, k, c, e1, e2, d⟩ := h2 i hi
  exact ⟨x, s, k, c, e1, e2, d.kept q (d.notin hp hg)⟩
theorem NL.push {qs : List Nat} {B n : Nat} {W W' : World} {pv pv' : Value} {xs : List Value} {y1 : Int} {y2 : Option Addr} {y3 y4 : Nat} (h1 : OwnN W B pv qs.length xs)
    (h2 : ∀ i, i < qs.length → ∃ x s k q, xs[i * 2]? = some (.int .u64 x) ∧ xs[i * 2 + 1]? = some (.slice s k q) ∧ Den W (.agg #[.int .u64 x, .slice s k q]) (qs.getD i 0))
    (d : Den W (.agg #[.int .u64 y1, .slice y2 y3 y4]) n) (h3 : OwnN W' B pv' (qs.length + 1) (xs ++ [.int .u64 y1, .slice y2 y3 y4])) (q : W.grownBy W' pv.ownBlock) : NL (qs ++ [n]) B W' pv' := by
  have hl := h1.1.1
  refine ⟨_, by rw [List.length_append]; exact h3, fun i hi => ?_⟩
  rw [List.length_append] at hi
  rcases Nat.lt_or_ge i qs.length with h | h
  · obtain ⟨x, s, k, c, e1, e2, dd⟩ := h2 i h
    refine ⟨x, s, k, c, by rw [List.getElem?_append_left (by omega)]; exact e1, by rw [List.getElem?_append_left (by omega)]; exact e2, ?_⟩
    rw [List.getD_eq_getElem?_getD, List.getElem?_append_left h, ← List.getD_eq_getElem?_getD]
    exact Den.own h1 dd q
  · obtain rfl : i = qs.length := by simp at hi; omega
    refine ⟨y1, y2, y3, y4, ?_, ?_, ?_⟩
    · rw [List.getElem?_append_right (by omega), hl]; simp
    · rw [List.getElem?_append_right (by omega), hl]; simp
    · have e : (qs ++ [n]).getD qs.length 0 = n := by rw [List.getD_eq_getElem?_getD, List.getElem?_append_right (Nat.le_refl _)]; simp
      rw [e]
      exact Den.own h1 d q
theorem NL.shape {qs : List Nat} {B : Nat} {W : World} {pv : Value} (h : NL qs B W pv) : ∃ a c, pv = .slice a qs.length c := by
  obtain ⟨xs, h1, -⟩ := h
  rcases h1.1.2 with ⟨rfl, e⟩ | ⟨g, cap, cur, rfl, -⟩
  · exact ⟨none, 0, by rw [e]⟩
  · exact ⟨_, _, rfl⟩
theorem NL.at_ {qs : List Nat} {B i c p : Nat} {W : World} {a : Option Addr} (h : NL qs B W (.slice a p c)) (hi : i < qs.length) : ∃ (b : Nat) (x : Int) (s : Option Addr) (k q : Nat), a = some ⟨b, 0, none⟩ ∧
    W.cell? ⟨b, i * 2, none⟩ = some (.int .u64 x) ∧ W.cell? ⟨b, i * 2 + 1, none⟩ = some (.slice s k q) ∧ Den W (.agg #[.int .u64 x, .slice s k q]) (qs.getD i 0) ∧ B ≤ b ∧ b < W.heap.size ∧ c ≤ maxLen ∧ p ≤ c := by
  obtain ⟨xs, h1, h2⟩ := h
  rcases h1.1.2 with ⟨h0, h00⟩ | ⟨g, cap, cur, e, hb, hg, hc, hm, hs, ht⟩
  · exact absurd h00 (by omega)
  · cases e
    obtain ⟨x, s, k, q, e1, e2, d⟩ := h2 i hi
    have e := h1.1.cells (g := g) rfl
    refine ⟨g, x, s, k, q, rfl, ?_, ?_, d, hb, (Array.getElem?_eq_some_iff.1 hg).1, hm, hc⟩
    · have := e _ _ e1; rw [Lib.add_plain, Nat.zero_add] at this; exact this
    · have := e _ _ e2; rw [Lib.add_plain, Nat.zero_add] at this; exact this
theorem NL.far {qs : List Nat} {B : Nat} {W : World} {pv : Value} (h : NL qs B W pv) (g : Nat) (hg : g < B) : pv.ownBlock ≠ some g := by
  obtain ⟨xs, h1, -⟩ := h
  intro e
  have := (h1.1.lt g e).1
  omega
theorem NL.lt {qs : List Nat} {B : Nat} {W : World} {pv : Value} (h : NL qs B W pv) (g : Nat) (hg : pv.ownBlock = some g) : g < W.heap.size := by
  obtain ⟨xs, h1, -⟩ := h
  exact (h1.1.lt g hg).2
theorem NL.nil (B : Nat) (W : World) : NL [] B W (.slice none 0 0) := ⟨[], OwnN.nil _ _, fun i hi => by simp at hi⟩
/-- Two boxes are written. -/
def Both (w w' : World) (g h : Nat) : Prop :=
  ∃ wm cs cs' t t', NoPair cs ∧ NoPair cs' ∧ w.heap[g]? = some (.cells cs t (0, 0)) ∧ wm.heap[h]? = some (.cells cs' t' (0, 0)) ∧ w.grownBy wm (some g) ∧ wm.grownBy w' (some h)
theorem Both.den {w w' : World} {g h n : Nat} {v : Value} (q : Both w w' g h) (d : Den w v n) : Den w' v n := by
  obtain ⟨wm, cs, cs', t, t', p1, p2, h1, h2, q1, q2⟩ := q
  have d1 := d.kept q1 (d.notin p1 h1)
  exact d1.kept q2 (d1.notin p2 h2)
theorem Both.nl {w w' : World} {g h B : Nat} {qs : List Nat} {pv : Value} (q : Both w w' g h) (d : NL qs B w pv) (hg : pv.ownBlock ≠ some g) (hh : pv.ownBlock ≠ some h) : NL qs B w' pv := by
  obtain ⟨wm, cs, cs', t, t', p1, p2, h1, h2, q1, q2⟩ := q
  have d1 := d.kept h1 p1 hg q1
  exact d1.kept h2 p2 hh q2
theorem Both.block {w w' : World} {g h x : Nat} {o : Obj} (q : Both w w' g h) (hx : w.heap[x]? = some o) (n1 : x ≠ g) (n2 : x ≠ h) : w'.heap[x]? = some o := by
  obtain ⟨wm, cs, cs', t, t', p1, p2, h1, h2, q1, q2⟩ := q
  exact grown_block (grown_block hx q1 n1) q2 n2
theorem Both.bel {w0 w w' : World} {g h : Nat} (q : Both w w' g h) (b : Below w0.heap.size w0 w) (hg : w0.heap.size ≤ g) (hh : w0.heap.size ≤ h) : Below w0.heap.size w0 w' := by
  obtain ⟨wm, cs, cs', t, t', p1, p2, h1, h2, q1, q2⟩ := q
  exact (b.then_grown q1 (by rintro g ⟨⟩; exact hg)).then_grown q2 (by rintro g ⟨⟩; exact hh)
theorem two_store {w : World} {g h : Nat} {x1 z1 : Int} {x2 z2 : Option Addr} {x3 x4 z3 z4 : Nat} {t t' : TypeId} (h1 : w.heap[g]? = some (.cells #[.int .u64 x1, .slice x2 x3 x4] t (0, 0))) (h2 : w.heap[h]? = some (.cells #[.int .u64 z1, .slice z2 z3 z4] t' (0, 0))) (ne : g ≠ h) (a b c d : Value) :
    Both w ((((w.setCell ⟨g, 0, none⟩ a).setCell ⟨g, 1, none⟩ b).setCell ⟨h, 0, none⟩ c).setCell ⟨h, 1, none⟩ d) g h ∧ ((((w.setCell ⟨g, 0, none⟩ a).setCell ⟨g, 1, none⟩ b).setCell ⟨h, 0, none⟩ c).setCell ⟨h, 1, none⟩ d).heap[g]? = some (.cells #[a, b] t (0, 0)) ∧ ((((w.setCell ⟨g, 0, none⟩ a).setCell ⟨g, 1, none⟩ b).setCell ⟨h, 0, none⟩ c).setCell ⟨h, 1, none⟩ d).heap[h]? = some (.cells #[c, d] t' (0, 0)) := by
  have q1 := box_grown w g a b
  have m2 := grown_block h2 q1 (fun e => ne e.symm)
  have q2 := box_grown ((w.setCell ⟨g, 0, none⟩ a).setCell ⟨g, 1, none⟩ b) h c d
  exact ⟨⟨_, _, _, t, t', nopair2 _ _ _ _, nopair2 _ _ _ _, h1, m2, q1, q2⟩, grown_block (box_store h1 a b) q2 ne, box_store m2 c d⟩
/-- Behind two stores. -/
def Stp (wr wx : World) (g h : Nat) (a1 : Int) (a2 : Option Addr) (a3 a4 : Nat) (b1 : Int) (b2 : Option Addr) (b3 b4 : Nat) (n d : Nat) : Prop :=
  ∃ wb, Below wr.heap.size wr wb ∧ Both wb wx g h ∧ wx.heap[g]? = some (.cells #[.int .u64 a1, .slice a2 a3 a4] 43 (0, 0)) ∧ wx.heap[h]? = some (.cells #[.int .u64 b1, .slice b2 b3 b4] 43 (0, 0)) ∧ Den wx (.agg #[.int .u64 a1, .slice a2 a3 a4]) n ∧ Den wx (.agg #[.int .u64 b1, .slice b2 b3 b4]) d
theorem back_at {qs : List Nat} {k n d : Nat} (hk : k < qs.length) : M.back (qs.take (k + 1)) (n, d) = M.back (qs.take k) (qs.getD k 0 * n + d, n) := by
  have e : qs.take (k + 1) = qs.take k ++ [qs.getD k 0] := by
    rw [List.take_add_one, List.getElem?_eq_getElem hk, List.getD_eq_getElem?_getD, List.getElem?_eq_getElem hk]
    rfl
  rw [e, M.back_snoc]
set_option maxRecDepth 100000 in
set_option maxHeartbeats 8000000 in
theorem chain_calls (w : World) (u pv : Value) (n0 : Nat) (qs : List Nat) (B K X : Nat) (hu : Den w u n0) (hl : NL qs B w pv) (h0 : 0 < n0) (N E : Nat) (hNE : M.back qs (n0, 1) = (N, E)) (hX : N ≤ X ∧ E ≤ X) (kX : (X : Int) < M.BB ^ K) (hK : K ≤ 4398046511104) (hlen : qs.length ≤ 1099511627776) (hT : Tab w) :
    Calls Tryz.prog 85 #[u, pv] w fun e w' => (∃ r, e = .returned r ∧ Low w' r false (N / Nat.gcd N E) (E / Nat.gcd N E)) ∧ Below w.heap.size w w' := by
  obtain ⟨x1, x2, x3, x4, rfl⟩ := hu.shape2
  obtain ⟨sa, sc, rfl⟩ := hl.shape
  obtain ⟨A0, R0, B0⟩ := alloc2_facts w (.cells #[.int .u64 x1, .slice x2 x3 x4] 43) (.cells #[.bool false, .int .u64 0, .slice none 0 0, .int .u64 0, .slice none 0 0] 45)
  have HU := hide (hu.below B0)
  have HL := hide (hl.below B0)
  have HT := hide hT
  have kXH := hide kX
  have HX := hide hX
  have h0H := hide h0
  have HNE := hide hNE
  have LT0 : Hid (∀ g, (Value.slice sa qs.length sc).ownBlock = some g → g < w.heap.size) := hl.lt
  clear hu hl hT kX hX h0 hNE
  go_enter Tryz.func85, Tryz.ntmps85
  go_upto_region 1 with fail
  generalize ((w.alloc (.cells #[.int .u64 x1, .slice x2 x3 x4] 43)).alloc (.cells #[.bool false, .int .u64 0, .slice none 0 0, .int .u64 0, .slice none 0 0] 45)) = W1 at *
  obtain ⟨i0, i1, -, -⟩ := box_facts A0
  have S0 := hide (And.intro i0 (And.intro i1 (Below.refl W1.heap.size W1)))
  replace A0 := hide A0
  replace R0 := hide R0
  replace B0 := hide B0
  clear i0 i1
  go_cut [5, 6] (fun sx sy wx => ∃ (gx gy : Nat) (q1 : Int) (q2 : Option Addr) (q3 q4 : Nat) (r1 : Int) (r2 : Option Addr) (r3 r4 : Nat), sx = .pointer (some ⟨gx, 0, none⟩) ∧ sy = .pointer (some ⟨gy, 0, none⟩) ∧ Hid (TwoB W1 wx gx gy q1 q2 q3 q4 r1 r2 r3 r4 n0 1) ∧ Hid (gx ≠ gy))
  case first =>
    go_region_held3
      (fun w' => w'.cell? ⟨w.heap.size, 0, none⟩ = some (.int .u64 x1) ∧ w'.cell? ⟨w.heap.size, 1, none⟩ = some (.slice x2 x3 x4) ∧ Below W1.heap.size W1 w')
      ((refine cells2_keep (w := W1) S0.out ?_; repeat (first | with_reducible exact Below.refl _ _ | with_reducible refine Below.drew ?_ | with_reducible refine Below.then_below ?_ (alloc_below _ _) | with_reducible refine Below.then_below ?_ ba | (with_reducible refine Below.then_grown ?_ (box_grown _ _ _ _) (by rintro g ⟨⟩; first | exact Nat.le_refl _ | omega)))))
      (first
        | (go_at_call 53; refine (word_calls _ 1 (by decide)).mono ?_; rintro e wa ⟨rfl, ba⟩; have bw : Below W1.heap.size W1 wa := (by repeat (first | with_reducible exact Below.refl _ _ | with_reducible refine Below.drew ?_ | with_reducible refine Below.then_below ?_ (alloc_below _ _) | with_reducible refine Below.then_below ?_ ba)); have sa : W1.heap.size ≤ wa.heap.size := bw.size; have dq := HU.out.below bw; have db : Den wa (.agg #[.int .u64 1, .slice none 0 0]) 1 := den_word wa 1 (by decide); (first | (have AZ0 : wa.heap[W1.heap.size]? = some (.cells #[.int .u64 0, .slice none 0 0] 43 (0, 0)) := kept_block (by first | exact heap_alloc_new W1 (.cells #[.int .u64 0, .slice none 0 0] 43) | exact (two_new W1 (.cells #[.int .u64 0, .slice none 0 0] 43) (.cells #[.int .u64 0, .slice none 0 0] 43)).1) ba; obtain ⟨tz00, tz01, fz00, fz01⟩ := box_facts AZ0; have lAZ0 : W1.heap.size < wa.heap.size := (Array.getElem?_eq_some_iff.1 AZ0).1; have nAZ0 : W1.heap.size ≠ wa.heap.size := Nat.ne_of_lt lAZ0; have mAZ0 : wa.heap.size ≠ W1.heap.size := Nat.ne_of_gt lAZ0) | skip); (first | (have AZ1 : wa.heap[W1.heap.size + 1]? = some (.cells #[.int .u64 0, .slice none 0 0] 43 (0, 0)) := kept_block (by exact (two_new W1 (.cells #[.int .u64 0, .slice none 0 0] 43) (.cells #[.int .u64 0, .slice none 0 0] 43)).2.1) ba; obtain ⟨tz10, tz11, fz10, fz11⟩ := box_facts AZ1; have lAZ1 : W1.heap.size + 1 < wa.heap.size := (Array.getElem?_eq_some_iff.1 AZ1).1; have nAZ1 : W1.heap.size + 1 ≠ wa.heap.size := Nat.ne_of_lt lAZ1; have mAZ1 : wa.heap.size ≠ W1.heap.size + 1 := Nat.ne_of_gt lAZ1) | skip)))
    all_goals (go_wp2_with fail; go_meet)
    all_goals first
      | with_reducible exact ⟨_, _, x1, x2, x3, x4, 1, none, 0, 0, rfl, rfl, hide (tb_alloc bw dq db), hide (by omega)⟩
      | with_reducible exact ⟨_, _, x1, x2, x3, x4, 1, none, 0, 0, rfl, rfl, hide ((tb_alloc bw db dq).swap), hide (by omega)⟩
      | with_reducible exact ⟨_, _, x1, x2, x3, x4, 1, none, 0, 0, rfl, rfl, hide (tb_set_alloc bw dq db AZ0 (by omega)), hide (by omega)⟩
      | with_reducible exact ⟨_, _, x1, x2, x3, x4, 1, none, 0, 0, rfl, rfl, hide ((tb_set_alloc bw db dq AZ0 (by omega)).swap), hide (by omega)⟩
      | with_reducible exact ⟨_, _, x1, x2, x3, x4, 1, none, 0, 0, rfl, rfl, hide (tb_set_set bw dq db AZ0 AZ1 (by omega) (by omega) (by omega)), hide (by omega)⟩
      | with_reducible exact ⟨_, _, x1, x2, x3, x4, 1, none, 0, 0, rfl, rfl, hide (tb_set_set bw dq db AZ1 AZ0 (by omega) (by omega) (by omega)), hide (by omega)⟩
      | with_reducible exact ⟨_, _, x1, x2, x3, x4, 1, none, 0, 0, rfl, rfl, hide ((tb_set_set bw db dq AZ0 AZ1 (by omega) (by omega) (by omega)).swap), hide (by omega)⟩
      | with_reducible exact ⟨_, _, x1, x2, x3, x4, 1, none, 0, 0, rfl, rfl, hide ((tb_set_set bw db dq AZ1 AZ0 (by omega) (by omega) (by omega)).swap), hide (by omega)⟩
  case rest =>
  obtain ⟨g5, g6, u1, u2, u3, u4, v1, v2, v3, v4, rfl, rfl, T, NE⟩ := hcut
  rename World => W2
  obtain ⟨p5, p6, hu, hv, h5, h6, B2⟩ := T.out
  have lr : w.heap.size + 1 < W1.heap.size := (Array.getElem?_eq_some_iff.1 R0.out).1
  have bw : Below w.heap.size w W2 := B0.out.then_below B2
  have BW := hide bw
  have RR0 := hide (kept_block R0.out B2)
  have L0 := hide (HL.out.below B2)
  have P50 := hide p5
  have P60 := hide p6
  have U0 := hide hu
  have V0 := hide hv
  have n5 : Hid (w.heap.size + 1 ≠ g5) := hide (by omega)
  have n6 : Hid (w.heap.size + 1 ≠ g6) := hide (by omega)
  have f5 : Hid ((Value.slice sa qs.length sc).ownBlock ≠ some g5) := fun e => by have := LT0.out _ e; omega
  have f6 : Hid ((Value.slice sa qs.length sc).ownBlock ≠ some g6) := fun e => by have := LT0.out _ e; omega
  have l5 : Hid (w.heap.size ≤ g5) := hide (by omega)
  have l6 : Hid (w.heap.size ≤ g6) := hide (by omega)
  clear T S0 p5 p6 hu hv h5 h6 B2 A0 R0 B0 HU HL bw lr LT0
  go_wp2_with fail
  go_loopw [7] (fun iv wr => ∃ (k n d : Nat) (a1 : Int) (a2 : Option Addr) (a3 a4 : Nat) (b1 : Int) (b2 : Option Addr) (b3 b4 : Nat), iv = .int .i64 ((k : Int) - 1) ∧ k ≤ qs.length ∧ Hid (M.back (qs.take k) (n, d) = (N, E)) ∧ Hid (0 < n ∧ 0 < d) ∧ Hid (Den wr (.agg #[.int .u64 a1, .slice a2 a3 a4]) n) ∧ Hid (Den wr (.agg #[.int .u64 b1, .slice b2 b3 b4]) d) ∧ Hid (NL qs B wr (.slice sa qs.length sc)) ∧
      Hid (wr.heap[g5]? = some (.cells #[.int .u64 a1, .slice a2 a3 a4] 43 (0, 0))) ∧ Hid (wr.heap[g6]? = some (.cells #[.int .u64 b1, .slice b2 b3 b4] 43 (0, 0))) ∧ Hid (wr.heap[w.heap.size + 1]? = some (.cells #[.bool false, .int .u64 0, .slice none 0 0, .int .u64 0, .slice none 0 0] 45 (0, 0))) ∧ Hid (Below w.heap.size w wr)) (fun iv _ => (intOf iv + 1).toNat)
  case atStart => exact ⟨qs.length, n0, 1, u1, u2, u3, u4, v1, v2, v3, v4, by go_num, Nat.le_refl _, by show _ = _; rw [List.take_length]; exact HNE.out, ⟨h0H.out, Nat.one_pos⟩, U0, V0, L0, P50, P60, RR0, BW⟩
  case round =>
    clear P50 P60 U0 V0 L0 RR0 BW
    obtain ⟨k, n, d, a1, a2, a3, a4, b1, b2, b3, b4, rfl, hk, HB, HP, HN, HE, LL, P5, P6, RR, DD⟩ := hrel
    have bnd := M.back_max _ _ X (by rw [HB.out]; exact HX.out)
    have kn : Hid ((n : Int) < M.BB ^ K) := Int.lt_of_le_of_lt (by exact_mod_cast bnd.1) kXH.out
    have kd : Hid ((d : Int) < M.BB ^ K) := Int.lt_of_le_of_lt (by exact_mod_cast bnd.2) kXH.out
    clear bnd
    by_cases h0 : k = 0
    · subst h0
      obtain ⟨i0, i1, -, -⟩ := box_facts P5.out
      obtain ⟨j0, j1, -, -⟩ := box_facts P6.out
      have eb : (n, d) = (N, E) := HB.out
      cases eb
      have HT2 := hide (HT.out.below DD.out)
      have d0 : E ≠ 0 := Nat.ne_of_gt HP.out.2
      have QF := hide (fun W (h : Below wr.heap.size wr W) => of_calls W false (.agg #[.int .u64 a1, .slice a2 a3 a4]) (.agg #[.int .u64 b1, .slice b2 b3 b4]) N E K (HN.out.below h) (HE.out.below h) d0 kn.out kd.out hK (HT2.out.below h))
      clear HB HNE
      rw [show ((0 : Nat) : Int) - 1 = -1 from rfl]
      go_wp2_with (go_at_call 67; refine (QF.out _ (by repeat (first | with_reducible exact Below.refl _ _ | with_reducible refine Below.drew ?_ | with_reducible refine Below.then_below ?_ (alloc_below _ _)))).mono ?_; rintro e wa ⟨⟨r, rfl, hr⟩, ba⟩; obtain ⟨ng, nn, dd, hrd, hLow⟩ := Low.shape hr; obtain ⟨p1, p2, p3, p4, q1, q2, q3, q4, rfl, dn, dl⟩ := hrd.shape; have Ba : Below wr.heap.size wr wa := (by repeat (first | with_reducible exact Below.refl _ _ | with_reducible refine Below.drew ?_ | with_reducible refine Below.then_below ?_ (alloc_below _ _) | with_reducible refine Below.then_below ?_ ba)); have R2 := hide (kept_block RR.out Ba); obtain ⟨⟨z0, z1, z2, z3, z4⟩, e0, e1, e2, e3, e4⟩ := ratBox R2.out)
      refine bodyPost_ret (v := .agg #[.bool ng, .int .u64 p1, .slice p2 p3 p4, .int .u64 q1, .slice q2 q3 q4]) (by simp [results, Tryz.results85, go_sem, z0, z1, z2, z3, z4]) rfl ?_
      have q := set5 wa (w.heap.size + 1) (.bool ng) (.int .u64 p1) (.slice p2 p3 p4) (.int .u64 q1) (.slice q2 q3 q4)
      exact ⟨⟨_, rfl, hLow.out _ _ (DenR.make dn dl R2.out (nopair5 _ _ _ _ _ _ _ _ _) q)⟩, (DD.out.then_below Ba).then_grown q (by rintro g ⟨⟩; omega)⟩
    · obtain ⟨k, rfl⟩ : ∃ i, k = i + 1 := ⟨k - 1, by omega⟩
      rw [show ((k + 1 : Nat) : Int) - 1 = k from by omega]
      obtain ⟨pb, t1, t2, t3, t4, rfl, c2, c3, dt, hBb, hlb, hcm, hpc⟩ := LL.out.at_ (i := k) (by omega)
      have HB2 : Hid (M.back (qs.take k) (qs.getD k 0 * n + d, n) = (N, E)) := by
        show _ = _
        rw [← back_at (by omega)]
        exact HB.out
      have bnd := M.back_max _ _ X (by rw [HB2.out]; exact HX.out)
      generalize qs.getD k 0 = q at *
      have n0' := HP.out.1
      have hqn : q * 1 ≤ q * n := Nat.mul_le_mul_left q n0'
      have bq : q * n + d ≤ X := bnd.1
      have kq : Hid ((q : Int) < M.BB ^ K) := Int.lt_of_le_of_lt (by have : q ≤ X := by omega
                                                                     exact_mod_cast this) kXH.out
      have kqn : Hid (((q * n : Nat) : Int) < M.BB ^ K) := Int.lt_of_le_of_lt (by have : q * n ≤ X := by omega
                                                                                  exact_mod_cast this) kXH.out
      have HP2 : Hid (0 < q * n + d ∧ 0 < n) := ⟨by have := HP.out.2; omega, n0'⟩
      have DT := hide dt
      clear hqn bq bnd HB h0 n0' dt hBb
      have QM := hide (fun W (h : Below wr.heap.size wr W) => natMul_calls W _ _ q n K (DT.out.below h) (HN.out.below h) kq.out kn.out hK)
      have QA := hide (fun W x (h : Below wr.heap.size wr W) (hx : Den W x (q * n)) => natAdd_calls W x _ (q * n) d K hx (HE.out.below h) kqn.out kd.out hK)
      have ix := fun W => run_at_nat pb 0 qs.length sc k (by omega) (by omega) W
      simp only [Int.toNat_natCast, Nat.zero_add] at ix
      obtain ⟨i0, i1, -, -⟩ := box_facts P5.out
      obtain ⟨j0, j1, -, -⟩ := box_facts P6.out
      go_upto_region 5 with fail
      go_region_with (first
          | (go_at_call 56; refine (QM.out _ (by repeat (first | with_reducible exact Below.refl _ _ | with_reducible refine Below.drew ?_ | with_reducible refine Below.then_below ?_ (alloc_below _ _)))).mono ?_; rintro e wa ⟨⟨ra, rfl, ha⟩, ba⟩; obtain ⟨m1, m2, m3, m4, rfl⟩ := ha.shape2; have Ba : Below wr.heap.size wr wa := (by repeat (first | with_reducible exact Below.refl _ _ | with_reducible refine Below.drew ?_ | with_reducible refine Below.then_below ?_ (alloc_below _ _) | with_reducible refine Below.then_below ?_ ba)); have P5a := kept_block P5.out Ba; have P6a := kept_block P6.out Ba; obtain ⟨x50, x51, -, -⟩ := box_facts P5a; obtain ⟨x60, x61, -, -⟩ := box_facts P6a)
          | (go_at_call 84; refine (QA.out _ _ (by repeat (first | with_reducible exact Below.refl _ _ | with_reducible refine Below.drew ?_ | with_reducible refine Below.then_below ?_ (alloc_below _ _) | with_reducible refine Below.then_below ?_ ba)) (ha.below (by repeat (first | with_reducible exact Below.refl _ _ | with_reducible refine Below.drew ?_ | with_reducible refine Below.then_below ?_ (alloc_below _ _))))).mono ?_; rintro e wb ⟨⟨rb, rfl, hb⟩, bb⟩; obtain ⟨s1, s2, s3, s4, rfl⟩ := hb.shape2; have Bb : Below wr.heap.size wr wb := (by repeat (first | with_reducible exact Below.refl _ _ | with_reducible refine Below.drew ?_ | with_reducible refine Below.then_below ?_ (alloc_below _ _) | with_reducible refine Below.then_below ?_ ba | with_reducible refine Below.then_below ?_ bb)); have P5b := kept_block P5.out Bb; have P6b := kept_block P6.out Bb; obtain ⟨y50, y51, y52, y53⟩ := box_facts P5b; obtain ⟨y60, y61, y62, y63⟩ := box_facts P6b; have ny : g5 ≠ g6 := NE.out; have ny' : g6 ≠ g5 := ny.symm))
      all_goals (obtain ⟨qq, q5, q6⟩ := two_store P5b P6b NE.out (.int .u64 s1) (.slice s2 s3 s4) (.int .u64 a1) (.slice a2 a3 a4))
      all_goals (have KE := hide (qq.den hb); have KF := hide (qq.den (HN.out.below Bb)); have LX := hide (qq.nl (LL.out.below Bb) f5.out f6.out); have RX := hide (qq.block (kept_block RR.out Bb) n5.out n6.out); have DX := hide (qq.bel (DD.out.then_below Bb) l5.out l6.out); replace q5 := hide q5; replace q6 := hide q6)
      all_goals (clear qq P5b P6b y50 y51 y52 y53 y60 y61 y62 y63 bb hb Bb x50 x51 x60 x61 ba ha Ba P5a P6a i0 i1 j0 j1 c2 c3 ix QM QA)
      all_goals (go_wp2_with fail; go_roundw)
      all_goals first
        | exact ⟨k, q * n + d, n, s1, s2, s3, s4, a1, a2, a3, a4, by go_num, by omega, HB2, HP2, KE, KF, LX, q5, q6, RX, DX⟩
        | simp [intOf]
end Go.Proofs.YtebnjolkolobhaaGreatDoor
