/-
  Nodes and links in memory; each node stands on earlier ones (both ways of asking); node, says, congruent.
-/
import Derived.Test.YtcpmeehchmdljaaTextBase
import Derived.Test.YtcpmeehchmdljaaEufMath
import Derived.Deep.RegionHeld3
import Derived.Deep.DeepCutAuto
namespace Go.RowKit
theorem Below.then_grown {w w1 w2 : World} {r : Option Nat} (h : Below w.heap.size w w1) (q : w1.grownBy w2 r) (hr : ∀ g, r = some g → w.heap.size ≤ g) : Below w.heap.size w w2 :=
  h.trans ⟨q.os, q.tape, q.output, q.size, fun k hk => q.block k (Nat.lt_of_lt_of_le hk h.size) (fun e => by have := hr k e.symm; omega)⟩
theorem Below.then_below {w w1 w2 : World} (h : Below w.heap.size w w1) (q : Below w1.heap.size w1 w2) : Below w.heap.size w w2 := h.trans (q.mono h.size)
end Go.RowKit
namespace Go.Proofs.Ytcpmeehchmdljaa
open Go.RowKit
theorem below_drewN {n : Nat} {w w' : World} (h : Below n w w') (k : Nat) : Below n w (w'.drewN k) := ⟨h.os, h.tape, h.output, h.size, h.block⟩
set_option linter.unusedVariables false
/-- The slice value v holds the ints l, in a block below B. -/
def IRow (B : Nat) (w : World) (v : Value) (l : List Int) : Prop :=
  ∃ a cap, v = .slice a l.length cap ∧ l.length ≤ 35184372088832 ∧ (l ≠ [] → ∃ b off, a = some ⟨b, off, none⟩ ∧ b < B ∧ ∀ j, j < l.length → w.cell? ⟨b, off + j, none⟩ = some (.int .i64 (l.getD j 0)))
theorem IRow.below {B : Nat} {w w' : World} {v : Value} {l : List Int} (h : IRow B w v l) (q : Below B w w') : IRow B w' v l := by
  obtain ⟨a, cap, rfl, h1, h2⟩ := h
  refine ⟨a, cap, rfl, h1, fun hne => ?_⟩
  obtain ⟨b, off, rfl, hb, hc⟩ := h2 hne
  exact ⟨b, off, rfl, hb, fun j hj => (q.cell (p := ⟨b, _, none⟩) hb).trans (hc j hj)⟩
theorem IRow.at_ {B : Nat} {w : World} {a : Option Addr} {n cap : Nat} {l : List Int} (h : IRow B w (.slice a n cap) l) {j : Nat} (hj : j < l.length) :
    ∃ b off, a = some ⟨b, off, none⟩ ∧ b < B ∧ w.cell? ⟨b, off + j, none⟩ = some (.int .i64 (l.getD j 0)) := by
  obtain ⟨a', cap', e, h1, h2⟩ := h
  cases e
  obtain ⟨b, off, rfl, hb, hc⟩ := h2 (by rintro rfl; simp at hj)
  exact ⟨b, off, rfl, hb, hc j hj⟩
theorem IRow.shape {B : Nat} {w : World} {v : Value} {l : List Int} (h : IRow B w v l) : ∃ a cap, v = .slice a l.length cap ∧ l.length ≤ 35184372088832 := by
  obtain ⟨a, cap, e, h1, h2⟩ := h
  exact ⟨a, cap, e, h1⟩
/-- The slice value v holds the nodes fs. -/
def Flats (B : Nat) (w : World) (v : Value) (fs : List E.Fl) : Prop :=
  ∃ a cap, v = .slice a fs.length cap ∧ fs.length ≤ 35184372088832 ∧ (fs ≠ [] → ∃ b off, a = some ⟨b, off, none⟩ ∧ b < B ∧ ∀ j, j < fs.length →
    w.cell? ⟨b, off + j * 2, none⟩ = some (.int .i64 (fs.getD j E.f0).fn) ∧ ∃ u, w.cell? ⟨b, off + j * 2 + 1, none⟩ = some u ∧ IRow B w u (fs.getD j E.f0).args)
theorem Flats.below {B : Nat} {w w' : World} {v : Value} {fs : List E.Fl} (h : Flats B w v fs) (q : Below B w w') : Flats B w' v fs := by
  obtain ⟨a, cap, rfl, h1, h2⟩ := h
  refine ⟨a, cap, rfl, h1, fun hne => ?_⟩
  obtain ⟨b, off, rfl, hb, hc⟩ := h2 hne
  refine ⟨b, off, rfl, hb, fun j hj => ?_⟩
  obtain ⟨c0, u, c1, r⟩ := hc j hj
  exact ⟨(q.cell (p := ⟨b, _, none⟩) hb).trans c0, u, (q.cell (p := ⟨b, _, none⟩) hb).trans c1, r.below q⟩
theorem Flats.shape {B : Nat} {w : World} {v : Value} {fs : List E.Fl} (h : Flats B w v fs) : ∃ a cap, v = .slice a fs.length cap ∧ fs.length ≤ 35184372088832 := by
  obtain ⟨a, cap, e, h1, h2⟩ := h
  exact ⟨a, cap, e, h1⟩
theorem Flats.at_ {B : Nat} {w : World} {a : Option Addr} {n cap : Nat} {fs : List E.Fl} (h : Flats B w (.slice a n cap) fs) {j : Nat} (hj : j < fs.length) :
    ∃ b off, a = some ⟨b, off, none⟩ ∧ b < B ∧ w.cell? ⟨b, off + j * 2, none⟩ = some (.int .i64 (fs.getD j E.f0).fn) ∧ ∃ u, w.cell? ⟨b, off + j * 2 + 1, none⟩ = some u ∧ IRow B w u (fs.getD j E.f0).args := by
  obtain ⟨a', cap', e, h1, h2⟩ := h
  cases e
  obtain ⟨b, off, rfl, hb, hc⟩ := h2 (by rintro rfl; simp at hj)
  exact ⟨b, off, rfl, hb, hc j hj⟩
def I64 (x : Int) : Prop := -9223372036854775808 ≤ x ∧ x ≤ 9223372036854775807
/-- The slice value v holds the links ls. -/
def Links (B : Nat) (w : World) (v : Value) (ls : List E.Lk) : Prop :=
  ∃ a cap, v = .slice a ls.length cap ∧ ls.length ≤ 35184372088832 ∧ (ls ≠ [] → ∃ b off, a = some ⟨b, off, none⟩ ∧ b < B ∧ ∀ j, j < ls.length →
    w.cell? ⟨b, off + j * 5, none⟩ = some (.int .i64 (ls.getD j E.l0).kind) ∧ w.cell? ⟨b, off + j * 5 + 1, none⟩ = some (.int .i64 (ls.getD j E.l0).a) ∧ w.cell? ⟨b, off + j * 5 + 2, none⟩ = some (.int .i64 (ls.getD j E.l0).b) ∧ w.cell? ⟨b, off + j * 5 + 3, none⟩ = some (.int .i64 (ls.getD j E.l0).tag) ∧
    (∃ u, w.cell? ⟨b, off + j * 5 + 4, none⟩ = some u ∧ IRow B w u (ls.getD j E.l0).kids) ∧ I64 (ls.getD j E.l0).a ∧ I64 (ls.getD j E.l0).b ∧ I64 (ls.getD j E.l0).tag)
theorem Links.below {B : Nat} {w w' : World} {v : Value} {ls : List E.Lk} (h : Links B w v ls) (q : Below B w w') : Links B w' v ls := by
  obtain ⟨a, cap, rfl, h1, h2⟩ := h
  refine ⟨a, cap, rfl, h1, fun hne => ?_⟩
  obtain ⟨b, off, rfl, hb, hc⟩ := h2 hne
  refine ⟨b, off, rfl, hb, fun j hj => ?_⟩
  obtain ⟨c0, c1, c2, c3, ⟨u, c4, r⟩, k⟩ := hc j hj
  exact ⟨(q.cell (p := ⟨b, _, none⟩) hb).trans c0, (q.cell (p := ⟨b, _, none⟩) hb).trans c1, (q.cell (p := ⟨b, _, none⟩) hb).trans c2, (q.cell (p := ⟨b, _, none⟩) hb).trans c3, ⟨u, (q.cell (p := ⟨b, _, none⟩) hb).trans c4, r.below q⟩, k⟩
theorem Links.shape {B : Nat} {w : World} {v : Value} {ls : List E.Lk} (h : Links B w v ls) : ∃ a cap, v = .slice a ls.length cap ∧ ls.length ≤ 35184372088832 := by
  obtain ⟨a, cap, e, h1, h2⟩ := h
  exact ⟨a, cap, e, h1⟩
theorem Links.at_ {B : Nat} {w : World} {a : Option Addr} {n cap : Nat} {ls : List E.Lk} (h : Links B w (.slice a n cap) ls) {j : Nat} (hj : j < ls.length) :
    ∃ b off, a = some ⟨b, off, none⟩ ∧ b < B ∧ (w.cell? ⟨b, off + j * 5, none⟩ = some (.int .i64 (ls.getD j E.l0).kind) ∧ w.cell? ⟨b, off + j * 5 + 1, none⟩ = some (.int .i64 (ls.getD j E.l0).a) ∧ w.cell? ⟨b, off + j * 5 + 2, none⟩ = some (.int .i64 (ls.getD j E.l0).b) ∧ w.cell? ⟨b, off + j * 5 + 3, none⟩ = some (.int .i64 (ls.getD j E.l0).tag) ∧
    (∃ u, w.cell? ⟨b, off + j * 5 + 4, none⟩ = some u ∧ IRow B w u (ls.getD j E.l0).kids) ∧ I64 (ls.getD j E.l0).a ∧ I64 (ls.getD j E.l0).b ∧ I64 (ls.getD j E.l0).tag) := by
  obtain ⟨a', cap', e, h1, h2⟩ := h
  cases e
  obtain ⟨b, off, rfl, hb, hc⟩ := h2 (by rintro rfl; simp at hj)
  exact ⟨b, off, rfl, hb, hc j hj⟩
theorem ahead_true {i : Nat} {xs : List Int} (h : ∀ j, j < xs.length → 0 ≤ xs.getD j 0 ∧ xs.getD j 0 < i) : E.ahead i xs = true := by
  refine List.all_eq_true.2 fun x hx => ?_
  obtain ⟨j, hj, rfl⟩ := List.getElem_of_mem hx
  have := h j hj
  rw [List.getD_eq_getElem?_getD, List.getElem?_eq_getElem hj] at this
  exact E.inB_iff.2 this
theorem ahead_false {i : Nat} {xs : List Int} {j : Nat} (hj : j < xs.length) (h : ¬ (0 ≤ xs.getD j 0 ∧ xs.getD j 0 < i)) : E.ahead i xs = false := by
  cases hb : E.ahead i xs
  · rfl
  · exact absurd (E.ahead_at hb hj) h
theorem sound_true {fs : List E.Fl} (h : ∀ i, i < fs.length → E.ahead i (fs.getD i E.f0).args = true) : E.soundB fs = true :=
  List.all_eq_true.2 fun i hi => h i (List.mem_range.1 hi)
theorem sound_false {fs : List E.Fl} {i : Nat} (hi : i < fs.length) (h : E.ahead i (fs.getD i E.f0).args = false) : E.soundB fs = false := by
  cases hb : E.soundB fs
  · rfl
  · have := E.sound_at hb hi
    rw [h] at this
    cases this
set_option maxRecDepth 100000 in
set_option maxHeartbeats 4000000 in
theorem lsound_calls (w : World) (B : Nat) (v : Value) (fs : List E.Fl) (h : Flats B w v fs) :
    Calls Try.prog 7 #[v] w fun e w' => e = .returned (.bool (E.soundB fs)) ∧ w' = w := by
  obtain ⟨a, cap, rfl, hn⟩ := h.shape
  replace h := hide h
  have Z : Hid (∀ q, q < 0 → E.ahead q (fs.getD q E.f0).args = true) := fun q hq => by omega
  go_enter Try.func7, Try.ntmps7
  go_wp2
  go_loop [3] (fun i => ∃ k : Nat, i = .int .i64 (k : Int) ∧ k ≤ fs.length ∧ Hid (∀ q, q < k → E.ahead q (fs.getD q E.f0).args = true)) (fun i => fs.length - (intOf i).toNat)
  case atStart => exact ⟨0, rfl, Nat.zero_le _, Z⟩
  case round =>
    obtain ⟨k, rfl, hk, P⟩ := hrel
    by_cases hlt : k < fs.length
    · obtain ⟨b, off, rfl, hb, c0, u, c1, R⟩ := h.out.at_ hlt
      obtain ⟨ua, uc, rfl, un⟩ := R.shape
      replace R := hide R
      have kl : (k : Int) < (fs.length : Int) := by omega
      obtain ⟨xs, hxs⟩ : ∃ xs, (fs.getD k E.f0).args = xs := ⟨_, rfl⟩
      rw [hxs] at R un c1
      replace hxs := hide hxs
      have Y : Hid (∀ q, q < 0 → 0 ≤ xs.getD q 0 ∧ xs.getD q 0 < k) := fun q hq => by omega
      clear Z
      go_wp2
      go_loop [4] (fun i => ∃ p : Nat, i = .int .i64 (p : Int) ∧ p ≤ xs.length ∧ Hid (∀ q, q < p → 0 ≤ xs.getD q 0 ∧ xs.getD q 0 < k)) (fun i => xs.length - (intOf i).toNat)
      case atStart => exact ⟨0, rfl, Nat.zero_le _, Y⟩
      case round =>
        clear Y
        obtain ⟨p, rfl, hp, T⟩ := hrel
        by_cases hpl : p < xs.length
        · obtain ⟨b', off', rfl, hb', d0⟩ := R.out.at_ hpl
          have pl : (p : Int) < (xs.length : Int) := by omega
          obtain ⟨x, hx⟩ : ∃ x, xs.getD p 0 = x := ⟨_, rfl⟩
          rw [hx] at d0
          replace hx := hide hx
          by_cases hx0 : x < 0
          · go_wp2
            go_ret
            exact ⟨by rw [sound_false hlt (by rw [hxs.out]; exact ahead_false hpl (by rw [hx.out]; omega))]; rfl, rfl⟩
          · by_cases hxk : (k : Int) ≤ x
            · go_wp2
              go_ret
              exact ⟨by rw [sound_false hlt (by rw [hxs.out]; exact ahead_false hpl (by rw [hx.out]; omega))]; rfl, rfl⟩
            · have T1 : Hid (∀ q, q < p + 1 → 0 ≤ xs.getD q 0 ∧ xs.getD q 0 < k) := by
                intro q hq
                rcases Nat.lt_or_ge q p with c | c
                · exact T.out q c
                · obtain rfl : q = p := by omega
                  rw [hx.out]
                  omega
              go_wp2
              go_round
              case rel => exact ⟨p + 1, by go_num, by omega, T1⟩
              case measure => simp [intOf]; omega
        · obtain rfl : p = xs.length := by omega
          have P1 : Hid (∀ q, q < k + 1 → E.ahead q (fs.getD q E.f0).args = true) := by
            intro q hq
            rcases Nat.lt_or_ge q k with c | c
            · exact P.out q c
            · obtain rfl : q = k := by omega
              rw [hxs.out]
              exact ahead_true T.out
          clear T hpl hp
          go_wp2
          go_round
          case rel => exact ⟨k + 1, by go_num, by omega, P1⟩
          case measure => simp [intOf]; omega
    · obtain rfl : k = fs.length := by omega
      have e := hide (sound_true P.out)
      clear P hlt hk Z
      go_wp2
      go_ret
      exact ⟨by rw [e.out]; rfl, rfl⟩
set_option maxRecDepth 100000 in
set_option maxHeartbeats 4000000 in
theorem esound_calls (w : World) (B : Nat) (v : Value) (fs : List E.Fl) (h : Flats B w v fs) (hB : B ≤ w.heap.size) :
    Calls Try.prog 13 #[v] w fun e w' => e = .returned (.bool (E.soundB fs)) ∧ Below w.heap.size w w' := by
  obtain ⟨a, cap, rfl, hn⟩ := h.shape
  replace h := hide h
  have Z : Hid (∀ q, q < 0 → E.ahead q (fs.getD q E.f0).args = true) := fun q hq => by omega
  have Z0 : Hid (Below w.heap.size w w) := Below.refl _ _
  go_enter Try.func13, Try.ntmps13
  go_wp2
  go_loopw [9] (fun i wr => ∃ k : Nat, i = .int .i64 (k : Int) ∧ k ≤ fs.length ∧ Hid (∀ q, q < k → E.ahead q (fs.getD q E.f0).args = true) ∧ Hid (Below w.heap.size w wr)) (fun i _ => fs.length - (intOf i).toNat)
  case atStart => exact ⟨0, rfl, Nat.zero_le _, Z, Z0⟩
  case round =>
    obtain ⟨k, rfl, hk, P, BB⟩ := hrel
    by_cases hlt : k < fs.length
    · obtain ⟨b, off, rfl, hb, c0, u, c1, R⟩ := (h.out.below (BB.out.mono hB)).at_ hlt
      obtain ⟨ua, uc, rfl, un⟩ := R.shape
      have kl : (k : Int) < (fs.length : Int) := by omega
      obtain ⟨xs, hxs⟩ : ∃ xs, (fs.getD k E.f0).args = xs := ⟨_, rfl⟩
      rw [hxs] at R un c1
      replace hxs := hide hxs
      have Y : Hid (∀ q, q < 0 → 0 ≤ xs.getD q 0 ∧ xs.getD q 0 < k) := fun q hq => by omega
      obtain ⟨fn, hfn⟩ : ∃ fn, (fs.getD k E.f0).fn = fn := ⟨_, rfl⟩
      rw [hfn] at c0
      have BA : Hid (Below w.heap.size w (wr.alloc (.cells #[.int .i64 fn, .slice ua xs.length uc] 31))) := BB.out.alloc BB.out.size _
      have RA := hide (R.below ((Below.refl B wr).alloc (Nat.le_trans hB BB.out.size) (.cells #[.int .i64 fn, .slice ua xs.length uc] 31)))
      clear Z Z0 R hfn
      go_wp2_with fail
      generalize (wr.alloc (.cells #[.int .i64 fn, .slice ua xs.length uc] 31)) = wa at *
      clear c0 c1
      go_loop [17] (fun i => ∃ p : Nat, i = .int .i64 (p : Int) ∧ p ≤ xs.length ∧ Hid (∀ q, q < p → 0 ≤ xs.getD q 0 ∧ xs.getD q 0 < k)) (fun i => xs.length - (intOf i).toNat)
      case atStart => exact ⟨0, rfl, Nat.zero_le _, Y⟩
      case round =>
        clear Y
        obtain ⟨p, rfl, hp, T⟩ := hrel
        by_cases hpl : p < xs.length
        · obtain ⟨b', off', rfl, hb', d0⟩ := RA.out.at_ hpl
          have pl : (p : Int) < (xs.length : Int) := by omega
          obtain ⟨x, hx⟩ : ∃ x, xs.getD p 0 = x := ⟨_, rfl⟩
          rw [hx] at d0
          replace hx := hide hx
          by_cases hx0 : x < 0
          · go_wp2
            go_ret
            exact ⟨by rw [sound_false hlt (by rw [hxs.out]; exact ahead_false hpl (by rw [hx.out]; omega))]; rfl, BA.out⟩
          · by_cases hxk : (k : Int) ≤ x
            · go_wp2
              go_ret
              exact ⟨by rw [sound_false hlt (by rw [hxs.out]; exact ahead_false hpl (by rw [hx.out]; omega))]; rfl, BA.out⟩
            · have T1 : Hid (∀ q, q < p + 1 → 0 ≤ xs.getD q 0 ∧ xs.getD q 0 < k) := by
                intro q hq
                rcases Nat.lt_or_ge q p with c | c
                · exact T.out q c
                · obtain rfl : q = p := by omega
                  rw [hx.out]
                  omega
              go_wp2
              go_round
              case rel => exact ⟨p + 1, by go_num, by omega, T1⟩
              case measure => simp [intOf]; omega
        · obtain rfl : p = xs.length := by omega
          have P1 : Hid (∀ q, q < k + 1 → E.ahead q (fs.getD q E.f0).args = true) := by
            intro q hq
            rcases Nat.lt_or_ge q k with c | c
            · exact P.out q c
            · obtain rfl : q = k := by omega
              rw [hxs.out]
              exact ahead_true T.out
          clear T hpl hp
          go_wp2
          go_roundw
          case rel => exact ⟨k + 1, by go_num, by omega, P1, BA⟩
          case measure => simp [intOf]; omega
    · obtain rfl : k = fs.length := by omega
      have e := hide (sound_true P.out)
      clear P hlt hk Z
      go_wp2
      go_ret
      exact ⟨by rw [e.out]; rfl, BB.out⟩
/-- What an audit holds: its box at g, the nodes, the links. -/
def AU (B g : Nat) (w : World) (fs : List E.Fl) (ls : List E.Lk) (bm : Nat) : Prop :=
  ∃ vn vl, w.cell? ⟨g, 0, none⟩ = some vn ∧ w.cell? ⟨g, 1, none⟩ = some (.map (some bm)) ∧ w.cell? ⟨g, 2, none⟩ = some vl ∧ Flats B w vn fs ∧ Links B w vl ls
theorem AU.below {B g bm : Nat} {w w' : World} {fs : List E.Fl} {ls : List E.Lk} (h : AU B g w fs ls bm) (hB : B ≤ w.heap.size) (q : Below w.heap.size w w') : AU B g w' fs ls bm := by
  obtain ⟨vn, vl, c0, c1, c2, h1, h2⟩ := h
  have hg : g < w.heap.size := World.block_lt_of_cell? w _ c0
  exact ⟨vn, vl, (q.cell (p := ⟨g, _, none⟩) hg).trans c0, (q.cell (p := ⟨g, _, none⟩) hg).trans c1, (q.cell (p := ⟨g, _, none⟩) hg).trans c2, h1.below (q.mono hB), h2.below (q.mono hB)⟩
theorem AU.drew {B g bm : Nat} {w : World} {fs : List E.Fl} {ls : List E.Lk} (h : AU B g w fs ls bm) : AU B g w.drew fs ls bm := h
set_option maxRecDepth 100000 in
theorem node_calls (w : World) (B g bm : Nat) (fs : List E.Fl) (ls : List E.Lk) (h : AU B g w fs ls bm) (x : Int) :
    Calls Try.prog 19 #[.pointer (some ⟨g, 0, none⟩), .int .i64 x] w fun e w' => e = .returned (.bool (E.inB fs.length x)) ∧ w' = w := by
  obtain ⟨vn, vl, c0, c1, c2, h1, h2⟩ := h
  obtain ⟨a, cap, rfl, hn⟩ := h1.shape
  clear h1 h2 c1 c2
  by_cases x0 : 0 ≤ x
  · by_cases x1 : x < fs.length
    · have e : E.inB fs.length x = true := E.inB_iff.2 ⟨x0, x1⟩
      rw [e]
      clear e
      go_enter Try.func19, Try.ntmps19
      go_wp2
      go_ret
      exact ⟨by simp, rfl⟩
    · have e : E.inB fs.length x = false := by
        cases hb : E.inB fs.length x
        · rfl
        · exact absurd (E.inB_iff.1 hb).2 x1
      rw [e]
      clear e
      go_enter Try.func19, Try.ntmps19
      go_wp2
      go_ret
      exact ⟨by simp, rfl⟩
  · have e : E.inB fs.length x = false := by
      cases hb : E.inB fs.length x
      · rfl
      · exact absurd (E.inB_iff.1 hb).1 x0
    rw [e]
    clear e
    go_enter Try.func19, Try.ntmps19
    go_wp2
    go_ret
    exact ⟨by simp, rfl⟩
set_option maxRecDepth 100000 in
theorem says_calls (w : World) (B g bm : Nat) (fs : List E.Fl) (ls : List E.Lk) (h : AU B g w fs ls bm) (k : Nat) (hk : k < ls.length) (x y : Int) :
    Calls Try.prog 20 #[.pointer (some ⟨g, 0, none⟩), .int .i64 (k : Int), .int .i64 x, .int .i64 y] w fun e w' => e = .returned (.bool (E.says ls k x y)) ∧ w' = w := by
  obtain ⟨vn, vl, c0, c1, c2, h1, h2⟩ := h
  obtain ⟨a, cap, rfl, hn⟩ := h2.shape
  obtain ⟨b, off, rfl, hb, d0, d1, d2, d3, d4, -⟩ := h2.at_ hk
  have kl : (k : Int) < (ls.length : Int) := by omega
  have e : E.says ls k x y = decide ((ls.getD k E.l0).a = x ∧ (ls.getD k E.l0).b = y) := by unfold E.says E.at_; rw [Int.toNat_natCast]
  rw [e]
  clear h1 h2 c0 c1 d0 d3 d4 e
  generalize (ls.getD k E.l0).a = p at *
  generalize (ls.getD k E.l0).b = q at *
  by_cases x0 : p = x
  · by_cases x1 : q = y
    · have e : decide (p = x ∧ q = y) = true := by simp [x0, x1]
      rw [e]
      clear e
      subst x0 x1
      go_enter Try.func20, Try.ntmps20
      go_wp2
      go_ret
      exact ⟨by simp, rfl⟩
    · have e : decide (p = x ∧ q = y) = false := by simp [x0, x1]
      rw [e]
      clear e
      subst x0
      have x2 : (q == y) = false := by simp [x1]
      go_enter Try.func20, Try.ntmps20
      go_wp2
      go_ret
      exact ⟨by simp, rfl⟩
  · have e : decide (p = x ∧ q = y) = false := by simp [x0]
    rw [e]
    clear e
    have x2 : (p == x) = false := by simp [x0]
    go_enter Try.func20, Try.ntmps20
    go_wp2
    go_ret
    exact ⟨by simp, rfl⟩
end Go.Proofs.Ytcpmeehchmdljaa
