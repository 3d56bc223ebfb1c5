/-
  Hold.kept: all that was handed over is as it was.
-/
import Derived.Test.YtcpmeehchmdljaaHoldChain
namespace Go.Proofs.Ytcpmeehchmdljaa
open Go.RowKit
set_option linter.unusedVariables false
theorem unhideK {p : Prop} (h : Hid p) : p := h
theorem kept_blockK {w w' : World} {g : Nat} {o : Obj} (h : w.heap[g]? = some o) (b : Below w.heap.size w w') : w'.heap[g]? = some o := by
  rw [b.block _ (Array.getElem?_eq_some_iff.1 h).1]; exact h
set_option maxRecDepth 100000 in
set_option maxHeartbeats 4000000 in
theorem same_calls (w : World) (B : Nat) (va vb : Value) (l : List Int) (ha : IRow B w va l) (hb : IRow B w vb l) : Calls Try.prog 18 #[va, vb] w fun e w' => e = .returned (.bool true) ∧ ∃ m, w' = w.drewN m := by
  obtain ⟨a, ca, rfl, hl⟩ := ha.shape
  obtain ⟨b, cb, rfl, -⟩ := hb.shape
  replace ha := hide ha
  replace hb := hide hb
  go_enter Try.func18, Try.ntmps18
  go_wp2_with fail
  go_loopw [5] (fun i wr => ∃ j : Nat, i = .int .i64 (j : Int) ∧ j ≤ l.length ∧ Hid (∃ m, wr = w.drewN m)) (fun i _ => l.length - (intOf i).toNat)
  case atStart => exact ⟨0, rfl, Nat.zero_le _, ⟨0, rfl⟩⟩
  case round =>
    obtain ⟨j, rfl, hj, HW⟩ := hrel
    have HWn : Hid (∀ m', ∃ m, wr.drewN m' = w.drewN m) := by
      intro m'
      obtain ⟨m, e⟩ := HW.out
      exact ⟨m + m', by rw [e]; exact World.drewN_drewN _ _ _⟩
    by_cases hlt : j < l.length
    · obtain ⟨ga, oa, rfl, -, c1⟩ := ha.out.at_ hlt
      obtain ⟨gb, ob, rfl, -, c2⟩ := hb.out.at_ hlt
      have c1 : wr.cell? ⟨ga, oa + j, none⟩ = some (.int .i64 (l.getD j 0)) := by
        obtain ⟨m, e⟩ := HW.out
        rw [e]
        exact c1
      have c2 : wr.cell? ⟨gb, ob + j, none⟩ = some (.int .i64 (l.getD j 0)) := by
        obtain ⟨m, e⟩ := HW.out
        rw [e]
        exact c2
      generalize l.getD j 0 = x at *
      have g1 : (j : Int) < (l.length : Int) := by omega
      go_wp2_with fail
      go_quiet (fail)
      go_wp2
      go_roundw
      case rel => exact ⟨j + 1, by go_num, by omega, HWn.out _⟩
      case measure => simp [intOf]; omega
    · obtain rfl : j = l.length := by omega
      clear hlt hj
      go_wp2
      go_ret
      exact ⟨rfl, HW.out⟩
theorem HR.at_ {hb i j : Nat} {w : World} {vs : Nat → Value} {xs : Nat → List Value} (h : HR hb w vs xs) (hi : i < 6) (hj : j < (xs i).length) :
    ∃ g k u, vs i = .slice (some ⟨g, 0, none⟩) (xs i).length k ∧ (xs i)[j]? = some u ∧ w.cell? ⟨g, j, none⟩ = some u := by
  have o := h.2.1 i hi
  rcases id o.2 with ⟨-, e⟩ | ⟨g, cap, cur, e, -⟩
  · omega
  · obtain ⟨u, hu⟩ : ∃ u, (xs i)[j]? = some u := ⟨_, List.getElem?_eq_getElem hj⟩
    refine ⟨g, cap, u, e, hu, ?_⟩
    rw [e] at o
    have := o.cells (g := g) rfl j u hu
    rw [Addr.add_lit, Nat.zero_add] at this
    exact this
theorem HG.num_at {B hb : Nat} {w : World} {ns : List NE} {fs : List FE} {ls : List LE'} (h : HG B hb w ns fs ls) {j : Nat} (hj : j < ns.length) :
    ∃ g0 k0 g1 k1 m v l, w.cell? ⟨hb, 0, none⟩ = some (.slice (some ⟨g0, 0, none⟩) ns.length k0) ∧ w.cell? ⟨hb, 1, none⟩ = some (.slice (some ⟨g1, 0, none⟩) ns.length k1) ∧ w.cell? ⟨g0, j, none⟩ = some m ∧ w.cell? ⟨g1, j, none⟩ = some v ∧ DI w m l ∧ IRow B w v l := by
  obtain ⟨⟨vs, hr⟩, h1, -, -⟩ := h
  have e0 : (rowsH ns fs ls 0) = ns.map (fun x => x.1) := rfl
  have e1 : (rowsH ns fs ls 1) = ns.map (fun x => x.2.1) := rfl
  obtain ⟨g0, k0, u0, a1, a2, a3⟩ := hr.at_ (i := 0) (j := j) (by decide) (by rw [e0, List.length_map]; exact hj)
  obtain ⟨g1, k1, u1, b1, b2, b3⟩ := hr.at_ (i := 1) (j := j) (by decide) (by rw [e1, List.length_map]; exact hj)
  rw [e0, List.length_map] at a1
  rw [e1, List.length_map] at b1
  rw [e0, List.getElem?_map, List.getElem?_eq_getElem hj, Option.map_some, Option.some.injEq] at a2
  rw [e1, List.getElem?_map, List.getElem?_eq_getElem hj, Option.map_some, Option.some.injEq] at b2
  obtain ⟨p, q⟩ := h1 _ (List.getElem_mem hj)
  rw [a2] at p
  rw [b2] at q
  exact ⟨g0, k0, g1, k1, u0, u1, _, (hr.cell (i := 0) (by decide)).1.trans (congrArg some a1), (hr.cell (i := 1) (by decide)).1.trans (congrArg some b1), a3, b3, p, q⟩
theorem HG.flat_at {B hb : Nat} {w : World} {ns : List NE} {fs : List FE} {ls : List LE'} (h : HG B hb w ns fs ls) {j : Nat} (hj : j < fs.length) :
    ∃ g0 k0 g1 k1 m v l, w.cell? ⟨hb, 2, none⟩ = some (.slice (some ⟨g0, 0, none⟩) fs.length k0) ∧ w.cell? ⟨hb, 3, none⟩ = some (.slice (some ⟨g1, 0, none⟩) fs.length k1) ∧ w.cell? ⟨g0, j, none⟩ = some m ∧ w.cell? ⟨g1, j, none⟩ = some v ∧ DF w m l ∧ Flats B w v l := by
  obtain ⟨⟨vs, hr⟩, -, h1, -⟩ := h
  have e0 : (rowsH ns fs ls 2) = fs.map (fun x => x.1) := rfl
  have e1 : (rowsH ns fs ls 3) = fs.map (fun x => x.2.1) := rfl
  obtain ⟨g0, k0, u0, a1, a2, a3⟩ := hr.at_ (i := 2) (j := j) (by decide) (by rw [e0, List.length_map]; exact hj)
  obtain ⟨g1, k1, u1, b1, b2, b3⟩ := hr.at_ (i := 3) (j := j) (by decide) (by rw [e1, List.length_map]; exact hj)
  rw [e0, List.length_map] at a1
  rw [e1, List.length_map] at b1
  rw [e0, List.getElem?_map, List.getElem?_eq_getElem hj, Option.map_some, Option.some.injEq] at a2
  rw [e1, List.getElem?_map, List.getElem?_eq_getElem hj, Option.map_some, Option.some.injEq] at b2
  obtain ⟨p, q⟩ := h1 _ (List.getElem_mem hj)
  rw [a2] at p
  rw [b2] at q
  exact ⟨g0, k0, g1, k1, u0, u1, _, (hr.cell (i := 2) (by decide)).1.trans (congrArg some a1), (hr.cell (i := 3) (by decide)).1.trans (congrArg some b1), a3, b3, p, q⟩
theorem HG.link_at {B hb : Nat} {w : World} {ns : List NE} {fs : List FE} {ls : List LE'} (h : HG B hb w ns fs ls) {j : Nat} (hj : j < ls.length) :
    ∃ g0 k0 g1 k1 m v l, w.cell? ⟨hb, 4, none⟩ = some (.slice (some ⟨g0, 0, none⟩) ls.length k0) ∧ w.cell? ⟨hb, 5, none⟩ = some (.slice (some ⟨g1, 0, none⟩) ls.length k1) ∧ w.cell? ⟨g0, j, none⟩ = some m ∧ w.cell? ⟨g1, j, none⟩ = some v ∧ DL w m l ∧ Links B w v l := by
  obtain ⟨⟨vs, hr⟩, -, -, h1⟩ := h
  have e0 : (rowsH ns fs ls 4) = ls.map (fun x => x.1) := rfl
  have e1 : (rowsH ns fs ls 5) = ls.map (fun x => x.2.1) := rfl
  obtain ⟨g0, k0, u0, a1, a2, a3⟩ := hr.at_ (i := 4) (j := j) (by decide) (by rw [e0, List.length_map]; exact hj)
  obtain ⟨g1, k1, u1, b1, b2, b3⟩ := hr.at_ (i := 5) (j := j) (by decide) (by rw [e1, List.length_map]; exact hj)
  rw [e0, List.length_map] at a1
  rw [e1, List.length_map] at b1
  rw [e0, List.getElem?_map, List.getElem?_eq_getElem hj, Option.map_some, Option.some.injEq] at a2
  rw [e1, List.getElem?_map, List.getElem?_eq_getElem hj, Option.map_some, Option.some.injEq] at b2
  obtain ⟨p, q⟩ := h1 _ (List.getElem_mem hj)
  rw [a2] at p
  rw [b2] at q
  exact ⟨g0, k0, g1, k1, u0, u1, _, (hr.cell (i := 4) (by decide)).1.trans (congrArg some a1), (hr.cell (i := 5) (by decide)).1.trans (congrArg some b1), a3, b3, p, q⟩
/-- How long the lists of a Hold are. -/
theorem HG.lens {B hb : Nat} {w : World} {ns : List NE} {fs : List FE} {ls : List LE'} (h : HG B hb w ns fs ls) : ∃ a0 c0 a2 c2 a4 c4, w.cell? ⟨hb, 0, none⟩ = some (.slice a0 ns.length c0) ∧ w.cell? ⟨hb, 2, none⟩ = some (.slice a2 fs.length c2) ∧ w.cell? ⟨hb, 4, none⟩ = some (.slice a4 ls.length c4) := by
  obtain ⟨⟨vs, hr⟩, -⟩ := h
  have P : ∀ i, i < 6 → ∃ a c, w.cell? ⟨hb, i, none⟩ = some (.slice a (rowsH ns fs ls i).length c) := fun i hi => by
    obtain ⟨a, c, e⟩ := ownsRow_slice (hr.2.1 i hi)
    exact ⟨a, c, (hr.cell hi).1.trans (congrArg some e)⟩
  obtain ⟨a0, c0, h0⟩ := P 0 (by decide)
  obtain ⟨a2, c2, h2⟩ := P 2 (by decide)
  obtain ⟨a4, c4, h4⟩ := P 4 (by decide)
  refine ⟨a0, c0, a2, c2, a4, c4, ?_, ?_, ?_⟩
  · rw [h0]; show some (Value.slice a0 (List.map _ ns).length c0) = _; rw [List.length_map]
  · rw [h2]; show some (Value.slice a2 (List.map _ fs).length c2) = _; rw [List.length_map]
  · rw [h4]; show some (Value.slice a4 (List.map _ ls).length c4) = _; rw [List.length_map]
theorem HG.below' {B hb : Nat} {w w' : World} {ns : List NE} {fs : List FE} {ls : List LE'} (h : Hid (HG B hb w ns fs ls)) (hB : Hid (B ≤ hb)) (q : Hid (Below w.heap.size w w')) : HG B hb w' ns fs ls := h.out.below hB.out q.out
set_option maxRecDepth 100000 in
set_option maxHeartbeats 8000000 in
theorem kept_calls (w : World) (B hb : Nat) (ns : List NE) (fs : List FE) (ls : List LE') (h : HG B hb w ns fs ls) (hB : B ≤ hb) (n0 : ns.length ≤ 1099511627776) (n1 : fs.length ≤ 1048576) (n2 : ls.length ≤ 1048576) :
    Calls Try.prog 12 #[.pointer (some ⟨hb, 0, none⟩)] w fun e w' => e = .returned (.bool true) ∧ Below w.heap.size w w' := by
  have hlt := h.lt
  have HB := hide hB
  have BL : Hid (B ≤ w.heap.size) := by show B ≤ _; omega
  replace h := hide h
  have R0 : Hid (Below w.heap.size w w) := Below.refl _ _
  go_enter Try.func12, Try.ntmps12
  go_wp2_with fail
  go_loopw [3] (fun x wr => ∃ k : Nat, x = .int .i64 (k : Int) ∧ k ≤ ns.length ∧ Hid (Below w.heap.size w wr)) (fun x _ => ns.length - (intOf x).toNat)
  case atStart => exact ⟨0, rfl, Nat.zero_le _, R0⟩
  case round =>
    clear R0
    obtain ⟨k, rfl, hk, BB⟩ := hrel
    have hsz := BB.out.size
    have G := HG.below' h HB BB
    by_cases hkl : k < ns.length
    · obtain ⟨g0, k0, g1, k1, m, v, l, c0, c1, c2, c3, D, R⟩ := G.num_at hkl
      replace G := hide G
      have kl : (k : Int) < (ns.length : Int) := by omega
      have k00 : (0 : Int) ≤ (k : Int) := by omega
      obtain ⟨av, cv, rfl, ln⟩ := R.shape
      have DR := D.row ln
      have R' : IRow wr.heap.size wr (.slice av l.length cv) l := by
        obtain ⟨a, c, e, h1, h2⟩ := R
        exact ⟨a, c, e, h1, fun hne => by obtain ⟨b, off, e1, hb, hc⟩ := h2 hne; exact ⟨b, off, e1, by have := BL.out; omega, hc⟩⟩
      obtain ⟨g, cap, rfl, hc, -, -, d1, d2⟩ := D
      have l0 : (0 : Int) ≤ (l.length : Int) := by omega
      have l1 : (l.length : Int) < ((l.length + 2 : Nat) : Int) := by omega
      have l2 : (l.length : Int) + 1 < ((l.length + 2 : Nat) : Int) := by omega
      have l3 : (0 : Int) ≤ (l.length : Int) + 1 := by omega
      have l4 : (l.length : Int) ≤ (cap : Int) := by omega
      have l5 : IntKind.i64.wrap ((l.length : Int) + 1) = (l.length : Int) + 1 := by rw [IntKind.wrap_i64]; omega
      have S := hide (fun n => same_calls (wr.drewN n) wr.heap.size (.slice (some ⟨g, 0, none⟩) l.length cap) (.slice av l.length cv) l DR R')
      have BN := hide (fun n => below_drewN BB.out n)
      clear R R' DR
      go_wp2_with fail
      go_quiet ((go_at_call 18; exact Calls.quiet_of (unhideK S _)))
      go_wp2
      go_roundw
      case rel => exact ⟨k + 1, by go_num, by omega, BN.out _⟩
      case measure => simp [intOf]; omega
    · obtain rfl : k = ns.length := by omega
      obtain ⟨a0, c0, a2, c2, a4, c4, q0, q2, q4⟩ := G.lens
      clear hkl hk G q2 q4
      go_wp2_with fail
      clear q0 hsz
      go_loopw [6] (fun x wr => ∃ k : Nat, x = .int .i64 (k : Int) ∧ k ≤ fs.length ∧ Hid (Below w.heap.size w wr)) (fun x _ => fs.length - (intOf x).toNat)
      case atStart => exact ⟨0, rfl, Nat.zero_le _, BB⟩
      case round =>
        clear BB
        obtain ⟨k, rfl, hk, BB⟩ := hrel
        have hsz := BB.out.size
        have G := HG.below' h HB BB
        by_cases hkl : k < fs.length
        · generalize wr = w2 at *
          obtain ⟨g0, k0, g1, k1, m, v, l, c0, c1, c2, c3, D, R⟩ := G.flat_at hkl
          replace G := hide G
          have kl : (k : Int) < (fs.length : Int) := by omega
          have k00 : (0 : Int) ≤ (k : Int) := by omega
          obtain ⟨av, cv, rfl, ln⟩ := R.shape
          have DD := hide D
          have RR := hide R
          obtain ⟨g, cap, rfl, hc, -, -, d1, d2⟩ := D
          have hb3 : hb < w2.heap.size := by omega
          have hg1 := World.block_lt_of_cell? _ _ c3
          have l0 : (0 : Int) ≤ (l.length : Int) := by omega
          have l1 : (l.length : Int) < ((l.length + 2 : Nat) : Int) := by omega
          have l2 : (l.length : Int) + 1 < ((l.length + 2 : Nat) : Int) := by omega
          have l3 : (0 : Int) ≤ (l.length : Int) + 1 := by omega
          have l5 : IntKind.i64.wrap ((l.length : Int) + 1) = (l.length : Int) + 1 := by rw [IntKind.wrap_i64]; omega
          clear R
          go_wp2_with fail
          have RI : Hid (Below w2.heap.size w2 w2) := Below.refl _ _
          go_loopw [9] (fun x wr => ∃ q : Nat, x = .int .i64 (q : Int) ∧ q ≤ l.length ∧ Hid (Below w2.heap.size w2 wr)) (fun x _ => l.length - (intOf x).toNat)
          case atStart => exact ⟨0, rfl, Nat.zero_le _, RI⟩
          case round =>
            clear RI
            obtain ⟨q, rfl, hq, BI⟩ := hrel
            have C1 := (BI.out.cell (p := ⟨hb, 3, none⟩) hb3).trans c1
            have C3 := (BI.out.cell (p := ⟨g1, k, none⟩) hg1).trans c3
            have hsi := BI.out.size
            have BW := hide (BB.out.then_below BI.out)
            by_cases hql : q < l.length
            · clear c0 c1 c2 c3 d1 d2
              obtain ⟨g', cap', e, -, -, hd, -, -⟩ := DD.out.keeps (Hk.of_below BI.out (Nat.le_refl _))
              cases e
              obtain ⟨x0, mm, x1, x2⟩ := hd q hql
              obtain ⟨b, off, rfl, hb', y0, u, y1, y2⟩ := (RR.out.below (BI.out.mono (by have := BL.out; omega))).at_ hql
              have ql : (q : Int) < (l.length : Int) := by omega
              have q00 : (0 : Int) ≤ (q : Int) := by omega
              have ql2 : (q : Int) < ((l.length + 2 : Nat) : Int) := by omega
              have DR := x1.row (by obtain ⟨a, c, -, h1, -⟩ := y2; exact h1)
              have Y2 : IRow wr.heap.size wr u (l.getD q E.f0).args := by
                obtain ⟨a, c, e, h1, h2⟩ := y2
                exact ⟨a, c, e, h1, fun hne => by obtain ⟨b, off, e1, hb, hc⟩ := h2 hne; exact ⟨b, off, e1, by have := BL.out; omega, hc⟩⟩
              have S := hide (fun n => same_calls (wr.drewN n) wr.heap.size (cutV mm (l.getD q E.f0).args.length) u (l.getD q E.f0).args DR Y2)
              have BN := hide (fun n => below_drewN BI.out n)
              clear DR Y2 x1 y2 hd
              generalize (l.getD q E.f0).fn = fn at *
              generalize (l.getD q E.f0).args = xs at *
              generalize cutV mm xs.length = cm at *
              have ff : (fn != fn) = false := by simp
              go_wp2_with fail
              go_quiet ((go_at_call 18; exact Calls.quiet_of (unhideK S _)))
              go_wp2
              go_roundw
              case rel => exact ⟨q + 1, by go_num, by omega, BN.out _⟩
              case measure => simp [intOf]; omega
            · obtain rfl : q = l.length := by omega
              have hgg := World.block_lt_of_cell? _ _ d1
              have D1 := (BI.out.cell (p := ⟨g, l.length * 2, none⟩) hgg).trans d1
              have D2 := (BI.out.cell (p := ⟨g, (l.length + 1) * 2, none⟩) hgg).trans d2
              clear c0 c1 c2 c3 d1 d2 hql hq C1 C3
              go_wp2_with fail
              go_roundw
              case rel => exact ⟨k + 1, by go_num, by omega, BW⟩
              case measure => simp [intOf]; omega
        · obtain rfl : k = fs.length := by omega
          obtain ⟨a0, c0, a2, c2, a4, c4, q0, q2, q4⟩ := G.lens
          clear hkl hk G q0 q4
          go_wp2_with fail
          clear q2 hsz
          go_loopw [10] (fun x wr => ∃ k : Nat, x = .int .i64 (k : Int) ∧ k ≤ ls.length ∧ Hid (Below w.heap.size w wr)) (fun x _ => ls.length - (intOf x).toNat)
          case atStart => exact ⟨0, rfl, Nat.zero_le _, BB⟩
          case round =>
            clear BB
            obtain ⟨k, rfl, hk, BB⟩ := hrel
            have hsz := BB.out.size
            have G := HG.below' h HB BB
            by_cases hkl : k < ls.length
            · generalize wr = w2 at *
              obtain ⟨g0, k0, g1, k1, m, v, l, c0, c1, c2, c3, D, R⟩ := G.link_at hkl
              replace G := hide G
              have kl : (k : Int) < (ls.length : Int) := by omega
              have k00 : (0 : Int) ≤ (k : Int) := by omega
              obtain ⟨av, cv, rfl, ln⟩ := R.shape
              have DD := hide D
              have RR := hide R
              obtain ⟨g, cap, rfl, hc, -, -, d1, d2⟩ := D
              have hb3 : hb < w2.heap.size := by omega
              have hg1 := World.block_lt_of_cell? _ _ c3
              have l0 : (0 : Int) ≤ (l.length : Int) := by omega
              have l1 : (l.length : Int) < ((l.length + 2 : Nat) : Int) := by omega
              have l2 : (l.length : Int) + 1 < ((l.length + 2 : Nat) : Int) := by omega
              have l3 : (0 : Int) ≤ (l.length : Int) + 1 := by omega
              have l5 : IntKind.i64.wrap ((l.length : Int) + 1) = (l.length : Int) + 1 := by rw [IntKind.wrap_i64]; omega
              clear R
              go_wp2_with fail
              have RI : Hid (Below w2.heap.size w2 w2) := Below.refl _ _
              go_loopw [13] (fun x wr => ∃ q : Nat, x = .int .i64 (q : Int) ∧ q ≤ l.length ∧ Hid (Below w2.heap.size w2 wr)) (fun x _ => l.length - (intOf x).toNat)
              case atStart => exact ⟨0, rfl, Nat.zero_le _, RI⟩
              case round =>
                clear RI
                obtain ⟨q, rfl, hq, BI⟩ := hrel
                have C1 := (BI.out.cell (p := ⟨hb, 5, none⟩) hb3).trans c1
                have C3 := (BI.out.cell (p := ⟨g1, k, none⟩) hg1).trans c3
                have hsi := BI.out.size
                have BW := hide (BB.out.then_below BI.out)
                by_cases hql : q < l.length
                · clear c0 c1 c2 c3 d1 d2
                  obtain ⟨g', cap', e, -, -, hd, -, -⟩ := DD.out.keeps (Hk.of_below BI.out (Nat.le_refl _))
                  cases e
                  obtain ⟨x0, x1, x2, x3, mm, x4, x5⟩ := hd q hql
                  obtain ⟨b, off, rfl, hb', y0, y1, y2, y3, ⟨u, y4, y5⟩, -⟩ := (RR.out.below (BI.out.mono (by have := BL.out; omega))).at_ hql
                  have ql : (q : Int) < (l.length : Int) := by omega
                  have q00 : (0 : Int) ≤ (q : Int) := by omega
                  have ql2 : (q : Int) < ((l.length + 2 : Nat) : Int) := by omega
                  have DR := x4.row (by obtain ⟨a, c, -, h1, -⟩ := y5; exact h1)
                  have Y2 : IRow wr.heap.size wr u (l.getD q E.l0).kids := by
                    obtain ⟨a, c, e, h1, h2⟩ := y5
                    exact ⟨a, c, e, h1, fun hne => by obtain ⟨b, off, e1, hb, hc⟩ := h2 hne; exact ⟨b, off, e1, by have := BL.out; omega, hc⟩⟩
                  clear x4 y5 hd
                  generalize (l.getD q E.l0).kind = kd at *
                  generalize (l.getD q E.l0).a = la at *
                  generalize (l.getD q E.l0).b = lb at *
                  generalize (l.getD q E.l0).tag = tg at *
                  generalize (l.getD q E.l0).kids = xs at *
                  generalize cutV mm xs.length = cm at *
                  obtain ⟨ca, cc, rfl, -⟩ := DR.shape
                  obtain ⟨ua, uc, rfl, -⟩ := Y2.shape
                  have f0 : (kd != kd) = false := by simp
                  have f1 : (la != la) = false := by simp
                  have f2 : (lb != lb) = false := by simp
                  have f3 : (tg != tg) = false := by simp
                  have Q1 : Below wr.heap.size wr (wr.alloc (.cells #[.int .i64 kd, .int .i64 la, .int .i64 lb, .int .i64 tg, .slice ca xs.length cc] 26)) := (Below.refl _ wr).alloc (Nat.le_refl _) _
                  have Q2 : Below wr.heap.size wr ((wr.alloc (.cells #[.int .i64 kd, .int .i64 la, .int .i64 lb, .int .i64 tg, .slice ca xs.length cc] 26)).alloc (.cells #[.int .i64 kd, .int .i64 la, .int .i64 lb, .int .i64 tg, .slice ua xs.length uc] 26)) := Q1.alloc Q1.size _
                  have S := hide (same_calls _ wr.heap.size (.slice ca xs.length cc) (.slice ua xs.length uc) xs (DR.below Q2) (Y2.below Q2))
                  have X0 := hide (heap_alloc_new wr (.cells #[.int .i64 kd, .int .i64 la, .int .i64 lb, .int .i64 tg, .slice ca xs.length cc] 26))
                  have X1 := hide (kept_blockK (w' := (wr.alloc (.cells #[.int .i64 kd, .int .i64 la, .int .i64 lb, .int .i64 tg, .slice ca xs.length cc] 26)).alloc (.cells #[.int .i64 kd, .int .i64 la, .int .i64 lb, .int .i64 tg, .slice ua xs.length uc] 26)) X0.out ((Below.refl _ _).alloc (Nat.le_refl _) _))
                  have Y1 := hide (heap_alloc_new (wr.alloc (.cells #[.int .i64 kd, .int .i64 la, .int .i64 lb, .int .i64 tg, .slice ca xs.length cc] 26)) (.cells #[.int .i64 kd, .int .i64 la, .int .i64 lb, .int .i64 tg, .slice ua xs.length uc] 26))
                  have sx : (wr.alloc (.cells #[.int .i64 kd, .int .i64 la, .int .i64 lb, .int .i64 tg, .slice ca xs.length cc] 26)).heap.size = wr.heap.size + 1 := by show (wr.heap.push _).size = _; simp
                  have R1 : (wr.alloc (.cells #[.int .i64 kd, .int .i64 la, .int .i64 lb, .int .i64 tg, .slice ca xs.length cc] 26)).cell? ⟨hb, 5, none⟩ = some (.slice (some ⟨g1, 0, none⟩) ls.length k1) := (Q1.cell (p := ⟨hb, 5, none⟩) (by show hb < _; omega)).trans C1
                  have R3 : (wr.alloc (.cells #[.int .i64 kd, .int .i64 la, .int .i64 lb, .int .i64 tg, .slice ca xs.length cc] 26)).cell? ⟨g1, k, none⟩ = some (.slice (some ⟨b, off, none⟩) l.length cv) := (Q1.cell (p := ⟨g1, k, none⟩) (by show g1 < _; omega)).trans C3
                  have z0 := (Q1.cell (p := ⟨b, off + q * 5, none⟩) (World.block_lt_of_cell? _ _ y0)).trans y0
                  have z1 := (Q1.cell (p := ⟨b, off + q * 5 + 1, none⟩) (World.block_lt_of_cell? _ _ y1)).trans y1
                  have z2 := (Q1.cell (p := ⟨b, off + q * 5 + 2, none⟩) (World.block_lt_of_cell? _ _ y2)).trans y2
                  have z3 := (Q1.cell (p := ⟨b, off + q * 5 + 3, none⟩) (World.block_lt_of_cell? _ _ y3)).trans y3
                  have z4 := (Q1.cell (p := ⟨b, off + q * 5 + 4, none⟩) (World.block_lt_of_cell? _ _ y4)).trans y4
                  rw [sx] at Y1
                  have BX := hide (BI.out.then_below Q2)
                  clear DR Y2 Q1 Q2 X0 y0 y1 y2 y3 y4
                  go_upto_region 30 with fail
                  obtain ⟨⟨i0, i1, i2, i3, i4⟩, -⟩ := five_box X1.out
                  obtain ⟨⟨j0, j1, j2, j3, j4⟩, -⟩ := five_box Y1.out
                  clear z0 z1 z2 z3 z4 x0 x1 x2 x3 x5 R1 R3 C1 C3
                  have BN : Hid (∀ m, Below w2.heap.size w2 (((wr.alloc (.cells #[.int .i64 kd, .int .i64 la, .int .i64 lb, .int .i64 tg, .slice ca xs.length cc] 26)).alloc (.cells #[.int .i64 kd, .int .i64 la, .int .i64 lb, .int .i64 tg, .slice ua xs.length uc] 26)).drewN m)) := fun m => below_drewN BX.out m
                  generalize (wr.alloc (.cells #[.int .i64 kd, .int .i64 la, .int .i64 lb, .int .i64 tg, .slice ca xs.length cc] 26)).alloc (.cells #[.int .i64 kd, .int .i64 la, .int .i64 lb, .int .i64 tg, .slice ua xs.length uc] 26) = w4 at *
                  go_wp2_with (go_at_call 18; refine S.out.mono ?_; rintro e wq ⟨rfl, mq, rfl⟩)
                  go_roundw
                  case rel => exact ⟨q + 1, by go_num, by omega, BN.out _⟩
                  case measure => simp [intOf]; omega
                · obtain rfl : q = l.length := by omega
                  have hgg := World.block_lt_of_cell? _ _ d1
                  have D1 := (BI.out.cell (p := ⟨g, l.length * 5, none⟩) hgg).trans d1
                  have D2 := (BI.out.cell (p := ⟨g, (l.length + 1) * 5, none⟩) hgg).trans d2
                  clear c0 c1 c2 c3 d1 d2 hql hq C1 C3
                  go_wp2_with fail
                  go_roundw
                  case rel => exact ⟨k + 1, by go_num, by omega, BW⟩
                  case measure => simp [intOf]; omega
            · obtain rfl : k = ls.length := by omega
              obtain ⟨a0, c0, a2, c2, a4, c4, q0, q2, q4⟩ := G.lens
              clear hkl hk G q0 q2
              go_wp2_with fail
              go_ret
              exact ⟨rfl, BB.out⟩
end Go.Proofs.Ytcpmeehchmdljaa
