/-
  euf: follows.
-/
import Derived.Test.YtcpmeehchmdljaaEufMap
namespace Go.Proofs.Ytcpmeehchmdljaa
open Go.RowKit Go.Maps
set_option linter.unusedVariables false
theorem fol_pre {fs : List E.Fl} {gs ls : List E.Lk} {i : Nat} {l : E.Lk} (hl : ls.getD i E.l0 = l) (h : E.preB fs l = false) : E.folB fs gs ls i = false := by
  unfold E.folB
  rw [hl, h]
  rfl
theorem fol_kids {fs : List E.Fl} {gs ls : List E.Lk} {i : Nat} {l : E.Lk} (hl : ls.getD i E.l0 = l) (h : E.ahead i l.kids = false) : E.folB fs gs ls i = false := by
  unfold E.folB
  rw [hl, h]
  simp
theorem fol_kind {fs : List E.Fl} {gs ls : List E.Lk} {i : Nat} {l : E.Lk} (hl : ls.getD i E.l0 = l) (h1 : E.preB fs l = true) (h2 : E.ahead i l.kids = true) : E.folB fs gs ls i = E.kindB fs gs ls l := by
  unfold E.folB
  rw [hl, h1, h2]
  rfl
set_option maxRecDepth 100000 in
set_option maxHeartbeats 4000000 in
theorem follows_calls (w : World) (B g bm : Nat) (fs : List E.Fl) (gs ls : List E.Lk) (h : AU B g w fs ls bm) (hm : FM w bm gs) (hg : W64 gs) (hB : B ≤ w.heap.size) (i : Nat) (hi : i < ls.length) :
    Calls Try.prog 14 #[.pointer (some ⟨g, 0, none⟩), .int .i64 (i : Int)] w fun e w' => e = .returned (.bool (E.folB fs gs ls i)) ∧ Below w.heap.size w w' := by
  have hA := hide h
  obtain ⟨vn, vl, c0, c1, c2, h1, h2⟩ := h
  obtain ⟨al, cl, rfl, hln⟩ := h2.shape
  obtain ⟨bl, ol, rfl, hbl, d0, d1, d2, d3, ⟨u, d4, R⟩, ia, ib, it⟩ := h2.at_ hi
  obtain ⟨au, cu, rfl, un⟩ := R.shape
  have il : (i : Int) < (ls.length : Int) := by omega
  obtain ⟨l, hl⟩ : ∃ l, ls.getD i E.l0 = l := ⟨_, rfl⟩
  rw [hl] at d0 d1 d2 d3 d4 R un ia ib it
  have PRE := hide (fun h => fol_pre (gs := gs) (fs := fs) hl h)
  have KID := hide (fun h => fol_kids (gs := gs) (fs := fs) hl h)
  have KIN := hide (fun h1 h2 => fol_kind (gs := gs) (fs := fs) hl h1 h2)
  clear hl h1 h2
  obtain ⟨kd, a, b, tg, ks⟩ := l
  simp only at d0 d1 d2 d3 d4 R un ia ib it
  have gl : g < w.heap.size := World.block_lt_of_cell? w _ c0
  have W1 : Hid (Below w.heap.size w (w.alloc (.cells #[.int .i64 kd, .int .i64 a, .int .i64 b, .int .i64 tg, .slice au ks.length cu] 26))) := (Below.refl _ w).alloc (Nat.le_refl _) _
  have A1 : Hid ((w.alloc (.cells #[.int .i64 kd, .int .i64 a, .int .i64 b, .int .i64 tg, .slice au ks.length cu] 26)).heap[w.heap.size]? = some (.cells #[.int .i64 kd, .int .i64 a, .int .i64 b, .int .i64 tg, .slice au ks.length cu] 26 (0, 0))) := heap_alloc_new w _
  replace R := hide R
  replace hm := hide hm
  go_enter Try.func14, Try.ntmps14
  go_upto_region 2 with fail
  generalize hw1 : (w.alloc (.cells #[.int .i64 kd, .int .i64 a, .int .i64 b, .int .i64 tg, .slice au ks.length cu] 26)) = w1 at *
  have z0 : w1.cell? ⟨w.heap.size, 0, none⟩ = some (.int .i64 kd) := by rw [cell_of_row _ _ _ _ _ _ A1.out]; rfl
  have z1 : w1.cell? ⟨w.heap.size, 1, none⟩ = some (.int .i64 a) := by rw [cell_of_row _ _ _ _ _ _ A1.out]; rfl
  have z2 : w1.cell? ⟨w.heap.size, 2, none⟩ = some (.int .i64 b) := by rw [cell_of_row _ _ _ _ _ _ A1.out]; rfl
  have z3 : w1.cell? ⟨w.heap.size, 3, none⟩ = some (.int .i64 tg) := by rw [cell_of_row _ _ _ _ _ _ A1.out]; rfl
  have z4 : w1.cell? ⟨w.heap.size, 4, none⟩ = some (.slice au ks.length cu) := by rw [cell_of_row _ _ _ _ _ _ A1.out]; rfl
  have w1l : w.heap.size < w1.heap.size := (Array.getElem?_eq_some_iff.1 A1.out).1
  have AU1 := hide (hA.out.below hB W1.out)
  have FM1 := hide (hm.out.below W1.out)
  have R1 := hide (R.out.below (W1.out.mono hB))
  have hB1 : B ≤ w1.heap.size := by omega
  have q1 := hide (node_calls w1 B g bm fs ls AU1.out a)
  have q2 := hide (node_calls w1 B g bm fs ls AU1.out b)
  clear c0 c1 c2 d0 d1 d2 d3 d4 hw1 hA R hm A1
  have prd : E.preB fs ⟨kd, a, b, tg, ks⟩ = (E.inB fs.length a && (E.inB fs.length b && decide (kd = 1 ∨ tg = 0))) := rfl
  go_cut [38] (fun sx wx => sx = .bool (!E.preB fs ⟨kd, a, b, tg, ks⟩) ∧ wx = w1)
  case first =>
    have PB := hide prd
    clear prd PRE KID KIN AU1 FM1 R1
    cases ha : E.inB fs.length a
    · rw [ha] at q1
      have e : Hid (E.preB fs ⟨kd, a, b, tg, ks⟩ = false) := by show _ = _; rw [PB.out, ha]; rfl
      clear ha
      go_wp2_with (go_at_call_of 19 (Value.int .i64 a); refine q1.out.mono ?_; rintro x w2 ⟨rfl, rfl⟩)
      go_meet
      exact ⟨by rw [e.out]; rfl, rfl⟩
    · rw [ha] at q1
      rw [ha] at PB
      clear ha
      cases hb : E.inB fs.length b
      · rw [hb] at q2
        have e : Hid (E.preB fs ⟨kd, a, b, tg, ks⟩ = false) := by show _ = _; rw [PB.out, hb]; rfl
        clear hb
        go_wp2_with (first
          | (go_at_call_of 19 (Value.int .i64 a); refine q1.out.mono ?_; rintro x w2 ⟨rfl, hq⟩; have hq := hq.symm; subst hq; clear q1)
          | (go_at_call_of 19 (Value.int .i64 b); refine q2.out.mono ?_; rintro x w3 ⟨rfl, hq⟩; have hq := hq.symm; subst hq))
        go_meet
        exact ⟨by rw [e.out]; rfl, rfl⟩
      · rw [hb] at q2
        rw [hb] at PB
        clear hb
        by_cases k1 : kd = 1
        · subst k1
          have e : Hid (E.preB fs ⟨1, a, b, tg, ks⟩ = true) := by show _ = _; rw [PB.out]; simp
          go_wp2_with (first
            | (go_at_call_of 19 (Value.int .i64 a); refine q1.out.mono ?_; rintro x w2 ⟨rfl, hq⟩; have hq := hq.symm; subst hq; clear q1)
            | (go_at_call_of 19 (Value.int .i64 b); refine q2.out.mono ?_; rintro x w3 ⟨rfl, hq⟩; have hq := hq.symm; subst hq))
          go_meet
          exact ⟨by rw [e.out]; first | rfl | simp, rfl⟩
        · have k2 : (kd != 1) = true := by simpa using k1
          by_cases t1 : tg = 0
          · subst t1
            have e : Hid (E.preB fs ⟨kd, a, b, 0, ks⟩ = true) := by show _ = _; rw [PB.out]; simp
            go_wp2_with (first
              | (go_at_call_of 19 (Value.int .i64 a); refine q1.out.mono ?_; rintro x w2 ⟨rfl, hq⟩; have hq := hq.symm; subst hq; clear q1)
              | (go_at_call_of 19 (Value.int .i64 b); refine q2.out.mono ?_; rintro x w3 ⟨rfl, hq⟩; have hq := hq.symm; subst hq))
            go_meet
            exact ⟨by rw [e.out]; first | rfl | simp, rfl⟩
          · have t2 : (tg != 0) = true := by simpa using t1
            have e : Hid (E.preB fs ⟨kd, a, b, tg, ks⟩ = false) := by show _ = _; rw [PB.out]; simp [k1, t1]
            go_wp2_with (first
              | (go_at_call_of 19 (Value.int .i64 a); refine q1.out.mono ?_; rintro x w2 ⟨rfl, hq⟩; have hq := hq.symm; subst hq; clear q1)
              | (go_at_call_of 19 (Value.int .i64 b); refine q2.out.mono ?_; rintro x w3 ⟨rfl, hq⟩; have hq := hq.symm; subst hq))
            go_meet
            exact ⟨by rw [e.out]; first | rfl | simp, rfl⟩
  case rest =>
    obtain ⟨rfl, hw⟩ := hcut
    subst wc
    cases hp : E.preB fs ⟨kd, a, b, tg, ks⟩
    · have pr := hide hp
      clear prd hp
      go_wp2
      go_ret
      exact ⟨by rw [PRE.out pr.out]; rfl, W1.out⟩
    have pr := hide hp
    have hia : E.inB fs.length a = true := by
      rw [prd, Bool.and_eq_true] at hp
      exact hp.1
    have hib : E.inB fs.length b = true := by
      rw [prd, Bool.and_eq_true, Bool.and_eq_true] at hp
      exact hp.2.1
    replace hia := hide hia
    replace hib := hide hib
    have Y : Hid (∀ q, q < 0 → 0 ≤ ks.getD q 0 ∧ ks.getD q 0 < i) := fun q hq => by omega
    clear prd hp PRE q1 q2
    have Z := hide (And.intro z0 (And.intro z1 (And.intro z2 (And.intro z3 z4))))
    go_wp2_with fail
    clear z0 z1 z2 z3 z4
    go_loop [42] (fun x => ∃ p : Nat, x = .int .i64 (p : Int) ∧ p ≤ ks.length ∧ Hid (∀ q, q < p → 0 ≤ ks.getD q 0 ∧ ks.getD q 0 < i)) (fun x => ks.length - (intOf x).toNat)
    case atStart => exact ⟨0, rfl, Nat.zero_le _, Y⟩
    case round =>
      clear Y
      obtain ⟨p, rfl, hp, T⟩ := hrel
      by_cases hpl : p < ks.length
      · obtain ⟨b', off', rfl, hb', e0⟩ := R1.out.at_ hpl
        have pl : (p : Int) < (ks.length : Int) := by omega
        obtain ⟨x, hx⟩ : ∃ x, ks.getD p 0 = x := ⟨_, rfl⟩
        rw [hx] at e0
        replace hx := hide hx
        by_cases hx0 : x < 0
        · have no : Hid (E.folB fs gs ls i = false) := KID.out (ahead_false hpl (by rw [hx.out]; omega))
          go_wp2
          go_ret
          exact ⟨by rw [no.out]; rfl, W1.out⟩
        · by_cases hxk : (i : Int) ≤ x
          · have no : Hid (E.folB fs gs ls i = false) := KID.out (ahead_false hpl (by rw [hx.out]; omega))
            go_wp2
            go_ret
            exact ⟨by rw [no.out]; rfl, W1.out⟩
          · have T1 : Hid (∀ q, q < p + 1 → 0 ≤ ks.getD q 0 ∧ ks.getD q 0 < i) := by
              intro q hq
              rcases Nat.lt_or_ge q p with c | c
              · exact T.out q c
              · obtain rfl : q = p := by omega
                rw [hx.out]
                omega
            go_wp2
            go_round
            case rel => exact ⟨p + 1, by go_num, by omega, T1⟩
            case measure => simp [intOf]; omega
      · obtain rfl : p = ks.length := by omega
        have FK := hide (KIN.out pr.out (ahead_true T.out))
        clear hpl hp KID KIN
        obtain ⟨z0, z1, z2, z3, z4⟩ := Z.out
        have kB : E.kindB fs gs ls ⟨kd, a, b, tg, ks⟩ = (if kd = 1 then E.factB gs a b tg && decide (ks.length = 0)
          else if kd = 2 then decide (ks.length = 0) && decide (a = b)
          else if kd = 3 then decide (ks.length = 1) && E.says ls (ks.getD 0 0) b a
          else if kd = 4 then decide (ks.length = 2) && (E.says ls (ks.getD 0 0) a (E.at_ ls (ks.getD 1 0)).a && decide ((E.at_ ls (ks.getD 1 0)).b = b))
          else if kd = 5 then E.congB fs ls ⟨kd, a, b, tg, ks⟩ else false) := rfl
        by_cases k1 : kd = 1
        · subst k1
          rw [if_pos rfl] at kB
          rw [kB] at FK
          clear kB
          obtain ⟨vn, vl, c0, c1, c2, -, -⟩ := AU1.out
          clear c0 c2
          have gl1 : g < w1.heap.size := by omega
          go_upto_region 12 with fail
          go_cut [9] (fun sx wx => sx = .bool (E.factB gs a b tg) ∧ Hid (Below w1.heap.size w1 wx))
          case first =>
            have KP : ∀ {W : World}, Below w1.heap.size w1 W → W.cell? ⟨g, 1, none⟩ = some (.map (some bm)) ∧ W.cell? ⟨w.heap.size, 1, none⟩ = some (.int .i64 a) ∧ W.cell? ⟨w.heap.size, 2, none⟩ = some (.int .i64 b) ∧ W.cell? ⟨w.heap.size, 3, none⟩ = some (.int .i64 tg) ∧ (Instr.lookup 48 (.map (some bm)) (.agg #[.int .i64 a, .int .i64 b, .int .i64 tg]) true).run Try.prog W = .ok (.tuple #[.agg #[], .bool (E.factB gs a b tg)]) W ∧ Below w1.heap.size w1 W :=
              fun h => ⟨(h.cell (p := ⟨g, 1, none⟩) gl1).trans c1, (h.cell (p := ⟨w.heap.size, 1, none⟩) w1l).trans z1, (h.cell (p := ⟨w.heap.size, 2, none⟩) w1l).trans z2, (h.cell (p := ⟨w.heap.size, 3, none⟩) w1l).trans z3, (FM1.out.below h).look hg ia ib it, h⟩
            have D1 : Below w1.heap.size w1 w1.drew := (Below.refl _ _).drew
            clear c1 z0 z1 z2 z3 z4 FK FM1 AU1 R1 T Z hg ia ib it
            generalize E.factB gs a b tg = fb at *
            go_region_held3 (fun W => W.cell? ⟨g, 1, none⟩ = some (.map (some bm)) ∧ W.cell? ⟨w.heap.size, 1, none⟩ = some (.int .i64 a) ∧ W.cell? ⟨w.heap.size, 2, none⟩ = some (.int .i64 b) ∧ W.cell? ⟨w.heap.size, 3, none⟩ = some (.int .i64 tg) ∧ (Instr.lookup 48 (.map (some bm)) (.agg #[.int .i64 a, .int .i64 b, .int .i64 tg]) true).run Try.prog W = .ok (.tuple #[.agg #[], .bool fb]) W ∧ Below w1.heap.size w1 W)
              ((refine KP ?_; repeat (first | exact D1 | exact Below.refl _ _ | (refine Below.drew ?_) | (refine Below.then_below ?_ (alloc_bel _ _)))))
              (fail)
            all_goals (go_wp2_with fail; go_meet)
            all_goals (refine ⟨rfl, ?_⟩; show Below _ _ _; repeat (first | exact D1 | exact Below.refl _ _ | (refine Below.drew ?_) | (refine Below.then_below ?_ (alloc_bel _ _))))
          case rest =>
            obtain ⟨rfl, BC⟩ := hcut
            have z4' := (BC.out.cell (p := ⟨w.heap.size, 4, none⟩) w1l).trans z4
            have BF := hide (W1.out.then_below BC.out)
            clear z0 z1 z2 z3 z4 c1 Z
            generalize E.factB gs a b tg = fb at *
            cases fb
            · go_wp2
              go_ret
              exact ⟨by rw [FK.out]; rfl, BF.out⟩
            · by_cases kz : ks.length = 0
              · have kz1 : ((ks.length : Int) == 0) = true := by rw [beq_iff_eq]; omega
                have e := hide (decide_eq_true kz)
                clear kz
                go_wp2
                go_ret
                exact ⟨by rw [FK.out, e.out]; first | rfl | simp_all, BF.out⟩
              · have kz1 : ((ks.length : Int) == 0) = false := by rw [beq_eq_false_iff_ne]; omega
                have e := hide (decide_eq_false kz)
                go_wp2
                go_ret
                exact ⟨by rw [FK.out, e.out]; first | rfl | simp_all, BF.out⟩
        rw [if_neg k1] at kB
        have k1b : (kd == 1) = false := by simpa using k1
        by_cases k2 : kd = 2
        · subst k2
          rw [if_pos rfl] at kB
          rw [kB] at FK
          clear kB
          by_cases kz : ks.length = 0
          · have kz1 : ((ks.length : Int) == 0) = true := by rw [beq_iff_eq]; omega
            by_cases ab : a = b
            · have e : Hid ((decide (ks.length = 0) && decide (a = b)) = true) := by show _ = _; rw [decide_eq_true kz, decide_eq_true ab]; rfl
              subst ab
              clear kz
              go_wp2
              go_ret
              exact ⟨by rw [FK.out, e.out]; first | rfl | simp_all, W1.out⟩
            · have e : Hid ((decide (ks.length = 0) && decide (a = b)) = false) := by show _ = _; rw [decide_eq_true kz, decide_eq_false ab]; rfl
              have ab1 : (a == b) = false := by simpa using ab
              clear kz
              go_wp2
              go_ret
              exact ⟨by rw [FK.out, e.out]; first | rfl | simp_all, W1.out⟩
          · have kz1 : ((ks.length : Int) == 0) = false := by rw [beq_eq_false_iff_ne]; omega
            have e : Hid ((decide (ks.length = 0) && decide (a = b)) = false) := by show _ = _; rw [decide_eq_false kz]; rfl
            go_wp2
            go_ret
            exact ⟨by rw [FK.out, e.out]; first | rfl | simp_all, W1.out⟩
        rw [if_neg k2] at kB
        have k2b : (kd == 2) = false := by simpa using k2
        by_cases k3 : kd = 3
        · subst k3
          rw [if_pos rfl] at kB
          rw [kB] at FK
          clear kB
          by_cases kz : ks.length = 1
          · obtain ⟨x, rfl⟩ := List.length_eq_one_iff.1 kz
            obtain ⟨b', off', rfl, hb', e0⟩ := R1.out.at_ (j := 0) (by simp)
            obtain ⟨x0, x1⟩ := T.out 0 (by simp)
            have e0 : w1.cell? ⟨b', off', none⟩ = some (.int .i64 x) := by simpa using e0
            simp only [List.getD_cons_zero] at x0 x1
            obtain ⟨q, rfl⟩ : ∃ q : Nat, x = q := ⟨x.toNat, by omega⟩
            have S := hide (fun n => says_calls (w1.drewN n) B g bm fs ls (show AU B g (w1.drewN n) fs ls bm from AU1.out) q (by omega) b a)
            have FK' : Hid (E.folB fs gs ls i = E.says ls q b a) := by show _ = _; rw [FK.out]; simp
            have BD := hide (fun n => below_drewN W1.out n)
            simp only [List.length_singleton] at z4
            clear FK T R1 x0 x1 kz
            generalize E.says ls q b a = sb at *
            go_wp2_with fail
            go_quiet ((go_at_call 20; exact Calls.quiet_of_same (unhideE S _)))
            go_wp2_with fail
            go_ret
            exact ⟨by rw [FK'.out]; first | rfl | simp, BD.out _⟩
          · have kz1 : ((ks.length : Int) == 1) = false := by rw [beq_eq_false_iff_ne]; omega
            have e : Hid (E.folB fs gs ls i = false) := by show _ = _; rw [FK.out, decide_eq_false kz]; rfl
            have BD := hide (fun n => below_drewN W1.out n)
            clear FK
            go_wp2_with fail
            go_quiet (fail)
            go_wp2_with fail
            go_ret
            exact ⟨by rw [e.out]; first | rfl | simp, BD.out _⟩
        rw [if_neg k3] at kB
        have k3b : (kd == 3) = false := by simpa using k3
        by_cases k4 : kd = 4
        · subst k4
          rw [if_pos rfl] at kB
          rw [kB] at FK
          clear kB
          by_cases kz : ks.length = 2
          · obtain ⟨x, y, rfl⟩ : ∃ x y, ks = [x, y] := by
              match ks, kz with
              | [x, y], _ => exact ⟨x, y, rfl⟩
            obtain ⟨b', off', rfl, hb', e0⟩ := R1.out.at_ (j := 0) (by simp)
            obtain ⟨b'', off'', eb, _, e1⟩ := R1.out.at_ (j := 1) (by simp)
            cases eb
            obtain ⟨x0, x1⟩ := T.out 0 (by simp)
            obtain ⟨y0, y1⟩ := T.out 1 (by simp)
            have e0 : w1.cell? ⟨b', off', none⟩ = some (.int .i64 x) := by simpa using e0
            have e1 : w1.cell? ⟨b', off' + 1, none⟩ = some (.int .i64 y) := by simpa using e1
            simp only [List.getD_cons_zero, List.getD_cons_succ] at x0 x1 y0 y1
            obtain ⟨q, rfl⟩ : ∃ q : Nat, x = q := ⟨x.toNat, by omega⟩
            obtain ⟨r, rfl⟩ : ∃ r : Nat, y = r := ⟨y.toNat, by omega⟩
            obtain ⟨vn, vl, c0, c1, c2, -, h2⟩ := AU1.out
            obtain ⟨ar, cr, rfl, -⟩ := h2.shape
            obtain ⟨br, orr, rfl, hbr, -, r1, r2, -, -, -, -, -⟩ := h2.at_ (j := r) (by omega)
            have rl : (r : Int) < (ls.length : Int) := by omega
            have FK' : Hid (E.folB fs gs ls i = (E.says ls q a (ls.getD r E.l0).a && decide ((ls.getD r E.l0).b = b))) := by
              show _ = _
              rw [FK.out]
              simp [E.at_]
            generalize (ls.getD r E.l0).a = ra at *
            generalize (ls.getD r E.l0).b = rb at *
            have S := hide (fun n => says_calls (w1.drewN n) B g bm fs ls (show AU B g (w1.drewN n) fs ls bm from AU1.out) q (by omega) a ra)
            have BD := hide (fun n => below_drewN W1.out n)
            simp only [List.length_cons, List.length_nil, Nat.zero_add, Nat.reduceAdd] at z4
            clear FK T R1 x0 x1 y0 y1 kz c0 c1 h2
            generalize E.says ls q a ra = sb at *
            cases sb
            · go_wp2_with fail
              go_quiet ((go_at_call 20; exact Calls.quiet_of_same (unhideE S _)))
              go_wp2_with fail
              go_ret
              exact ⟨by rw [FK'.out]; first | rfl | simp, BD.out _⟩
            · by_cases rbb : rb = b
              · subst rbb
                have rbe : (rb == rb) = true := by simp
                go_wp2_with fail
                go_quiet ((go_at_call 20; exact Calls.quiet_of_same (unhideE S _)))
                go_wp2_with fail
                go_ret
                exact ⟨by rw [FK'.out]; first | rfl | simp, BD.out _⟩
              · have rbe : (rb == b) = false := by simpa using rbb
                have FN : Hid (E.folB fs gs ls i = false) := by show _ = _; rw [FK'.out, decide_eq_false rbb]; rfl
                clear FK'
                go_wp2_with fail
                go_quiet ((go_at_call 20; exact Calls.quiet_of_same (unhideE S _)))
                go_wp2_with fail
                go_ret
                exact ⟨by rw [FN.out]; first | rfl | simp, BD.out _⟩
          · have kz1 : ((ks.length : Int) == 2) = false := by rw [beq_eq_false_iff_ne]; omega
            have e : Hid (E.folB fs gs ls i = false) := by show _ = _; rw [FK.out, decide_eq_false kz]; rfl
            have BD := hide (fun n => below_drewN W1.out n)
            clear FK
            go_wp2_with fail
            go_quiet (fail)
            go_wp2_with fail
            go_ret
            exact ⟨by rw [e.out]; first | rfl | simp, BD.out _⟩
        rw [if_neg k4] at kB
        have k4b : (kd == 4) = false := by simpa using k4
        by_cases k5 : kd = 5
        · subst k5
          rw [if_pos rfl] at kB
          rw [kB] at FK
          clear kB
          obtain ⟨na, rfl, la⟩ := inB_toNat hia.out
          obtain ⟨nb, rfl, lb⟩ := inB_toNat hib.out
          have C := hide (congruent_calls w1 B g bm fs ls AU1.out hB1 5 tg na nb (.slice au ks.length cu) ks la lb R1.out (fun j hj => by have := T.out j hj; omega))
          generalize E.congB fs ls ⟨5, na, nb, tg, ks⟩ = cb at *
          go_wp2_with (go_at_call 21; refine C.out.mono ?_; rintro x w2 ⟨rfl, b2⟩)
          go_ret
          exact ⟨by rw [FK.out]; first | rfl | simp, W1.out.then_below b2⟩
        rw [if_neg k5] at kB
        have k5b : (kd == 5) = false := by simpa using k5
        rw [kB] at FK
        clear kB
        go_wp2
        go_ret
        exact ⟨by rw [FK.out]; first | rfl | simp, W1.out⟩
end Go.Proofs.Ytcpmeehchmdljaa
