/-
  The document's looking over of links: Sound, Follows, Audit.
-/
import Derived.Test.YtcpmeehchmdljaaEufRefCong
namespace Go.Proofs.Ytcpmeehchmdljaa
open Go.RowKit
set_option linter.unusedVariables false
set_option maxRecDepth 100000 in
set_option maxHeartbeats 4000000 in
theorem rsound_calls (w : World) (B : Nat) (v : Value) (fs : List E.Fl) (h : Flats B w v fs) :
    Calls Try.prog 16 #[v] w fun e w' => e = .returned (.bool (E.soundB fs)) ∧ w' = w := by
  obtain ⟨a, cap, rfl, hn⟩ := h.shape
  replace h := hide h
  have Z : Hid (∀ q, q < 0 → E.ahead q (fs.getD q E.f0).args = true) := fun q hq => by omega
  go_enter Try.func16, Try.ntmps16
  go_wp2
  go_loop [3] (fun i => ∃ k : Nat, i = .int .i64 (k : Int) ∧ k ≤ fs.length ∧ Hid (∀ q, q < k → E.ahead q (fs.getD q E.f0).args = true)) (fun i => fs.length - (intOf i).toNat)
  case atStart => exact ⟨0, rfl, Nat.zero_le _, Z⟩
  case round =>
    obtain ⟨k, rfl, hk, P⟩ := hrel
    by_cases hlt : k < fs.length
    · obtain ⟨b, off, rfl, hb, c0, u, c1, R⟩ := h.out.at_ hlt
      obtain ⟨ua, uc, rfl, un⟩ := R.shape
      replace R := hide R
      have kl : (k : Int) < (fs.length : Int) := by omega
      obtain ⟨xs, hxs⟩ : ∃ xs, (fs.getD k E.f0).args = xs := ⟨_, rfl⟩
      rw [hxs] at R un c1
      replace hxs := hide hxs
      have Y : Hid (∀ q, q < 0 → 0 ≤ xs.getD q 0 ∧ xs.getD q 0 < k) := fun q hq => by omega
      clear Z
      go_wp2
      go_loop [5] (fun i => ∃ p : Nat, i = .int .i64 (p : Int) ∧ p ≤ xs.length ∧ Hid (∀ q, q < p → 0 ≤ xs.getD q 0 ∧ xs.getD q 0 < k)) (fun i => xs.length - (intOf i).toNat)
      case atStart => exact ⟨0, rfl, Nat.zero_le _, Y⟩
      case round =>
        clear Y
        obtain ⟨p, rfl, hp, T⟩ := hrel
        by_cases hpl : p < xs.length
        · obtain ⟨b', off', rfl, hb', d0⟩ := R.out.at_ hpl
          have pl : (p : Int) < (xs.length : Int) := by omega
          obtain ⟨x, hx⟩ : ∃ x, xs.getD p 0 = x := ⟨_, rfl⟩
          rw [hx] at d0
          replace hx := hide hx
          by_cases hx0 : x < 0
          · go_wp2
            go_ret
            exact ⟨by rw [sound_false hlt (by rw [hxs.out]; exact ahead_false hpl (by rw [hx.out]; omega))]; rfl, rfl⟩
          · by_cases hxk : (k : Int) ≤ x
            · go_wp2
              go_ret
              exact ⟨by rw [sound_false hlt (by rw [hxs.out]; exact ahead_false hpl (by rw [hx.out]; omega))]; rfl, rfl⟩
            · have T1 : Hid (∀ q, q < p + 1 → 0 ≤ xs.getD q 0 ∧ xs.getD q 0 < k) := by
                intro q hq
                rcases Nat.lt_or_ge q p with c | c
                · exact T.out q c
                · obtain rfl : q = p := by omega
                  rw [hx.out]
                  omega
              go_wp2
              go_round
              case rel => exact ⟨p + 1, by go_num, by omega, T1⟩
              case measure => simp [intOf]; omega
        · obtain rfl : p = xs.length := by omega
          have P1 : Hid (∀ q, q < k + 1 → E.ahead q (fs.getD q E.f0).args = true) := by
            intro q hq
            rcases Nat.lt_or_ge q k with c | c
            · exact P.out q c
            · obtain rfl : q = k := by omega
              rw [hxs.out]
              exact ahead_true T.out
          clear T hpl hp
          go_wp2
          go_round
          case rel => exact ⟨k + 1, by go_num, by omega, P1⟩
          case measure => simp [intOf]; omega
    · obtain rfl : k = fs.length := by omega
      have e := hide (sound_true P.out)
      clear P hlt hk Z
      go_wp2
      go_ret
      exact ⟨by rw [e.out]; rfl, rfl⟩
set_option maxRecDepth 100000 in
set_option maxHeartbeats 16000000 in
theorem rfol_calls (w : World) (B : Nat) (vn vg vl : Value) (fs : List E.Fl) (gs ls : List E.Lk) (at_ : Nat) (hn : Flats B w vn fs) (hg : Links B w vg gs) (hl : Links B w vl ls) (hB : B ≤ w.heap.size) (ha : at_ < ls.length) :
    Calls Try.prog 17 #[vn, vg, vl, .int .i64 (at_ : Int)] w fun e w' => e = .returned (.bool (E.folB fs gs ls at_)) ∧ Below w.heap.size w w' := by
  have KC : Hid (∀ (W : World) (k : Nat), Below B w W → k < (ls.getD at_ E.l0).kids.length → (0 ≤ (ls.getD at_ E.l0).kids.getD k 0 ∧ (ls.getD at_ E.l0).kids.getD k 0 < at_) → Calls Try.prog 23 #[vl, .int .i64 (at_ : Int), .int .i64 (k : Int)] W fun e w' => e = .returned (.tuple #[.int .i64 (E.at_ ls ((ls.getD at_ E.l0).kids.getD k 0)).a, .int .i64 (E.at_ ls ((ls.getD at_ E.l0).kids.getD k 0)).b]) ∧ ∃ m, w' = W.drewN m) :=
    fun W k q hk' hh => kid_calls W B vl ls at_ k (hl.below q) ha hk' hh.1 hh.2
  have CC : Hid (∀ W : World, Below B w W → B ≤ W.heap.size → 0 ≤ (ls.getD at_ E.l0).a → (ls.getD at_ E.l0).a < fs.length → 0 ≤ (ls.getD at_ E.l0).b → (ls.getD at_ E.l0).b < fs.length → (∀ j, j < (ls.getD at_ E.l0).kids.length → 0 ≤ (ls.getD at_ E.l0).kids.getD j 0 ∧ (ls.getD at_ E.l0).kids.getD j 0 < at_) → Calls Try.prog 24 #[vn, vl, .int .i64 (at_ : Int)] W fun e w' => e = .returned (.bool (E.congB fs ls (ls.getD at_ E.l0))) ∧ Below W.heap.size W w') :=
    fun W q hb a0 a1 b0 b1 hk => rcong_calls W B vn vl fs ls at_ (hn.below q) (hl.below q) hb ha a0 a1 b0 b1 hk
  have GC : Hid (∀ (W : World) (kd a b tg : Int) (ua : Option Addr) (un uc : Nat), Below B w W → B ≤ W.heap.size → Calls Try.prog 22 #[vg, .agg #[.int .i64 kd, .int .i64 a, .int .i64 b, .int .i64 tg, .slice ua un uc]] W fun e w' => e = .returned (.bool (E.factB gs a b tg)) ∧ Below W.heap.size W w') :=
    fun W kd a b tg ua un uc q hb => given_calls W B vg gs kd a b tg ua un uc (hg.below q) hb
  obtain ⟨an, cn, rfl, nn⟩ := hn.shape
  obtain ⟨ag, cg, rfl, gn⟩ := hg.shape
  obtain ⟨al, cl, rfl, ln⟩ := hl.shape
  obtain ⟨b, off, rfl, hb, c0, c1, c2, c3, ⟨u, c4, R⟩, -⟩ := hl.at_ ha
  obtain ⟨ua, uc, rfl, un⟩ := R.shape
  have FB : Hid (E.folB fs gs ls at_ = (E.preB fs (ls.getD at_ E.l0) && (E.ahead at_ (ls.getD at_ E.l0).kids && E.kindB fs gs ls (ls.getD at_ E.l0)))) := rfl
  generalize E.folB fs gs ls at_ = res at *
  obtain ⟨y, hy⟩ : ∃ y, ls.getD at_ E.l0 = y := ⟨_, rfl⟩
  rw [hy] at c0 c1 c2 c3 c4 R FB KC CC un
  obtain ⟨kd, la, lb, tg, ks⟩ := y
  clear hn hg hl hy
  simp only at c0 c1 c2 c3 c4 R KC CC un
  have k2 : (0 : Int) ≤ (at_ : Int) := by omega
  have k3 : (at_ : Int) < (ls.length : Int) := by omega
  have HB := hide hB
  have X0 := hide (heap_alloc_new w (.cells #[.int .i64 kd, .int .i64 la, .int .i64 lb, .int .i64 tg, .slice ua ks.length uc] 26))
  have BB := hide ((Below.refl _ w).alloc (Nat.le_refl _) (.cells #[.int .i64 kd, .int .i64 la, .int .i64 lb, .int .i64 tg, .slice ua ks.length uc] 26))
  have KR := hide (R.below (BB.out.mono hB))
  have BW := hide (BB.out.mono hB)
  clear R
  go_enter Try.func17, Try.ntmps17
  go_upto_region 2 with fail
  clear c0 c1 c2 c3 c4
  have sz : Hid (B ≤ (w.alloc (.cells #[.int .i64 kd, .int .i64 la, .int .i64 lb, .int .i64 tg, .slice ua ks.length uc] 26)).heap.size) := by
    have := BB.out.size
    show B ≤ _
    omega
  generalize w.alloc (.cells #[.int .i64 kd, .int .i64 la, .int .i64 lb, .int .i64 tg, .slice ua ks.length uc] 26) = W1 at *
  obtain ⟨⟨i0, i1, i2, i3, i4⟩, -⟩ := five_box X0.out
  by_cases a0 : la < 0
  case pos =>
    have E : Hid (res = false) := FB.out.trans (by rw [show E.preB fs ⟨kd, la, lb, tg, ks⟩ = false by unfold E.preB; rw [show E.inB fs.length la = false from decide_eq_false (by omega)]; rfl]; rfl)
    have t0 : decide (la < 0) = true := decide_eq_true a0
    clear hB KC CC GC
    go_wp2_with fail
    go_ret
    exact ⟨by rw [E.out]; rfl, BB.out⟩
  case neg =>
  by_cases a1 : (fs.length : Int) ≤ la
  case pos =>
    have E : Hid (res = false) := FB.out.trans (by rw [show E.preB fs ⟨kd, la, lb, tg, ks⟩ = false by unfold E.preB; rw [show E.inB fs.length la = false from decide_eq_false (by omega)]; rfl]; rfl)
    have t0 : decide (la < 0) = false := decide_eq_false a0
    have t1 : decide ((fs.length : Int) ≤ la) = true := decide_eq_true a1
    clear hB KC CC GC
    go_wp2_with fail
    go_ret
    exact ⟨by rw [E.out]; rfl, BB.out⟩
  case neg =>
  by_cases b0 : lb < 0
  case pos =>
    have E : Hid (res = false) := FB.out.trans (by rw [show E.preB fs ⟨kd, la, lb, tg, ks⟩ = false by unfold E.preB; rw [show E.inB fs.length lb = false from decide_eq_false (by omega), Bool.false_and, Bool.and_false]]; rfl)
    have t0 : decide (la < 0) = false := decide_eq_false a0
    have t1 : decide ((fs.length : Int) ≤ la) = false := decide_eq_false a1
    have t2 : decide (lb < 0) = true := decide_eq_true b0
    clear hB KC CC GC
    go_wp2_with fail
    go_ret
    exact ⟨by rw [E.out]; rfl, BB.out⟩
  case neg =>
  by_cases b1 : (fs.length : Int) ≤ lb
  case pos =>
    have E : Hid (res = false) := FB.out.trans (by rw [show E.preB fs ⟨kd, la, lb, tg, ks⟩ = false by unfold E.preB; rw [show E.inB fs.length lb = false from decide_eq_false (by omega), Bool.false_and, Bool.and_false]]; rfl)
    have t0 : decide (la < 0) = false := decide_eq_false a0
    have t1 : decide ((fs.length : Int) ≤ la) = false := decide_eq_false a1
    have t2 : decide (lb < 0) = false := decide_eq_false b0
    have t3 : decide ((fs.length : Int) ≤ lb) = true := decide_eq_true b1
    clear hB KC CC GC
    go_wp2_with fail
    go_ret
    exact ⟨by rw [E.out]; rfl, BB.out⟩
  case neg =>
  have PB : Hid (E.preB fs ⟨kd, la, lb, tg, ks⟩ = decide (kd = 1 ∨ tg = 0)) := by
    show _ = _
    unfold E.preB
    rw [show E.inB fs.length la = true from decide_eq_true (by omega), show E.inB fs.length lb = true from decide_eq_true (by omega), Bool.true_and, Bool.true_and]
  have CC2 : Hid ((∀ j, j < ks.length → 0 ≤ ks.getD j 0 ∧ ks.getD j 0 < at_) → Calls Try.prog 24 #[.slice an fs.length cn, .slice (some ⟨b, off, none⟩) ls.length cl, .int .i64 (at_ : Int)] W1 fun e w' => e = .returned (.bool (E.congB fs ls ⟨kd, la, lb, tg, ks⟩)) ∧ Below W1.heap.size W1 w') := fun hk =>
    CC.out W1 BW.out sz.out (by omega) (by omega) (by omega) (by omega) hk
  have t0 : decide (la < 0) = false := decide_eq_false a0
  have t1 : decide ((fs.length : Int) ≤ la) = false := decide_eq_false a1
  have t2 : decide (lb < 0) = false := decide_eq_false b0
  have t3 : decide ((fs.length : Int) ≤ lb) = false := decide_eq_false b1
  clear CC hB
  go_upto_region 4 with fail
  clear t0 t1 t2 t3 a0 a1 b0 b1
  go_wp2_with fail
  go_loop [10] (fun x => ∃ k : Nat, x = .int .i64 (k : Int) ∧ k ≤ ks.length ∧ Hid (∀ q, q < k → 0 ≤ ks.getD q 0 ∧ ks.getD q 0 < at_)) (fun x => ks.length - (intOf x).toNat)
  case atStart => exact ⟨0, rfl, Nat.zero_le _, fun q hq => absurd hq (Nat.not_lt_zero _)⟩
  case round =>
    obtain ⟨k, rfl, hk, T⟩ := hrel
    by_cases hlt : k < ks.length
    · obtain ⟨b6, off6, rfl, -, y0⟩ := KR.out.at_ hlt
      have g1 : (k : Int) < (ks.length : Int) := by omega
      have g0 : (0 : Int) ≤ (k : Int) := by omega
      obtain ⟨x, hx⟩ : ∃ x, ks.getD k 0 = x := ⟨_, rfl⟩
      rw [hx] at y0
      replace hx := hide hx
      have NO : Hid (¬ (0 ≤ x ∧ x < at_) → res = false) := fun h => FB.out.trans (by rw [show E.ahead at_ (E.Lk.kids ⟨kd, la, lb, tg, ks⟩) = false from ahead_false hlt (by show ¬ (0 ≤ ks.getD k 0 ∧ _); rw [hx.out]; exact h), Bool.false_and, Bool.and_false])
      by_cases h0 : x < 0
      · have E := hide (NO.out (by omega))
        have t0 : decide (x < 0) = true := decide_eq_true h0
        clear NO KC GC CC2
        go_wp2_with fail
        go_ret
        exact ⟨by rw [E.out]; rfl, BB.out⟩
      · by_cases h1 : (at_ : Int) ≤ x
        · have E := hide (NO.out (by omega))
          have t0 : decide (x < 0) = false := decide_eq_false h0
          have t1 : decide ((at_ : Int) ≤ x) = true := decide_eq_true h1
          clear NO KC GC CC2
          go_wp2_with fail
          go_ret
          exact ⟨by rw [E.out]; rfl, BB.out⟩
        · have T1 : Hid (∀ q, q < k + 1 → 0 ≤ ks.getD q 0 ∧ ks.getD q 0 < at_) := by
            intro q hq
            rcases Nat.lt_or_ge q k with c | c
            · exact T.out q c
            · obtain rfl : q = k := by omega
              rw [hx.out]
              omega
          have t0 : decide (x < 0) = false := decide_eq_false h0
          have t1 : decide ((at_ : Int) ≤ x) = false := decide_eq_false h1
          clear NO
          go_wp2_with fail
          go_round
          case rel => exact ⟨k + 1, by go_num, by omega, T1⟩
          case measure => simp [intOf]; omega
    · obtain rfl : k = ks.length := by omega
      have FB2 : Hid (res = (decide (kd = 1 ∨ tg = 0) && E.kindB fs gs ls ⟨kd, la, lb, tg, ks⟩)) := FB.out.trans (by rw [PB.out, show E.ahead at_ (E.Lk.kids ⟨kd, la, lb, tg, ks⟩) = true from ahead_true T.out, Bool.true_and])
      have KC0 : Hid (∀ (W : World) (k : Nat), Below B w W → k < ks.length → Calls Try.prog 23 #[.slice (some ⟨b, off, none⟩) ls.length cl, .int .i64 (at_ : Int), .int .i64 (k : Int)] W fun e w' => e = .returned (.tuple #[.int .i64 (E.at_ ls (ks.getD k 0)).a, .int .i64 (E.at_ ls (ks.getD k 0)).b]) ∧ ∃ m, w' = W.drewN m) := fun W k q h => KC.out W k q h (T.out k h)
      have CC3 := hide (CC2.out T.out)
      clear KC CC2 FB PB T hlt hk
      by_cases e1 : kd = 1
      · subst e1
        have FB3 : Hid (res = (E.factB gs la lb tg && decide (ks.length = 0))) := FB2.out.trans (by rw [decide_eq_true (Or.inl rfl), Bool.true_and]; rfl)
        by_cases z : ks.length = 0
        · have E : Hid (res = E.factB gs la lb tg) := FB3.out.trans (by rw [decide_eq_true z, Bool.and_true])
          have q := hide (GC.out W1 1 la lb tg ua ks.length uc BW.out sz.out)
          have zz : ((ks.length : Int) == 0) = true := by rw [z]; rfl
          clear FB2 FB3 KC0 CC3 GC z
          go_wp2_with (go_at_call 22; refine q.out.mono ?_; rintro e wq ⟨rfl, bq⟩; replace bq := hide (BB.out.then_below bq))
          go_ret
          exact ⟨by rw [E.out]; rfl, bq.out⟩
        · have E : Hid (res = false) := FB3.out.trans (by rw [decide_eq_false z, Bool.and_false])
          have zz : ((ks.length : Int) == 0) = false := beq_no (by omega)
          clear FB2 FB3 KC0 CC3 GC z
          go_wp2_with fail
          go_ret
          exact ⟨by rw [E.out]; rfl, BB.out⟩
      · have n1 := beq_no e1
        by_cases e2 : tg = 0
        · subst e2
          have FB3 : Hid (res = E.kindB fs gs ls ⟨kd, la, lb, 0, ks⟩) := FB2.out.trans (by rw [decide_eq_true (Or.inr rfl), Bool.true_and])
          clear FB2 GC
          go_upto_region 13 with fail
          by_cases s2 : kd = 2
          · subst s2
            by_cases z : ks.length = 0
            · by_cases ab : la = lb
              · subst ab
                have E : Hid (res = true) := FB3.out.trans (by show (decide (ks.length = 0) && decide (la = la)) = true; rw [decide_eq_true z, decide_eq_true rfl]; rfl)
                have zz : ((ks.length : Int) == 0) = true := by rw [z]; rfl
                have tt : (la == la) = true := by simp
                clear FB3 KC0 CC3
                go_wp2_with fail
                go_ret
                exact ⟨by rw [E.out]; rfl, BB.out⟩
              · have E : Hid (res = false) := FB3.out.trans (by show (decide (ks.length = 0) && decide (la = lb)) = false; rw [decide_eq_false ab, Bool.and_false])
                have zz : ((ks.length : Int) == 0) = true := by rw [z]; rfl
                have tt := beq_no ab
                clear FB3 KC0 CC3 ab
                go_wp2_with fail
                go_ret
                exact ⟨by rw [E.out]; rfl, BB.out⟩
            · have E : Hid (res = false) := FB3.out.trans (by show (decide (ks.length = 0) && decide (la = lb)) = false; rw [decide_eq_false z, Bool.false_and])
              have zz : ((ks.length : Int) == 0) = false := beq_no (by omega)
              clear FB3 KC0 CC3 z
              go_wp2_with fail
              go_ret
              exact ⟨by rw [E.out]; rfl, BB.out⟩
          · by_cases s3 : kd = 3
            · subst s3
              by_cases z : ks.length = 1
              · have q := hide (KC0.out W1 0 BW.out (by omega))
                have FB4 : Hid (res = decide ((E.at_ ls (ks.getD 0 0)).a = lb ∧ (E.at_ ls (ks.getD 0 0)).b = la)) := FB3.out.trans (by show (decide (ks.length = 1) && E.says ls (ks.getD 0 0) lb la) = _; rw [decide_eq_true z, Bool.true_and]; rfl)
                generalize (E.at_ ls (ks.getD 0 0)).a = A at *
                generalize (E.at_ ls (ks.getD 0 0)).b = B' at *
                have zz : ((ks.length : Int) != 1) = false := by rw [z]; rfl
                clear z
                by_cases h1 : A = lb
                · by_cases h2 : B' = la
                  · have E : Hid (res = true) := FB4.out.trans (decide_eq_true ⟨h1, h2⟩)
                    subst h1
                    subst h2
                    have t1 : (A == A) = true := by simp
                    have t2 : (B' == B') = true := by simp
                    clear FB3 FB4 KC0 CC3
                    go_wp2_with (go_at_call 23; refine q.out.mono ?_; rintro e w8 ⟨rfl, m8, rfl⟩)
                    go_ret
                    exact ⟨by rw [E.out]; rfl, below_drewN BB.out _⟩
                  · have E : Hid (res = false) := FB4.out.trans (decide_eq_false (fun h => h2 h.2))
                    subst h1
                    have t1 : (A == A) = true := by simp
                    have t2 := beq_no h2
                    clear h2
                    clear FB3 FB4 KC0 CC3
                    go_wp2_with (go_at_call 23; refine q.out.mono ?_; rintro e w8 ⟨rfl, m8, rfl⟩)
                    go_ret
                    exact ⟨by rw [E.out]; rfl, below_drewN BB.out _⟩
                · have E : Hid (res = false) := FB4.out.trans (decide_eq_false (fun h => h1 h.1))
                  have t1 := beq_no h1
                  clear h1
                  clear FB3 FB4 KC0 CC3
                  go_wp2_with (go_at_call 23; refine q.out.mono ?_; rintro e w8 ⟨rfl, m8, rfl⟩)
                  go_ret
                  exact ⟨by rw [E.out]; rfl, below_drewN BB.out _⟩
              · have E : Hid (res = false) := FB3.out.trans (by show (decide (ks.length = 1) && E.says ls (ks.getD 0 0) lb la) = _; rw [decide_eq_false z, Bool.false_and])
                have zz : ((ks.length : Int) != 1) = true := bne_no (by omega)
                clear FB3 KC0 CC3 z
                go_wp2_with fail
                go_ret
                exact ⟨by rw [E.out]; rfl, BB.out⟩
            · by_cases s4 : kd = 4
              · subst s4
                by_cases z : ks.length = 2
                · have FB4 : Hid (res = (decide ((E.at_ ls (ks.getD 0 0)).a = la ∧ (E.at_ ls (ks.getD 0 0)).b = (E.at_ ls (ks.getD 1 0)).a) && decide ((E.at_ ls (ks.getD 1 0)).b = lb))) := FB3.out.trans (by show (decide (ks.length = 2) && (E.says ls (ks.getD 0 0) la (E.at_ ls (ks.getD 1 0)).a && decide ((E.at_ ls (ks.getD 1 0)).b = lb))) = _; rw [decide_eq_true z, Bool.true_and]; rfl)
                  have q := hide (fun W (h : Below W1.heap.size W1 W) => KC0.out W 0 (BW.out.trans (h.mono sz.out)) (by omega))
                  have p := hide (fun W (h : Below W1.heap.size W1 W) => KC0.out W 1 (BW.out.trans (h.mono sz.out)) (by omega))
                  generalize (E.at_ ls (ks.getD 0 0)).a = A at *
                  generalize (E.at_ ls (ks.getD 0 0)).b = B' at *
                  generalize (E.at_ ls (ks.getD 1 0)).a = C at *
                  generalize (E.at_ ls (ks.getD 1 0)).b = D at *
                  have zz : ((ks.length : Int) != 2) = false := by rw [z]; rfl
                  clear z
                  by_cases h1 : A = la
                  · by_cases h2 : B' = C
                    · by_cases h3 : D = lb
                      · have E : Hid (res = true) := FB4.out.trans (by rw [decide_eq_true ⟨h1, h2⟩, decide_eq_true h3]; rfl)
                        subst h1
                        subst h2
                        subst h3
                        have t1 : (A == A) = true := by simp
                        have t2 : (B' == B') = true := by simp
                        have t3 : (D == D) = true := by simp
                        clear FB3 FB4 KC0 CC3
                        go_wp2_with (first
                          | (go_at_call 23; have y := tok; refine (p.out _ (below_drewN (Below.refl _ _) _)).mono ?_; rintro e w9 ⟨rfl, m9, rfl⟩)
                          | (go_at_call 23; refine (q.out _ (Below.refl _ _)).mono ?_; rintro e w8 ⟨rfl, m8, rfl⟩; have tok : Hid True := trivial))
                        go_ret
                        exact ⟨by rw [E.out]; rfl, below_drewN BB.out _⟩
                      · have E : Hid (res = false) := FB4.out.trans (by rw [decide_eq_false h3, Bool.and_false])
                        subst h1
                        subst h2
                        have t1 : (A == A) = true := by simp
                        have t2 : (B' == B') = true := by simp
                        have t3 := beq_no h3
                        clear h3
                        clear FB3 FB4 KC0 CC3
                        go_wp2_with (first
                          | (go_at_call 23; have y := tok; refine (p.out _ (below_drewN (Below.refl _ _) _)).mono ?_; rintro e w9 ⟨rfl, m9, rfl⟩)
                          | (go_at_call 23; refine (q.out _ (Below.refl _ _)).mono ?_; rintro e w8 ⟨rfl, m8, rfl⟩; have tok : Hid True := trivial))
                        go_ret
                        exact ⟨by rw [E.out]; rfl, below_drewN BB.out _⟩
                    · have E : Hid (res = false) := FB4.out.trans (by rw [decide_eq_false (fun h => h2 h.2), Bool.false_and])
                      subst h1
                      have t1 : (A == A) = true := by simp
                      have t2 := beq_no h2
                      clear h2
                      clear FB3 FB4 KC0 CC3
                      go_wp2_with (first
                        | (go_at_call 23; have y := tok; refine (p.out _ (below_drewN (Below.refl _ _) _)).mono ?_; rintro e w9 ⟨rfl, m9, rfl⟩)
                        | (go_at_call 23; refine (q.out _ (Below.refl _ _)).mono ?_; rintro e w8 ⟨rfl, m8, rfl⟩; have tok : Hid True := trivial))
                      go_ret
                      exact ⟨by rw [E.out]; rfl, below_drewN BB.out _⟩
                  · have E : Hid (res = false) := FB4.out.trans (by rw [decide_eq_false (fun h => h1 h.1), Bool.false_and])
                    have t1 := beq_no h1
                    clear h1
                    clear FB3 FB4 KC0 CC3
                    go_wp2_with (first
                      | (go_at_call 23; have y := tok; refine (p.out _ (below_drewN (Below.refl _ _) _)).mono ?_; rintro e w9 ⟨rfl, m9, rfl⟩)
                      | (go_at_call 23; refine (q.out _ (Below.refl _ _)).mono ?_; rintro e w8 ⟨rfl, m8, rfl⟩; have tok : Hid True := trivial))
                    go_ret
                    exact ⟨by rw [E.out]; rfl, below_drewN BB.out _⟩
                · have E : Hid (res = false) := FB3.out.trans (by show (decide (ks.length = 2) && _) = _; rw [decide_eq_false z, Bool.false_and])
                  have zz : ((ks.length : Int) != 2) = true := bne_no (by omega)
                  clear FB3 KC0 CC3 z
                  go_wp2_with fail
                  go_ret
                  exact ⟨by rw [E.out]; rfl, BB.out⟩
              · by_cases s5 : kd = 5
                · subst s5
                  have E : Hid (res = E.congB fs ls ⟨5, la, lb, 0, ks⟩) := FB3.out
                  clear FB3 KC0
                  go_wp2_with (go_at_call 24; refine CC3.out.mono ?_; rintro e wq ⟨rfl, bq⟩; replace bq := hide (BB.out.then_below bq))
                  go_ret
                  exact ⟨by rw [E.out]; rfl, bq.out⟩
                · have E : Hid (res = false) := FB3.out.trans (by unfold E.kindB; rw [if_neg e1, if_neg s2, if_neg s3, if_neg s4, if_neg s5])
                  have n2 := beq_no s2
                  have n3 := beq_no s3
                  have n4 := beq_no s4
                  have n5 := beq_no s5
                  clear FB3 KC0 CC3 s2 s3 s4 s5 e1
                  go_wp2_with fail
                  go_ret
                  exact ⟨by rw [E.out]; rfl, BB.out⟩
        · have E : Hid (res = false) := FB2.out.trans (by rw [decide_eq_false (by rintro (h | h); exact e1 h; exact e2 h), Bool.false_and])
          have n2 := bne_no e2
          clear FB2 KC0 CC3 GC e1 e2
          go_wp2_with fail
          go_ret
          exact ⟨by rw [E.out]; rfl, BB.out⟩
set_option maxRecDepth 100000 in
set_option maxHeartbeats 4000000 in
theorem raudit_calls (w : World) (B : Nat) (vn vg vl : Value) (fs : List E.Fl) (gs ls : List E.Lk) (hn : Flats B w vn fs) (hg : Links B w vg gs) (hl : Links B w vl ls) (hB : B ≤ w.heap.size) :
    Calls Try.prog 11 #[vn, vg, vl] w fun e w' => e = .returned (.tuple #[.int .i64 (E.auditI fs gs ls), .int .i64 (E.auditE fs)]) ∧ Below w.heap.size w w' := by
  have q0 := hide (rsound_calls w B vn fs hn)
  have FC : Hid (∀ (W : World) (k : Nat), Below w.heap.size w W → k < ls.length → Calls Try.prog 17 #[vn, vg, vl, .int .i64 (k : Int)] W fun e w' => e = .returned (.bool (E.folB fs gs ls k)) ∧ Below W.heap.size W w') :=
    fun W k q h => rfol_calls W B vn vg vl fs gs ls k (hn.below (q.mono hB)) (hg.below (q.mono hB)) (hl.below (q.mono hB)) (by have := q.size; omega) h
  obtain ⟨an, cn, rfl, nn⟩ := hn.shape
  obtain ⟨ag, cg, rfl, gn⟩ := hg.shape
  obtain ⟨al, cl, rfl, ln⟩ := hl.shape
  clear hn hg hl
  have AI : Hid (E.auditI fs gs ls = if E.soundB fs then E.firstNo (E.folB fs gs ls) ls.length ls.length 0 else 0) := rfl
  have AE : Hid (E.auditE fs = if E.soundB fs then 0 else 80) := rfl
  generalize E.auditI fs gs ls = ri at *
  generalize E.auditE fs = re at *
  cases hs : E.soundB fs
  · rw [hs] at q0 AI AE
    have E1 : Hid (ri = 0) := AI.out
    have E2 : Hid (re = 80) := AE.out
    clear AI AE FC
    go_enter Try.func11, Try.ntmps11
    go_wp2_with (go_at_call 16; refine q0.out.mono ?_; rintro e wq ⟨rfl, rfl⟩)
    go_ret2
    exact ⟨by rw [E1.out, E2.out]; rfl, Below.refl _ _⟩
  · rw [hs] at q0 AI AE
    have E1 : Hid (ri = E.firstNo (E.folB fs gs ls) ls.length ls.length 0) := AI.out
    have E2 : Hid (re = 0) := AE.out
    have S := hide (E.firstNo_spec (E.folB fs gs ls) ls.length ls.length 0 (by omega))
    clear AI AE
    generalize E.firstNo (E.folB fs gs ls) ls.length ls.length 0 = fno at *
    have R0 : Hid (Below w.heap.size w w) := Below.refl _ _
    go_enter Try.func11, Try.ntmps11
    go_wp2_with (go_at_call 16; refine q0.out.mono ?_; rintro e wq ⟨rfl, rfl⟩)
    go_loopw [8] (fun x wr => ∃ k : Nat, x = .int .i64 (k : Int) ∧ k ≤ ls.length ∧ Hid (∀ q, q < k → E.folB fs gs ls q = true) ∧ Hid (Below wq.heap.size wq wr)) (fun x _ => ls.length - (intOf x).toNat)
    case atStart => exact ⟨0, rfl, Nat.zero_le _, fun q hq => absurd hq (Nat.not_lt_zero _), R0⟩
    case round =>
      clear R0
      obtain ⟨k, rfl, hk, T, BW⟩ := hrel
      by_cases hlt : k < ls.length
      · have g1 : (k : Int) < (ls.length : Int) := by omega
        have q := hide (FC.out wr k BW.out hlt)
        have YES : Hid (E.folB fs gs ls k = true → ∀ q, q < k + 1 → E.folB fs gs ls q = true) := fun h q hq => by
          rcases Nat.lt_or_ge q k with c | c
          · exact T.out q c
          · obtain rfl : q = k := by omega
            exact h
        have NO : Hid (E.folB fs gs ls k = false → fno = (k : Int)) := fun h => by
          rcases S.out with ⟨-, g⟩ | ⟨j, e, -, h2, h3, h4⟩
          · rw [g k (Nat.zero_le _) hlt] at h
            cases h
          · rcases Nat.lt_trichotomy j k with c | c | c
            · rw [T.out j c] at h3
              cases h3
            · rw [e, c]
            · rw [h4 k (Nat.zero_le _) c] at h
              cases h
        cases hb : E.folB fs gs ls k
        · have N := hide (NO.out hb)
          rw [hb] at q
          clear YES NO S T
          go_wp2_with (go_at_call 17; refine q.out.mono ?_; rintro e w8 ⟨rfl, b8⟩; replace b8 := hide (BW.out.then_below b8))
          go_ret2
          exact ⟨by rw [E1.out, E2.out, N.out]; rfl, b8.out⟩
        · have N := hide (YES.out hb)
          rw [hb] at q
          clear YES NO T
          go_wp2_with (go_at_call 17; refine q.out.mono ?_; rintro e w8 ⟨rfl, b8⟩; replace b8 := hide (BW.out.then_below b8))
          go_roundw
          case rel => exact ⟨k + 1, by go_num, by omega, N, b8⟩
          case measure => simp [intOf]; omega
      · obtain rfl : k = ls.length := by omega
        have N : Hid (fno = -1) := by
          rcases S.out with ⟨e, -⟩ | ⟨j, e, -, h2, h3, h4⟩
          · exact e
          · rw [T.out j h2] at h3
            cases h3
        clear hlt hk S T
        go_wp2_with fail
        go_ret2
        exact ⟨by rw [E1.out, E2.out, N.out]; rfl, BW.out⟩
end Go.Proofs.Ytcpmeehchmdljaa
