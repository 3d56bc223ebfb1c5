/-
  The document's looking over of links: congruence.
-/
import Derived.Test.YtcpmeehchmdljaaEufRefAud
namespace Go.Proofs.Ytcpmeehchmdljaa
open Go.RowKit
set_option linter.unusedVariables false
theorem two_box' {w : World} {bx : Nat} {a b : Value} {t : TypeId} (h : w.heap[bx]? = some (.cells #[a, b] t (0, 0))) : w.cell? ⟨bx, 0, none⟩ = some a ∧ w.cell? ⟨bx, 1, none⟩ = some b := by
  refine ⟨?_, ?_⟩ <;> rw [cell_of_row _ _ _ _ _ _ h] <;> rfl
theorem nat_of {x : Int} {n : Nat} (h0 : 0 ≤ x) (h1 : x < n) : ∃ k : Nat, x = (k : Int) ∧ k < n := ⟨x.toNat, by omega, by omega⟩
theorem all_range {n : Nat} {p : Nat → Bool} (h : ∀ j, j < n → p j = true) : (List.range n).all p = true := List.all_eq_true.2 fun j hj => h j (List.mem_range.1 hj)
theorem all_range_no {n j : Nat} {p : Nat → Bool} (hj : j < n) (h : p j = false) : (List.range n).all p = false := List.all_eq_false.2 ⟨j, List.mem_range.2 hj, by simp [h]⟩
set_option maxRecDepth 100000 in
set_option maxHeartbeats 8000000 in
theorem rcong_calls (w : World) (B : Nat) (vn vl : Value) (fs : List E.Fl) (ls : List E.Lk) (at_ : Nat) (hn : Flats B w vn fs) (hl : Links B w vl ls) (hB : B ≤ w.heap.size) (ha : at_ < ls.length)
    (a0 : 0 ≤ (ls.getD at_ E.l0).a) (a1 : (ls.getD at_ E.l0).a < fs.length) (b0 : 0 ≤ (ls.getD at_ E.l0).b) (b1 : (ls.getD at_ E.l0).b < fs.length)
    (hk : ∀ j, j < (ls.getD at_ E.l0).kids.length → 0 ≤ (ls.getD at_ E.l0).kids.getD j 0 ∧ (ls.getD at_ E.l0).kids.getD j 0 < at_) :
    Calls Try.prog 24 #[vn, vl, .int .i64 (at_ : Int)] w fun e w' => e = .returned (.bool (E.congB fs ls (ls.getD at_ E.l0))) ∧ Below w.heap.size w w' := by
  have KC : Hid (∀ (W : World) (k : Nat), Below B w W → k < (ls.getD at_ E.l0).kids.length → Calls Try.prog 23 #[vl, .int .i64 (at_ : Int), .int .i64 (k : Int)] W fun e w' => e = .returned (.tuple #[.int .i64 (E.at_ ls ((ls.getD at_ E.l0).kids.getD k 0)).a, .int .i64 (E.at_ ls ((ls.getD at_ E.l0).kids.getD k 0)).b]) ∧ ∃ m, w' = W.drewN m) :=
    fun W k q hk' => kid_calls W B vl ls at_ k (hl.below q) ha hk' (hk k hk').1 (hk k hk').2
  obtain ⟨an, cn, rfl, nn⟩ := hn.shape
  obtain ⟨al, cl, rfl, ln⟩ := hl.shape
  obtain ⟨b, off, rfl, hb, c0, c1, c2, c3, ⟨u, c4, R⟩, -⟩ := hl.at_ ha
  obtain ⟨ua, uc, rfl, un⟩ := R.shape
  obtain ⟨na, ea, la⟩ := nat_of a0 a1
  obtain ⟨nb, eb, lb⟩ := nat_of b0 b1
  obtain ⟨b2, off2, rfl, hb2, p0, pu, p1, PR⟩ := hn.at_ la
  obtain ⟨b3, off3, e3, hb3, q0, qu, q1, QR⟩ := hn.at_ lb
  cases e3
  obtain ⟨pa, pc, rfl, pn⟩ := PR.shape
  obtain ⟨qa, qc, rfl, qn⟩ := QR.shape
  have CB : Hid (E.congB fs ls (ls.getD at_ E.l0) = (decide (0 ≤ (fs.getD na E.f0).fn ∧ (fs.getD na E.f0).fn = (fs.getD nb E.f0).fn ∧ (fs.getD na E.f0).args.length = (fs.getD nb E.f0).args.length ∧ (ls.getD at_ E.l0).kids.length = (fs.getD na E.f0).args.length) &&
    (List.range (ls.getD at_ E.l0).kids.length).all fun j => E.says ls ((ls.getD at_ E.l0).kids.getD j 0) ((fs.getD na E.f0).args.getD j 0) ((fs.getD nb E.f0).args.getD j 0))) := by
    show _ = _
    unfold E.congB
    rw [ea, eb, Int.toNat_natCast, Int.toNat_natCast]
  rw [ea] at c1
  rw [eb] at c2
  generalize E.congB fs ls (ls.getD at_ E.l0) = res at *
  obtain ⟨kd, hkd⟩ : ∃ kd, (ls.getD at_ E.l0).kind = kd := ⟨_, rfl⟩
  obtain ⟨tg, htg⟩ : ∃ tg, (ls.getD at_ E.l0).tag = tg := ⟨_, rfl⟩
  obtain ⟨ks, hks⟩ : ∃ ks, (ls.getD at_ E.l0).kids = ks := ⟨_, rfl⟩
  obtain ⟨fa, hfa⟩ : ∃ fa, (fs.getD na E.f0).fn = fa := ⟨_, rfl⟩
  obtain ⟨fb, hfb⟩ : ∃ fb, (fs.getD nb E.f0).fn = fb := ⟨_, rfl⟩
  obtain ⟨xa, hxa⟩ : ∃ xa, (fs.getD na E.f0).args = xa := ⟨_, rfl⟩
  obtain ⟨xb, hxb⟩ : ∃ xb, (fs.getD nb E.f0).args = xb := ⟨_, rfl⟩
  rw [hkd] at c0
  rw [htg] at c3
  rw [hks] at c4 R hk un CB KC
  rw [hfa] at p0 CB
  rw [hfb] at q0 CB
  rw [hxa] at p1 PR pn CB
  rw [hxb] at q1 QR qn CB
  clear hkd htg hks hfa hfb hxa hxb ea eb a0 a1 b0 b1 hk R
  have k2 : (0 : Int) ≤ (at_ : Int) := by omega
  have k3 : (at_ : Int) < (ls.length : Int) := by omega
  have k4 : (0 : Int) ≤ (na : Int) := by omega
  have k5 : (na : Int) < (fs.length : Int) := by omega
  have k6 : (0 : Int) ≤ (nb : Int) := by omega
  have k7 : (nb : Int) < (fs.length : Int) := by omega
  have X0 := hide (heap_alloc_new w (.cells #[.int .i64 kd, .int .i64 (na : Int), .int .i64 (nb : Int), .int .i64 tg, .slice ua ks.length uc] 26))
  have B0 := hide ((Below.refl _ w).alloc (Nat.le_refl _) (.cells #[.int .i64 kd, .int .i64 (na : Int), .int .i64 (nb : Int), .int .i64 tg, .slice ua ks.length uc] 26))
  go_enter Try.func24, Try.ntmps24
  go_upto_region 2 with fail
  have d0 := (B0.out.cell (p := ⟨b2, off2 + na * 2, none⟩) (World.block_lt_of_cell? _ _ p0)).trans p0
  have d1 := (B0.out.cell (p := ⟨b2, off2 + na * 2 + 1, none⟩) (World.block_lt_of_cell? _ _ p1)).trans p1
  have d2 := (B0.out.cell (p := ⟨b2, off2 + nb * 2, none⟩) (World.block_lt_of_cell? _ _ q0)).trans q0
  have d3 := (B0.out.cell (p := ⟨b2, off2 + nb * 2 + 1, none⟩) (World.block_lt_of_cell? _ _ q1)).trans q1
  clear p0 p1 q0 q1 c0 c1 c2 c3 c4
  obtain ⟨g1, hg1⟩ : ∃ g1, w.heap.size = g1 := ⟨_, rfl⟩
  have hB' := hide hB
  rw [hg1] at X0 hB ⊢
  generalize w.alloc (.cells #[.int .i64 kd, .int .i64 (na : Int), .int .i64 (nb : Int), .int .i64 tg, .slice ua ks.length uc] 26) = w1 at *
  obtain ⟨⟨i0, i1, i2, i3, i4⟩, -⟩ := five_box X0.out
  have P0 := hide (heap_alloc_new w1 (.cells #[.int .i64 fa, .slice pa xa.length pc] 31))
  have B1 := hide ((Below.refl _ w1).alloc (Nat.le_refl _) (.cells #[.int .i64 fa, .slice pa xa.length pc] 31))
  have X1 := hide (kept_blockK X0.out B1.out)
  have f2 := (B1.out.cell (p := ⟨b2, off2 + nb * 2, none⟩) (World.block_lt_of_cell? _ _ d2)).trans d2
  have f3 := (B1.out.cell (p := ⟨b2, off2 + nb * 2 + 1, none⟩) (World.block_lt_of_cell? _ _ d3)).trans d3
  go_upto_region 3 with fail
  clear d0 d1 d2 d3 i0 i1 i2 i3 i4 X0
  obtain ⟨g2, hg2⟩ : ∃ g2, w1.heap.size = g2 := ⟨_, rfl⟩
  have BB1 := hide (B0.out.then_below B1.out)
  rw [hg2] at P0 ⊢
  clear B0 B1
  generalize w1.alloc (.cells #[.int .i64 fa, .slice pa xa.length pc] 31) = w2 at *
  obtain ⟨⟨i0, i1, i2, i3, i4⟩, -⟩ := five_box X1.out
  have Q0 := hide (heap_alloc_new w2 (.cells #[.int .i64 fb, .slice qa xb.length qc] 31))
  have B1 := hide ((Below.refl _ w2).alloc (Nat.le_refl _) (.cells #[.int .i64 fb, .slice qa xb.length qc] 31))
  have X2 := hide (kept_blockK X1.out B1.out)
  have P1 := hide (kept_blockK P0.out B1.out)
  go_upto_region 4 with fail
  clear f2 f3 i0 i1 i2 i3 i4 X1 P0
  have BB := hide (BB1.out.then_below B1.out)
  obtain ⟨g3, hg3⟩ : ∃ g3, w2.heap.size = g3 := ⟨_, rfl⟩
  rw [hg3] at Q0 ⊢
  clear B1 BB1 hg2 hg3
  generalize w2.alloc (.cells #[.int .i64 fb, .slice qa xb.length qc] 31) = w3 at *
  obtain ⟨⟨i0, i1, i2, i3, i4⟩, -⟩ := five_box X2.out
  obtain ⟨j0, j1⟩ := two_box' P1.out
  obtain ⟨l0, l1⟩ := two_box' Q0.out
  replace PR := hide (PR.below (BB.out.mono hB'.out))
  replace QR := hide (QR.below (BB.out.mono hB'.out))
  rw [← hg1]
  have q0 := hide (alike_calls w3 fa fb pa qa xa.length pc xb.length qc)
  by_cases e1 : 0 ≤ fa ∧ fa = fb ∧ xa.length = xb.length
  case neg =>
    have E : Hid (res = false) := CB.out.trans (by rw [decide_eq_false (fun h => e1 ⟨h.1, h.2.1, h.2.2.1⟩)]; rfl)
    rw [decide_eq_false e1] at q0
    clear e1
    go_wp2_with (go_at_call 25; refine q0.out.mono ?_; rintro e wq ⟨rfl, bq⟩; replace bq := hide (BB.out.then_below bq))
    go_ret
    exact ⟨by rw [E.out]; rfl, bq.out⟩
  case pos =>
    rw [decide_eq_true e1] at q0
    obtain ⟨e1, e2, e3⟩ := e1
    by_cases e4 : ks.length = xa.length
    case neg =>
      have E : Hid (res = false) := CB.out.trans (by rw [decide_eq_false (fun h => e4 h.2.2.2)]; rfl)
      have n4 : ((ks.length : Int) != (xa.length : Int)) = true := bne_no (by omega)
      clear e1 e2 e3 e4
      go_wp2_with (go_at_call 25; refine q0.out.mono ?_; rintro e wq ⟨rfl, bq⟩; obtain ⟨⟨i0', i1', i2', i3', i4'⟩, -⟩ := five_box (kept_blockK X2.out bq); obtain ⟨j0', j1'⟩ := two_box' (kept_blockK P1.out bq); replace bq := hide (BB.out.then_below bq))
      go_ret
      exact ⟨by rw [E.out]; rfl, bq.out⟩
    case pos =>
      have CB2 : Hid (res = (List.range ks.length).all fun j => E.says ls (ks.getD j 0) (xa.getD j 0) (xb.getD j 0)) := CB.out.trans (by rw [decide_eq_true ⟨e1, e2, e3, e4⟩, Bool.true_and])
      have n4 : ((ks.length : Int) != (xa.length : Int)) = false := by rw [e4]; simp
      have e3' := hide e3
      have e4' := hide e4
      clear e1 e2 e3 e4 CB
      go_upto_region 6 with (go_at_call 25; refine q0.out.mono ?_; rintro e wq ⟨rfl, bq⟩; obtain ⟨⟨i0', i1', i2', i3', i4'⟩, -⟩ := five_box (kept_blockK X2.out bq); obtain ⟨j0', j1'⟩ := two_box' (kept_blockK P1.out bq); replace bq := hide bq)
      clear i0' i1' i2' i3' i4' j0' j1' i0 i1 i2 i3 i4 j0 j1 l0 l1 n4 q0
      have X3 := hide (kept_blockK X2.out bq.out)
      have P3 := hide (kept_blockK P1.out bq.out)
      have Q3 := hide (kept_blockK Q0.out bq.out)
      have BB3 := hide (BB.out.then_below bq.out)
      have q3 := bq.out.size
      have sz := BB.out.size
      have PR3 := hide (PR.out.below (bq.out.mono (by omega)))
      have QR3 := hide (QR.out.below (bq.out.mono (by omega)))
      clear X2 P1 Q0 BB bq PR QR q3 sz
      obtain ⟨⟨i0, i1, i2, i3, i4⟩, -⟩ := five_box X3.out
      obtain ⟨j0, j1⟩ := two_box' P3.out
      obtain ⟨l0, l1⟩ := two_box' Q3.out
      go_wp2_with fail
      go_loopw [10] (fun x wr => ∃ k : Nat, x = .int .i64 (k : Int) ∧ k ≤ ks.length ∧ Hid (∀ q, q < k → E.says ls (ks.getD q 0) (xa.getD q 0) (xb.getD q 0) = true) ∧ Hid (∃ m, wr = wq.drewN m)) (fun x _ => ks.length - (intOf x).toNat)
      case atStart => exact ⟨0, rfl, Nat.zero_le _, fun q hq => absurd hq (Nat.not_lt_zero _), ⟨0, rfl⟩⟩
      case round =>
        obtain ⟨k, rfl, hk, HN, HW⟩ := hrel
        have HWn : Hid (∀ m', ∃ m, wr.drewN m' = wq.drewN m) := by
          intro m'
          obtain ⟨m, e⟩ := HW.out
          exact ⟨m + m', by rw [e]; exact World.drewN_drewN _ _ _⟩
        have HWb : Hid (∀ m', Below w.heap.size w (wr.drewN m')) := by
          intro m'
          obtain ⟨m, e⟩ := HWn.out m'
          rw [e]
          exact below_drewN BB3.out m
        have CW : Hid (∀ p, wr.cell? p = wq.cell? p) := fun p => by obtain ⟨m, e⟩ := HW.out; rw [e]; rfl
        rw [← CW.out] at i0 i1 i2 i3 i4 j0 j1 l0 l1
        by_cases hlt : k < ks.length
        · obtain ⟨b6, off6, rfl, -, y0⟩ := PR3.out.at_ (j := k) (by rw [← e4'.out]; exact hlt)
          obtain ⟨b7, off7, rfl, -, y1⟩ := QR3.out.at_ (j := k) (by rw [← e3'.out, ← e4'.out]; exact hlt)
          rw [← CW.out] at y0 y1
          have KK := hide (KC.out wr k ((HWb.out 0).mono hB'.out) hlt)
          have g1 : (k : Int) < (ks.length : Int) := by omega
          have g0 : (0 : Int) ≤ (k : Int) := by omega
          have g4 : (k : Int) < (xa.length : Int) := by have := e4'.out; omega
          have g5 : (k : Int) < (xb.length : Int) := by have := e4'.out; have := e3'.out; omega
          have SY : Hid (E.says ls (ks.getD k 0) (xa.getD k 0) (xb.getD k 0) = decide ((E.at_ ls (ks.getD k 0)).a = xa.getD k 0 ∧ (E.at_ ls (ks.getD k 0)).b = xb.getD k 0)) := rfl
          have YES : Hid ((E.at_ ls (ks.getD k 0)).a = xa.getD k 0 → (E.at_ ls (ks.getD k 0)).b = xb.getD k 0 → ∀ q, q < k + 1 → E.says ls (ks.getD q 0) (xa.getD q 0) (xb.getD q 0) = true) := fun h1 h2 q hq => by
            rcases Nat.lt_or_ge q k with c | c
            · exact HN.out q c
            · obtain rfl : q = k := by omega
              exact SY.out.trans (decide_eq_true ⟨h1, h2⟩)
          have NO : Hid (¬ ((E.at_ ls (ks.getD k 0)).a = xa.getD k 0 ∧ (E.at_ ls (ks.getD k 0)).b = xb.getD k 0) → res = false) := fun h =>
            CB2.out.trans (all_range_no hlt (SY.out.trans (decide_eq_false h)))
          generalize (E.at_ ls (ks.getD k 0)).a = A at *
          generalize (E.at_ ls (ks.getD k 0)).b = B' at *
          generalize xa.getD k 0 = ya at *
          generalize xb.getD k 0 = yb at *
          by_cases e1 : A = ya
          · by_cases e2 : B' = yb
            · subst e1
              subst e2
              have N1 := hide (YES.out rfl rfl)
              have t1 : (A != A) = false := by simp
              have t2 : (B' != B') = false := by simp
              clear YES NO SY
              go_wp2_with (go_at_call 23; refine KK.out.mono ?_; rintro e w8 ⟨rfl, m8, hw8⟩; have J : ∀ p, w8.cell? p = wr.cell? p := (fun p => by rw [hw8]; rfl); rw [← J] at i0 i1 i2 i3 i4 j0 j1 l0 l1 y0 y1; have HW8 := hide (HWn.out m8); have HB8 := hide (HWb.out m8); rw [← hw8] at HW8 HB8; clear J hw8)
              go_roundw
              case rel => exact ⟨k + 1, by go_num, by omega, N1, HW8.out⟩
              case measure => simp [intOf]; omega
            · subst e1
              have N1 := hide (NO.out (fun h => e2 h.2))
              have t1 : (A != A) = false := by simp
              have t2 := bne_no e2
              clear YES NO SY e2
              go_wp2_with (go_at_call 23; refine KK.out.mono ?_; rintro e w8 ⟨rfl, m8, hw8⟩; have J : ∀ p, w8.cell? p = wr.cell? p := (fun p => by rw [hw8]; rfl); rw [← J] at i0 i1 i2 i3 i4 j0 j1 l0 l1 y0 y1; have HW8 := hide (HWn.out m8); have HB8 := hide (HWb.out m8); rw [← hw8] at HW8 HB8; clear J hw8)
              go_ret
              exact ⟨by rw [N1.out]; rfl, HB8.out⟩
          · have N1 := hide (NO.out (fun h => e1 h.1))
            have t1 := bne_no e1
            clear YES NO SY e1
            go_wp2_with (go_at_call 23; refine KK.out.mono ?_; rintro e w8 ⟨rfl, m8, hw8⟩; have J : ∀ p, w8.cell? p = wr.cell? p := (fun p => by rw [hw8]; rfl); rw [← J] at i0 i1 i2 i3 i4 j0 j1 l0 l1 y0 y1; have HW8 := hide (HWn.out m8); have HB8 := hide (HWb.out m8); rw [← hw8] at HW8 HB8; clear J hw8)
            go_ret
            exact ⟨by rw [N1.out]; rfl, HB8.out⟩
        · obtain rfl : k = ks.length := by omega
          have N1 := hide (CB2.out.trans (all_range HN.out))
          clear hlt hk HN
          go_wp2
          go_ret
          exact ⟨by rw [N1.out]; rfl, by have := HWb.out 0; exact this⟩
end Go.Proofs.Ytcpmeehchmdljaa
