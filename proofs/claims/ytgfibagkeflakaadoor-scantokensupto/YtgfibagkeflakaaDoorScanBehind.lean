/-
  The law ScanBehind.
-/
import Derived.Test.YtgfibagkeflakaaDoorScanRows
namespace Go.RowKit
theorem Below.then_below {w w1 w2 : World} (h : Below w.heap.size w w1) (q : Below w1.heap.size w1 w2) : Below w.heap.size w w2 := h.trans (q.mono h.size)
end Go.RowKit
namespace Go.Proofs.YtgfibagkeflakaaDoor
open Go.RowKit
set_option linter.unusedVariables false
theorem stands_bound : ∀ (ts : List S.Tok) (l : List UInt8) (i e p : Nat), S.Stands resv ts l i e p → (∀ t ∈ ts, t.beg ≤ i + l.length ∧ t.fin ≤ i + l.length) ∧ p ≤ i + l.length
  | [], l, i, e, p, h => by
    refine ⟨fun t ht => by simp at ht, ?_⟩
    rcases h with ⟨_, h, _⟩ | ⟨_, _, h⟩
    · omega
    · exact h
  | t :: ts, l, i, e, p, h => by
    obtain ⟨n, m, h1, h2, h3, h4, -, -, h5⟩ := h
    have := stands_bound ts _ _ e p h5
    rw [List.length_drop] at this
    refine ⟨?_, by omega⟩
    intro u hu
    rcases List.mem_cons.1 hu with rfl | hu
    · omega
    · have := this.1 u hu
      omega
theorem run_bound (l : List UInt8) : (∀ t ∈ (S.run resv .idle l 0).1, t.beg ≤ l.length ∧ t.fin ≤ l.length) ∧ (S.run resv .idle l 0).2.2 ≤ l.length := by
  have := stands_bound _ _ _ _ _ (S.run_stands resv l 0)
  simpa using this
theorem run_many (l : List UInt8) : (S.run resv .idle l 0).1.length ≤ 2 * l.length + 1 := by
  have hr := S.run_append resv [] l .idle 0
  rw [List.append_nil, Nat.zero_add] at hr
  have f1 := feed_few l .idle 0
  rcases hfd : (S.feed resv .idle l 0).2 with q' | ⟨e, p⟩
  · rw [hfd] at hr
    have e1 : (S.run resv .idle l 0).1 = (S.feed resv .idle l 0).1 ++ (S.stop resv q' l.length).1 := by rw [hr]; rfl
    have f2 := stop_few q' l.length
    rw [e1, List.length_append]
    omega
  · rw [hfd] at hr
    have e1 : (S.run resv .idle l 0).1 = (S.feed resv .idle l 0).1 := by rw [hr]
    rw [e1]
    omega
theorem below_drewN {n : Nat} {w w' : World} (h : Below n w w') (k : Nat) : Below n w (w'.drewN k) := ⟨h.os, h.tape, h.output, h.size, h.block⟩
theorem run_at_tok (b o len cap n : Nat) (i : Int) (hn : i = n) (h1 : n < len) (w : World) : (Instr.indexAt 23 (.slice (some ⟨b, o, none⟩) len cap) (.int .i64 i)).run Tryd.prog w = .ok (.pointer (some ⟨b, o + n * 4, none⟩)) w := by
  have he : Tryd.prog.elem 23 = 28 := by kernel_rfl
  subst hn
  rw [run_indexAt_slice (h := by rw [he]; exact sliceTok), if_pos ⟨by omega, by omega⟩]
  simp [he, Addr.add]
theorem getD_mem {ts : List S.Tok} {j : Nat} (h : j < ts.length) : ts.getD j tk0 ∈ ts := by
  rw [List.getD_eq_getElem?_getD, List.getElem?_eq_getElem h]
  exact List.getElem_mem h
theorem getD_left (a b : List S.Tok) {j : Nat} (h : j < a.length) : (a ++ b).getD j tk0 = a.getD j tk0 := by
  rw [List.getD_eq_getElem?_getD, List.getD_eq_getElem?_getD, List.getElem?_append_left h]
theorem getD_right (a b : List S.Tok) {j : Nat} (h : j < b.length) : (a ++ b).getD (a.length + j) tk0 = b.getD j tk0 := by
  rw [List.getD_eq_getElem?_getD, List.getD_eq_getElem?_getD, List.getElem?_append_right (by omega)]
  congr 2
  omega
theorem getD_sh (n : Nat) (a : List S.Tok) {j : Nat} (h : j < a.length) : (a.map (S.shT n)).getD j tk0 = S.shT n (a.getD j tk0) := by
  rw [List.getD_eq_getElem?_getD, List.getD_eq_getElem?_getD, List.getElem?_map, List.getElem?_eq_getElem h]
  rfl
set_option maxRecDepth 100000 in
set_option maxHeartbeats 4000000 in
theorem behind_calls (w : World) (hc : Cls w) (sa sb : ByteArray) (a b : List UInt8) (ha : sa.data.toList = a) (hb : sb.data.toList = b) (la : a.length ≤ 1073741824) (lb : b.length ≤ 1073741824) :
    Calls Tryd.prog 3 #[.string sa, .string sb] w fun e w' => e = .returned (.bool true) ∧ Below w.heap.size w w' := by
  have q0 := hide (live_calls w hc)
  have q1 := hide (fun W (hW : Cls W) => tokens_calls W hW sa a ha (by omega))
  have q2 := hide (fun W (hW : Cls W) => tokens_calls W hW sb b hb (by omega))
  have hcat : (sa ++ ⟨#[10]⟩ ++ sb).data.toList = a ++ 10 :: b := by subst ha hb; simp
  have q3 := hide (fun W (hW : Cls W) => tokens_calls W hW (sa ++ ⟨#[10]⟩ ++ sb) (a ++ 10 :: b) hcat (by simp; omega))
  have za := size_of sa a ha
  have zb := size_of sb b hb
  have hb1 := run_bound a
  have hb2 := run_bound b
  have hm1 := run_many a
  have hm2 := run_many b
  have hHc := hide hc
  clear hc ha hb hcat
  by_cases he : (S.run resv .idle a 0).2.1 = 0
  · have hR := S.run_behind_text resv a b he
    have hR1 : (S.run resv .idle (a ++ 10 :: b) 0).1 = (S.run resv .idle a 0).1 ++ (S.run resv .idle b 0).1.map (S.shT (a.length + 1)) := by rw [hR]; rfl
    have hR2 : (S.run resv .idle (a ++ 10 :: b) 0).2.1 = (S.run resv .idle b 0).2.1 := by rw [hR]; rfl
    have hR3 : (S.run resv .idle (a ++ 10 :: b) 0).2.2 = if (S.run resv .idle b 0).2.1 = 0 then (S.run resv .idle b 0).2.2 else (S.run resv .idle b 0).2.2 + (a.length + 1) := by rw [hR]; rfl
    clear hR
    obtain ⟨o1, h1⟩ : ∃ o, S.run resv .idle a 0 = o := ⟨_, rfl⟩
    obtain ⟨o2, h2⟩ : ∃ o, S.run resv .idle b 0 = o := ⟨_, rfl⟩
    obtain ⟨o3, h3⟩ : ∃ o, S.run resv .idle (a ++ 10 :: b) 0 = o := ⟨_, rfl⟩
    rw [h1] at q1 he hb1 hm1 hR1
    rw [h2] at q2 hb2 hm2 hR1 hR2 hR3
    rw [h3] at q3 hR1 hR2 hR3
    clear h1 h2 h3
    obtain ⟨L, e1, p1⟩ := o1
    obtain ⟨M, f, p⟩ := o2
    obtain ⟨R, g, q⟩ := o3
    simp only at q1 q2 q3 he hb1 hb2 hm1 hm2 hR1 hR2 hR3
    subst he
    subst hR2
    rw [← za] at hR1 hR3
    have hRl : R.length = L.length + M.length := by rw [hR1]; simp
    have hbm := hide hb2.1
    obtain ⟨LL, hLL⟩ : ∃ n, L.length = n := ⟨_, rfl⟩
    obtain ⟨LM, hLM⟩ : ∃ n, M.length = n := ⟨_, rfl⟩
    obtain ⟨LR, hLR⟩ : ∃ n, R.length = n := ⟨_, rfl⟩
    rw [hLL, hLM, hLR] at hRl
    rw [hLL] at hm1
    rw [hLM] at hm2
    have hp := hb2.2
    have gL : Hid (∀ j, j < LL → R.getD j tk0 = L.getD j tk0) := by
      intro j hj
      rw [hR1]
      exact getD_left _ _ (by rw [hLL]; exact hj)
    have gM : Hid (∀ j, j < LM → R.getD (LL + j) tk0 = S.shT (sa.size + 1) (M.getD j tk0)) := by
      intro j hj
      rw [hR1, ← hLL, getD_right _ _ (by simpa [hLM] using hj)]
      exact getD_sh (sa.size + 1) M (by rw [hLM]; exact hj)
    have hz1 : sa.size ≤ 1073741824 := by omega
    have hz2 : sb.size ≤ 1073741824 := by omega
    have hbb : b.length = sb.size := zb.symm
    rw [hbb] at hp hm2 hbm
    rw [← za] at hm1
    clear hb1 hb2 hR1 za zb la lb hbb
    have hLRb : LR ≤ 4294967298 := by omega
    have hg2 : g = 0 ∨ (g ≠ 0 ∧ q = p + (sa.size + 1)) := by
      by_cases hg : g = 0
      · exact .inl hg
      · exact .inr ⟨hg, by rw [hR3, if_neg hg]⟩
    clear hR3
    rcases hg2 with hg | ⟨hg, hq⟩
    all_goals
      first | subst hg | subst hq
      first | have hg1 : ¬ (g : Int) = 0 := by omega | skip
      go_enter Tryd.func3, Tryd.ntmps3
      go_wp2_with (first
        | (go_at_call 9; refine q0.out.mono ?_; rintro e w0 ⟨rfl, b0⟩; have C0 := hide (hHc.out.below b0); replace b0 := hide b0)
        | (go_at_call 10; have y := C2; clear y; refine (q3.out _ C2.out).mono ?_; rintro e w3 ⟨v3, rfl, u3, b3⟩; have t3 := hide (ownsRow.trow u3); obtain ⟨a3, cp3, rfl, n3, n3'⟩ := t3.out.shape; simp only [hLR] at n3 t3; rw [hLR]; replace b3 := hide b3; clear u3)
        | (go_at_call 10; have y := C1; clear y; refine (q2.out _ C1.out).mono ?_; rintro e w2 ⟨v2, rfl, u2, b2⟩; have C2 := hide (C1.out.below b2); have t2 := hide (ownsRow.trow u2); obtain ⟨a2, cp2, rfl, n2, n2'⟩ := t2.out.shape; simp only [hLM] at n2 t2; rw [hLM]; replace b2 := hide b2; clear u2)
        | (go_at_call 10; have y := C0; clear y; refine (q1.out _ C0.out).mono ?_; rintro e w1 ⟨v1, rfl, u1, b1⟩; have C1 := hide (C0.out.below b1); have t1 := hide (ownsRow.trow u1); obtain ⟨a1, cp1, rfl, n1, n1'⟩ := t1.out.shape; simp only [hLL] at n1 t1; rw [hLL]; replace b1 := hide b1; clear u1))
      go_loopw [15] (fun j wr => ∃ k : Nat, k ≤ LL ∧ j = .int .i64 k ∧ Hid (Below w3.heap.size w3 wr)) (fun j _ => LL - (intOf j).toNat)
      case atStart => exact ⟨0, Nat.zero_le _, rfl, Below.refl _ _⟩
      case round =>
        obtain ⟨k, hk, rfl, hB⟩ := hrel
        by_cases hlt : k < LL
        · have T3 := t3.out.below hB.out
          obtain ⟨g3, f3, rfl, x0, x1, x2, x3⟩ := T3.at_ (j := k) (by omega)
          have T1 := ((t1.out.below b2.out).below b3.out).below hB.out
          obtain ⟨g1, f1, rfl, y0, y1, y2, y3⟩ := T1.at_ (j := k) (by omega)
          rw [gL.out k hlt] at x0 x1 x2 x3
          generalize L.getD k tk0 = t at x0 x1 x2 x3 y0 y1 y2 y3
          have i1 : (k : Int) < LL := by omega
          have i2 : (k : Int) < LR := by omega
          clear T3 T1
          go_wp2
          go_quiet (fail)
          go_wp2
          go_roundw
          case rel => exact ⟨k + 1, by omega, by go_num, below_drewN hB.out _⟩
          case measure => simp [intOf]; omega
        · go_wp2
          go_loopw [16] (fun j wr => ∃ k : Nat, k ≤ LM ∧ j = .int .i64 k ∧ Hid (Below w3.heap.size w3 wr)) (fun j _ => LM - (intOf j).toNat)
          case atStart => exact ⟨0, Nat.zero_le _, rfl, hB⟩
          case round =>
            clear hB hlt hk
            obtain ⟨k, hk, rfl, hB⟩ := hrel
            by_cases hlt : k < LM
            · have T3 := t3.out.below hB.out
              obtain ⟨g3, f3, rfl, x0, x1, x2, x3⟩ := T3.at_ (j := LL + k) (by omega)
              have T2 := (t2.out.below b3.out).below hB.out
              obtain ⟨g2, f2, rfl, y0, y1, y2, y3⟩ := T2.at_ (j := k) (by omega)
              rw [gM.out k hlt] at x0 x1 x2 x3
              have hbt := hbm.out _ (getD_mem (ts := M) (j := k) (by omega))
              generalize M.getD k tk0 = t at x0 x1 x2 x3 y0 y1 y2 y3 hbt
              obtain ⟨tk, tb, tf, tx⟩ := t
              simp only [S.shT] at x0 x1 x2 x3 y0 y1 y2 y3 hbt
              have i1 : (k : Int) < LM := by omega
              have i2 := fun W => run_at_tok g3 f3 (LL + LM) cp3 (LL + k) ((LL : Int) + k) (by omega) (by omega) W
              have ew0 : IntKind.i64.wrap ((LL : Int) + k) = (LL : Int) + k := by rw [IntKind.wrap_i64]; omega
              have ew1 : IntKind.i64.wrap ((tb : Int) + ((sa.size : Int) + 1)) = (tb : Int) + ((sa.size : Int) + 1) := by rw [IntKind.wrap_i64]; omega
              have ew2 : IntKind.i64.wrap ((tf : Int) + ((sa.size : Int) + 1)) = (tf : Int) + ((sa.size : Int) + 1) := by rw [IntKind.wrap_i64]; omega
              have B1 : Below wr.heap.size wr (wr.alloc (.cells #[.int .i64 tk, .int .i64 tb, .int .i64 tf, .string ⟨tx.toArray⟩] 28)) := (Below.refl _ wr).alloc (Nat.le_refl _) _
              have hg3 : g3 < wr.heap.size := World.block_lt_of_cell? wr _ x0
              replace x0 := (B1.cell (p := ⟨g3, _, none⟩) hg3).trans x0
              replace x1 := (B1.cell (p := ⟨g3, _, none⟩) hg3).trans x1
              replace x2 := (B1.cell (p := ⟨g3, _, none⟩) hg3).trans x2
              replace x3 := (B1.cell (p := ⟨g3, _, none⟩) hg3).trans x3
              have B1' := hide B1
              clear B1
              clear T3 T2
              go_wp2
              go_quiet (fail)
              go_wp2
              go_roundw
              case rel => exact ⟨k + 1, by omega, by go_num, below_drewN (hB.out.then_below B1'.out) _⟩
              case measure => simp [intOf]; omega
            · go_wp2
              go_ret
              exact ⟨rfl, ((b0.out.then_below b1.out).then_below b2.out).then_below (b3.out.then_below hB.out)⟩
  · obtain ⟨o1, h1⟩ : ∃ o, S.run resv .idle a 0 = o := ⟨_, rfl⟩
    rw [h1] at q1 he
    have he1 : ¬ (o1.2.1 : Int) = 0 := by omega
    clear q2 q3 h1 hb1 hb2 hm1 hm2
    go_enter Tryd.func3, Tryd.ntmps3
    go_wp2_with (first
      | (go_at_call 9; refine q0.out.mono ?_; rintro e w0 ⟨rfl, b0⟩; have C0 := hide (hHc.out.below b0); replace b0 := hide b0)
      | (go_at_call 10; refine (q1.out _ C0.out).mono ?_; rintro e w1 ⟨v1, rfl, u1, b1⟩; replace b1 := hide b1; clear u1))
    go_ret
    exact ⟨rfl, b0.out.then_below b1.out⟩
end Go.Proofs.YtgfibagkeflakaaDoor
