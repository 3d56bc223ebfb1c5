/-
  scan.spelling, walked to plain words.
-/
import Derived.Test.YtogekmccmlpplaaDoorQuote4
import Derived.Test.YtogekmccmlpplaaDoorScanBehind
import Derived.Test.YtogekmccmlpplaaDoorJoinMath
namespace Go.Proofs.YtogekmccmlpplaaDoor
open Go.RowKit
set_option linter.unusedVariables false
theorem oneOf_yes {k : Int} {x : List UInt8} {ts : List S.Tok} {e p : Nat} {t : S.Tok} (h : S.run resv .idle x 0 = (ts, e, p)) (h1 : ts = [t]) (h2 : e = 0) (h3 : (t.kind : Int) = k) (h4 : t.text = x) : S.oneOf resv k x = true := by
  unfold S.oneOf
  rw [h, h1, h2]
  simp [h3, h4]
theorem oneOf_err {k : Int} {x : List UInt8} {ts : List S.Tok} {e p : Nat} (h : S.run resv .idle x 0 = (ts, e, p)) (h2 : e ≠ 0) : S.oneOf resv k x = false := by
  unfold S.oneOf
  rw [h]
  simp only
  split
  · omega
  · rfl
theorem oneOf_many {k : Int} {x : List UInt8} {ts : List S.Tok} {e p : Nat} (h : S.run resv .idle x 0 = (ts, e, p)) (h2 : ts.length ≠ 1) : S.oneOf resv k x = false := by
  unfold S.oneOf
  rw [h]
  simp only
  split
  · exact absurd rfl h2
  · rfl
theorem oneOf_not {k : Int} {x : List UInt8} {ts : List S.Tok} {e p : Nat} {t : S.Tok} (h : S.run resv .idle x 0 = (ts, e, p)) (h1 : ts = [t]) (h3 : ¬ ((t.kind : Int) = k ∧ t.text = x)) : S.oneOf resv k x = false := by
  unfold S.oneOf
  rw [h, h1]
  simp only
  split
  · rename_i t' e1
    cases e1
    rw [Bool.eq_false_iff]
    intro hh
    simp at hh
    exact h3 hh
  · rfl
set_option maxRecDepth 100000 in
set_option maxHeartbeats 4000000 in
theorem spelling_calls (w : World) (hc : Cls w) (hm : Mx w) (k a b : Int) (s : ByteArray) (l : List UInt8) (hs : s.data.toList = l) (hl : l.length ≤ 1073741822) :
    Calls Tryd.prog 57 #[.agg #[.int .i64 k, .int .i64 a, .int .i64 b, .string s]] w fun e w' => e = .returned (.tuple #[qv (S.spl resv k l), .int .i64 (qe (S.spl resv k l))]) ∧ Below w.heap.size w w' := by
  have hn := size_of s l hs
  obtain ⟨W0, hW0⟩ : ∃ W, w.alloc (.cells #[.int .i64 k, .int .i64 a, .int .i64 b, .string s] 69) = W := ⟨_, rfl⟩
  have B0 : Hid (Below w.heap.size w W0) := by rw [← hW0]; exact (Below.refl _ w).alloc (Nat.le_refl _) _
  have c0 : Cls W0 := cls_below hc B0.out
  have m0 : Mx W0 := hm.below B0.out
  have A0 : W0.heap[w.heap.size]? = some (.cells #[.int .i64 k, .int .i64 a, .int .i64 b, .string s] 69 (0, 0)) := by rw [← hW0]; exact heap_alloc_new w _
  have z0 : W0.cell? ⟨w.heap.size, 0, none⟩ = some (.int .i64 k) := cell_of_row _ _ 0 _ _ (0, 0) A0
  have z3 : W0.cell? ⟨w.heap.size, 3, none⟩ = some (.string s) := cell_of_row _ _ 3 _ _ (0, 0) A0
  have hz0 : w.heap.size < W0.heap.size := (Array.getElem?_eq_some_iff.1 A0).1
  have q3 := hide (quote_calls W0 c0 s l hs (by omega))
  have q9 := hide (literal_calls W0 c0 m0 s l hs (by omega))
  have q10 := hide (simple_calls W0 c0 s l hs (by omega))
  have qt := hide (tokens_calls W0 c0 s l hs (by omega))
  have m1 : s.size ≤ 1073741824 := by omega
  clear c0 m0
  by_cases h3 : k = 3
  · subst h3
    rw [show S.spl resv 3 l = S.quo resv l from rfl]
    generalize S.quo resv l = o at q3
    unfold qv at q3
    go_enter Tryd.func57, Tryd.ntmps57
    go_wp2_with (go_at_call 70; refine q3.out.mono ?_; rintro e w1 ⟨rfl, b1⟩; replace b1 := hide b1)
    go_ret2
    exact ⟨rfl, B0.out.then_below b1.out⟩
  · have i3 : ¬ k = 3 := h3
    by_cases h9 : k = 9
    · subst h9
      rw [show S.spl resv 9 l = S.lit l from rfl]
      generalize S.lit l = o at q9
      unfold qv at q9
      go_enter Tryd.func57, Tryd.ntmps57
      go_wp2_with (go_at_call 71; refine q9.out.mono ?_; rintro e w1 ⟨rfl, b1⟩; replace b1 := hide b1)
      go_ret2
      exact ⟨rfl, B0.out.then_below b1.out⟩
    · have i9 : ¬ k = 9 := h9
      by_cases h10 : k = 10
      · subst h10
        have e10 : S.spl resv 10 l = if S.smp l then some (58 :: l) else none := rfl
        rw [e10]
        have hs' := hide hs
        cases hsm : S.smp l with
        | true =>
          rw [hsm] at q10
          clear e10 hsm hs hn
          go_enter Tryd.func57, Tryd.ntmps57
          go_wp2_with (go_at_call 72; refine q10.out.mono ?_; rintro e w1 ⟨rfl, rfl⟩)
          go_ret2
          exact ⟨ret_qv (by simp [hs'.out]) rfl, B0.out⟩
        | false =>
          rw [hsm] at q10
          clear e10 hsm hs hn
          go_enter Tryd.func57, Tryd.ntmps57
          go_wp2_with (go_at_call 72; refine q10.out.mono ?_; rintro e w1 ⟨rfl, rfl⟩)
          go_ret2
          exact ⟨ret_qv rfl rfl, B0.out⟩
      · have i10 : ¬ k = 10 := h10
        have eo : S.spl resv k l = if S.oneOf resv k l then some l else none := by
          unfold S.spl
          rw [if_neg h3, if_neg h9, if_neg h10]
        rw [eo]
        obtain ⟨O, hO⟩ : ∃ O, S.run resv .idle l 0 = O := ⟨_, rfl⟩
        rw [hO] at qt
        obtain ⟨ts, e, p⟩ := O
        simp only at qt
        have hs' := hide hs
        have hOh := hide hO
        clear eo hO hs hn q3 q9 q10
        by_cases he : e = 0
        · subst he
          by_cases hts : ts.length = 1
          · obtain ⟨t, rfl⟩ : ∃ t, ts = [t] := List.length_eq_one_iff.1 hts
            by_cases hk : (t.kind : Int) = k
            · by_cases hx : t.text = l
              · have hone := hide (oneOf_yes hOh.out rfl rfl hk hx)
                rw [hone.out]
                have hsx : (⟨t.text.toArray⟩ : ByteArray) = s := bytes_eq (by rw [hs'.out]; exact hx)
                subst hk
                clear hone hx hts
                go_enter Tryd.func57, Tryd.ntmps57
                go_wp2_with (go_at_call 34; refine qt.out.mono ?_; rintro x w1 ⟨v1, rfl, u1, b1⟩; have T1 := ownsRow.trow u1; obtain ⟨a1, cp1, rfl, n1, n1'⟩ := T1.shape; obtain ⟨g1, f1, rfl, x0, x1, x2, x3⟩ := T1.at_ (j := 0) (by simp); simp at x0 x1 x2 x3 n1; rw [hsx] at x3; have y0 := (b1.cell (p := ⟨w.heap.size, 0, none⟩) hz0).trans z0; have y3 := (b1.cell (p := ⟨w.heap.size, 3, none⟩) hz0).trans z3; replace b1 := hide b1; clear u1 T1)
                go_quiet (fail)
                go_wp2
                go_ret2
                exact ⟨ret_qv (by rw [hs'.out]; rfl) rfl, B0.out.then_below (below_drewN b1.out _)⟩
              · have hone := hide (oneOf_not (k := k) hOh.out rfl (fun h => hx h.2))
                rw [hone.out]
                subst hk
                obtain ⟨SX, hSX⟩ : ∃ Y : ByteArray, (⟨t.text.toArray⟩ : ByteArray) = Y := ⟨_, rfl⟩
                have hne : SX ≠ s := by
                  intro e
                  rw [← hSX] at e
                  apply hx
                  have := congrArg (fun z : ByteArray => z.data.toList) e
                  simp only at this
                  rw [hs'.out] at this
                  exact this
                obtain ⟨e1, e2, e3, e4, e5⟩ := str_ne4' hne
                clear hone hx hts hne
                go_enter Tryd.func57, Tryd.ntmps57
                go_wp2_with (go_at_call 34; refine qt.out.mono ?_; rintro x w1 ⟨v1, rfl, u1, b1⟩; have T1 := ownsRow.trow u1; obtain ⟨a1, cp1, rfl, n1, n1'⟩ := T1.shape; obtain ⟨g1, f1, rfl, x0, x1, x2, x3⟩ := T1.at_ (j := 0) (by simp); simp at x0 x1 x2 x3 n1; rw [hSX] at x3; have y0 := (b1.cell (p := ⟨w.heap.size, 0, none⟩) hz0).trans z0; have y3 := (b1.cell (p := ⟨w.heap.size, 3, none⟩) hz0).trans z3; replace b1 := hide b1; clear u1 T1)
                go_quiet (fail)
                go_wp2
                go_ret2
                exact ⟨ret_qv rfl rfl, B0.out.then_below (below_drewN b1.out _)⟩
            · have hone := hide (oneOf_not (k := k) hOh.out rfl (fun h => hk h.1))
              rw [hone.out]
              have hk1 : ((t.kind : Int) == k) = false := by simpa using hk
              clear hone hk hts
              go_enter Tryd.func57, Tryd.ntmps57
              go_wp2_with (go_at_call 34; refine qt.out.mono ?_; rintro x w1 ⟨v1, rfl, u1, b1⟩; have T1 := ownsRow.trow u1; obtain ⟨a1, cp1, rfl, n1, n1'⟩ := T1.shape; obtain ⟨g1, f1, rfl, x0, x1, x2, x3⟩ := T1.at_ (j := 0) (by simp); simp at x0 x1 x2 x3 n1; have y0 := (b1.cell (p := ⟨w.heap.size, 0, none⟩) hz0).trans z0; have y3 := (b1.cell (p := ⟨w.heap.size, 3, none⟩) hz0).trans z3; replace b1 := hide b1; clear u1 T1)
              go_quiet (fail)
              go_wp2
              go_ret2
              exact ⟨ret_qv rfl rfl, B0.out.then_below (below_drewN b1.out _)⟩
          · have hone := hide (oneOf_many (k := k) hOh.out hts)
            rw [hone.out]
            have hts1 : ((ts.length : Int) == 1) = false := by simpa using (show ¬ (ts.length : Int) = 1 by omega)
            clear hone hts
            go_enter Tryd.func57, Tryd.ntmps57
            go_wp2_with (go_at_call 34; refine qt.out.mono ?_; rintro x w1 ⟨v1, rfl, u1, b1⟩; have T1 := ownsRow.trow u1; obtain ⟨a1, cp1, rfl, n1, n1'⟩ := T1.shape; have y0 := (b1.cell (p := ⟨w.heap.size, 0, none⟩) hz0).trans z0; have y3 := (b1.cell (p := ⟨w.heap.size, 3, none⟩) hz0).trans z3; replace b1 := hide b1; clear u1 T1)
            go_quiet (fail)
            go_wp2
            go_ret2
            exact ⟨ret_qv rfl rfl, B0.out.then_below (below_drewN b1.out _)⟩
        · have hone := hide (oneOf_err (k := k) hOh.out he)
          rw [hone.out]
          have he1 : ((e : Int) == 0) = false := by simpa using (show ¬ (e : Int) = 0 by omega)
          clear he hone
          go_enter Tryd.func57, Tryd.ntmps57
          go_wp2_with (go_at_call 34; refine qt.out.mono ?_; rintro x w1 ⟨v1, rfl, u1, b1⟩; obtain ⟨a1, cp1, rfl, n1, n1'⟩ := (ownsRow.trow u1).shape; have y0 := (b1.cell (p := ⟨w.heap.size, 0, none⟩) hz0).trans z0; have y3 := (b1.cell (p := ⟨w.heap.size, 3, none⟩) hz0).trans z3; replace b1 := hide b1; clear u1)
          go_quiet (fail)
          go_wp2
          go_ret2
          exact ⟨ret_qv rfl rfl, B0.out.then_below (below_drewN b1.out _)⟩
end Go.Proofs.YtogekmccmlpplaaDoor
