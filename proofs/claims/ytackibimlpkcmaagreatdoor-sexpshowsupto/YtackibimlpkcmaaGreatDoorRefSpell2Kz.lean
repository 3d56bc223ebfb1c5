/-
  The document's spell, walked to plain words.
-/
import Derived.Test.YtackibimlpkcmaaGreatDoorKz32
/- ==== RefSpell2 ==== -/
namespace Go.Proofs.YtackibimlpkcmaaGreatDoor
open Go.RowKit
set_option linter.unusedVariables false
set_option maxRecDepth 100000 in
set_option maxHeartbeats 4000000 in
theorem rspell_2 (w : World) (hr : Rsv w) (a b : Int) (s : ByteArray) (l : List UInt8) (hs : s.data.toList = l) (hl : l.length ≤ 1073741822) :
    Calls Tryz.prog 34 #[.agg #[.int .i64 2, .int .i64 a, .int .i64 b, .string s]] w fun e w' => e = .returned (.tuple #[qv (S.spl resv 2 l), .int .i64 (qe (S.spl resv 2 l))]) ∧ Below w.heap.size w w' := by
  have hn := size_of s l hs
  obtain ⟨W0, hW0⟩ : ∃ W, w.alloc (.cells #[.int .i64 2, .int .i64 a, .int .i64 b, .string s] 61) = W := ⟨_, rfl⟩
  obtain ⟨B0, z0, z3, hz0⟩ := SpW.all (w := w) hW0
  have qt := rtokens_calls W0 (hr.below B0) s l hs (by omega)
  replace B0 := hide B0
  have m1 : s.size ≤ 1073741824 := by omega
  have eo : S.spl resv 2 l = if S.oneOf resv 2 l then some l else none := rfl
  rw [eo]
  by_cases hone : S.oneOf resv 2 l = true
  · obtain ⟨t, e1, e2, e3, e4, e5⟩ := one_place (by decide) (by decide) (by decide) hone
    rw [hone]
    rw [e1] at qt
    simp only at qt
    replace qt := hide qt
    obtain ⟨tk, tb, tf, tx⟩ := t
    simp only at e2 e3 e4 e5
    have e2' : tk = 2 := by omega
    subst e2' e4
    have hsx : (⟨tx.toArray⟩ : ByteArray) = s := bytes_eq (by rw [hs]; exact e3)
    have e5' : (tf : Int) = s.size := by omega
    have hs' := hide hs
    clear e1 e2 e3 e5 eo hone hs hn hr hl
    go_enter Tryz.func34, Tryz.ntmps34
    go_wp2_with (go_at_call 24; refine qt.out.mono ?_; rintro x w1 ⟨v1, rfl, u1, b1⟩; have T1 := ownsRow.trow u1; obtain ⟨a1, cp1, rfl, n1, n1'⟩ := T1.shape; obtain ⟨g1, f1, rfl, x0, x1, x2, x3⟩ := T1.at_ (j := 0) (by simp); simp at x0 x1 x2 x3 n1; rw [hsx] at x3; have y0 := (b1.cell (p := ⟨w.heap.size, 0, none⟩) hz0).trans z0; have y3 := (b1.cell (p := ⟨w.heap.size, 3, none⟩) hz0).trans z3; replace b1 := hide b1; clear T1 u1)
    go_quiet (fail)
    go_wp2
    go_ret2
    exact ⟨ret_qv (by rw [hs'.out]; rfl) rfl, B0.out.then_below (below_drewN b1.out _)⟩
  · have hone' : S.oneOf resv 2 l = false := by simpa using hone
    rw [hone']
    obtain ⟨O, hO⟩ : ∃ O, S.run resv .idle l 0 = O := ⟨_, rfl⟩
    rw [hO] at qt
    obtain ⟨ts, e, p⟩ := O
    simp only at qt
    replace qt := hide qt
    have hs' := hide hs
    by_cases he : e = 0
    · subst he
      by_cases hts : ts.length = 1
      · obtain ⟨t, rfl⟩ : ∃ t, ts = [t] := List.length_eq_one_iff.1 hts
        by_cases hk : (t.kind : Int) = 2
        · have hx : t.text ≠ l := by
            intro hx
            exact hone (oneOf_yes hO rfl rfl hk hx)
          obtain ⟨SX, hSX⟩ : ∃ Y : ByteArray, (⟨t.text.toArray⟩ : ByteArray) = Y := ⟨_, rfl⟩
          have hne : SX ≠ s := by
            intro e
            rw [← hSX] at e
            apply hx
            have := congrArg (fun z : ByteArray => z.data.toList) e
            simp only at this
            rw [hs'.out] at this
            exact this
          obtain ⟨e1, e2, e3, e4, e5⟩ := str_ne4' hne
          clear hone hone' hx hts hne hO eo hs hn hr hl
          go_enter Tryz.func34, Tryz.ntmps34
          go_wp2_with (go_at_call 24; refine qt.out.mono ?_; rintro x w1 ⟨v1, rfl, u1, b1⟩; have T1 := ownsRow.trow u1; obtain ⟨a1, cp1, rfl, n1, n1'⟩ := T1.shape; obtain ⟨g1, f1, rfl, x0, x1, x2, x3⟩ := T1.at_ (j := 0) (by simp); simp at x0 x1 x2 x3 n1; rw [hSX] at x3; have y0 := (b1.cell (p := ⟨w.heap.size, 0, none⟩) hz0).trans z0; have y3 := (b1.cell (p := ⟨w.heap.size, 3, none⟩) hz0).trans z3; replace b1 := hide b1; clear T1 u1)
          go_quiet (fail)
          go_wp2
          go_ret2
          exact ⟨ret_qv rfl rfl, B0.out.then_below (below_drewN b1.out _)⟩
        · have hk1 : ((t.kind : Int) == 2) = false := by simpa using hk
          clear hone hone' hk hts hO eo hs hn hr hl
          go_enter Tryz.func34, Tryz.ntmps34
          go_wp2_with (go_at_call 24; refine qt.out.mono ?_; rintro x w1 ⟨v1, rfl, u1, b1⟩; have T1 := ownsRow.trow u1; obtain ⟨a1, cp1, rfl, n1, n1'⟩ := T1.shape; obtain ⟨g1, f1, rfl, x0, x1, x2, x3⟩ := T1.at_ (j := 0) (by simp); simp at x0 x1 x2 x3 n1; have y0 := (b1.cell (p := ⟨w.heap.size, 0, none⟩) hz0).trans z0; have y3 := (b1.cell (p := ⟨w.heap.size, 3, none⟩) hz0).trans z3; replace b1 := hide b1; clear T1 u1)
          go_quiet (fail)
          go_wp2
          go_ret2
          exact ⟨ret_qv rfl rfl, B0.out.then_below (below_drewN b1.out _)⟩
      · have hts1 : ((ts.length : Int) == 1) = false := by simpa using (show ¬ (ts.length : Int) = 1 by omega)
        clear hone hone' hts hO eo hs hn hr hl
        go_enter Tryz.func34, Tryz.ntmps34
        go_wp2_with (go_at_call 24; refine qt.out.mono ?_; rintro x w1 ⟨v1, rfl, u1, b1⟩; have T1 := ownsRow.trow u1; obtain ⟨a1, cp1, rfl, n1, n1'⟩ := T1.shape; have y0 := (b1.cell (p := ⟨w.heap.size, 0, none⟩) hz0).trans z0; have y3 := (b1.cell (p := ⟨w.heap.size, 3, none⟩) hz0).trans z3; replace b1 := hide b1; clear T1 u1)
        go_quiet (fail)
        go_wp2
        go_ret2
        exact ⟨ret_qv rfl rfl, B0.out.then_below (below_drewN b1.out _)⟩
    · have he1 : ((e : Int) == 0) = false := by simpa using (show ¬ (e : Int) = 0 by omega)
      clear hone hone' he hO eo hs hn hr hl
      go_enter Tryz.func34, Tryz.ntmps34
      go_wp2_with (go_at_call 24; refine qt.out.mono ?_; rintro x w1 ⟨v1, rfl, u1, b1⟩; have T1 := ownsRow.trow u1; obtain ⟨a1, cp1, rfl, n1, n1'⟩ := T1.shape; have y0 := (b1.cell (p := ⟨w.heap.size, 0, none⟩) hz0).trans z0; have y3 := (b1.cell (p := ⟨w.heap.size, 3, none⟩) hz0).trans z3; replace b1 := hide b1; clear T1 u1)
      go_quiet (fail)
      go_wp2
      go_ret2
      exact ⟨ret_qv rfl rfl, B0.out.then_below (below_drewN b1.out _)⟩
set_option maxRecDepth 100000 in
set_option maxHeartbeats 4000000 in
theorem rspell_4 (w : World) (hr : Rsv w) (a b : Int) (s : ByteArray) (l : List UInt8) (hs : s.data.toList = l) (hl : l.length ≤ 1073741822) :
    Calls Tryz.prog 34 #[.agg #[.int .i64 4, .int .i64 a, .int .i64 b, .string s]] w fun e w' => e = .returned (.tuple #[qv (S.spl resv 4 l), .int .i64 (qe (S.spl resv 4 l))]) ∧ Below w.heap.size w w' := by
  have hn := size_of s l hs
  obtain ⟨W0, hW0⟩ : ∃ W, w.alloc (.cells #[.int .i64 4, .int .i64 a, .int .i64 b, .string s] 61) = W := ⟨_, rfl⟩
  obtain ⟨B0, z0, z3, hz0⟩ := SpW.all (w := w) hW0
  have qt := rtokens_calls W0 (hr.below B0) s l hs (by omega)
  replace B0 := hide B0
  have m1 : s.size ≤ 1073741824 := by omega
  have eo : S.spl resv 4 l = if S.oneOf resv 4 l then some l else none := rfl
  rw [eo]
  by_cases hone : S.oneOf resv 4 l = true
  · obtain ⟨t, e1, e2, e3, e4, e5⟩ := one_place (by decide) (by decide) (by decide) hone
    rw [hone]
    rw [e1] at qt
    simp only at qt
    replace qt := hide qt
    obtain ⟨tk, tb, tf, tx⟩ := t
    simp only at e2 e3 e4 e5
    have e2' : tk = 4 := by omega
    subst e2' e4
    have hsx : (⟨tx.toArray⟩ : ByteArray) = s := bytes_eq (by rw [hs]; exact e3)
    have e5' : (tf : Int) = s.size := by omega
    have hs' := hide hs
    clear e1 e2 e3 e5 eo hone hs hn hr hl
    go_enter Tryz.func34, Tryz.ntmps34
    go_wp2_with (go_at_call 24; refine qt.out.mono ?_; rintro x w1 ⟨v1, rfl, u1, b1⟩; have T1 := ownsRow.trow u1; obtain ⟨a1, cp1, rfl, n1, n1'⟩ := T1.shape; obtain ⟨g1, f1, rfl, x0, x1, x2, x3⟩ := T1.at_ (j := 0) (by simp); simp at x0 x1 x2 x3 n1; rw [hsx] at x3; have y0 := (b1.cell (p := ⟨w.heap.size, 0, none⟩) hz0).trans z0; have y3 := (b1.cell (p := ⟨w.heap.size, 3, none⟩) hz0).trans z3; replace b1 := hide b1; clear T1 u1)
    go_quiet (fail)
    go_wp2
    go_ret2
    exact ⟨ret_qv (by rw [hs'.out]; rfl) rfl, B0.out.then_below (below_drewN b1.out _)⟩
  · have hone' : S.oneOf resv 4 l = false := by simpa using hone
    rw [hone']
    obtain ⟨O, hO⟩ : ∃ O, S.run resv .idle l 0 = O := ⟨_, rfl⟩
    rw [hO] at qt
    obtain ⟨ts, e, p⟩ := O
    simp only at qt
    replace qt := hide qt
    have hs' := hide hs
    by_cases he : e = 0
    · subst he
      by_cases hts : ts.length = 1
      · obtain ⟨t, rfl⟩ : ∃ t, ts = [t] := List.length_eq_one_iff.1 hts
        by_cases hk : (t.kind : Int) = 4
        · have hx : t.text ≠ l := by
            intro hx
            exact hone (oneOf_yes hO rfl rfl hk hx)
          obtain ⟨SX, hSX⟩ : ∃ Y : ByteArray, (⟨t.text.toArray⟩ : ByteArray) = Y := ⟨_, rfl⟩
          have hne : SX ≠ s := by
            intro e
            rw [← hSX] at e
            apply hx
            have := congrArg (fun z : ByteArray => z.data.toList) e
            simp only at this
            rw [hs'.out] at this
            exact this
          obtain ⟨e1, e2, e3, e4, e5⟩ := str_ne4' hne
          clear hone hone' hx hts hne hO eo hs hn hr hl
          go_enter Tryz.func34, Tryz.ntmps34
          go_wp2_with (go_at_call 24; refine qt.out.mono ?_; rintro x w1 ⟨v1, rfl, u1, b1⟩; have T1 := ownsRow.trow u1; obtain ⟨a1, cp1, rfl, n1, n1'⟩ := T1.shape; obtain ⟨g1, f1, rfl, x0, x1, x2, x3⟩ := T1.at_ (j := 0) (by simp); simp at x0 x1 x2 x3 n1; rw [hSX] at x3; have y0 := (b1.cell (p := ⟨w.heap.size, 0, none⟩) hz0).trans z0; have y3 := (b1.cell (p := ⟨w.heap.size, 3, none⟩) hz0).trans z3; replace b1 := hide b1; clear T1 u1)
          go_quiet (fail)
          go_wp2
          go_ret2
          exact ⟨ret_qv rfl rfl, B0.out.then_below (below_drewN b1.out _)⟩
        · have hk1 : ((t.kind : Int) == 4) = false := by simpa using hk
          clear hone hone' hk hts hO eo hs hn hr hl
          go_enter Tryz.func34, Tryz.ntmps34
          go_wp2_with (go_at_call 24; refine qt.out.mono ?_; rintro x w1 ⟨v1, rfl, u1, b1⟩; have T1 := ownsRow.trow u1; obtain ⟨a1, cp1, rfl, n1, n1'⟩ := T1.shape; obtain ⟨g1, f1, rfl, x0, x1, x2, x3⟩ := T1.at_ (j := 0) (by simp); simp at x0 x1 x2 x3 n1; have y0 := (b1.cell (p := ⟨w.heap.size, 0, none⟩) hz0).trans z0; have y3 := (b1.cell (p := ⟨w.heap.size, 3, none⟩) hz0).trans z3; replace b1 := hide b1; clear T1 u1)
          go_quiet (fail)
          go_wp2
          go_ret2
          exact ⟨ret_qv rfl rfl, B0.out.then_below (below_drewN b1.out _)⟩
      · have hts1 : ((ts.length : Int) == 1) = false := by simpa using (show ¬ (ts.length : Int) = 1 by omega)
        clear hone hone' hts hO eo hs hn hr hl
        go_enter Tryz.func34, Tryz.ntmps34
        go_wp2_with (go_at_call 24; refine qt.out.mono ?_; rintro x w1 ⟨v1, rfl, u1, b1⟩; have T1 := ownsRow.trow u1; obtain ⟨a1, cp1, rfl, n1, n1'⟩ := T1.shape; have y0 := (b1.cell (p := ⟨w.heap.size, 0, none⟩) hz0).trans z0; have y3 := (b1.cell (p := ⟨w.heap.size, 3, none⟩) hz0).trans z3; replace b1 := hide b1; clear T1 u1)
        go_quiet (fail)
        go_wp2
        go_ret2
        exact ⟨ret_qv rfl rfl, B0.out.then_below (below_drewN b1.out _)⟩
    · have he1 : ((e : Int) == 0) = false := by simpa using (show ¬ (e : Int) = 0 by omega)
      clear hone hone' he hO eo hs hn hr hl
      go_enter Tryz.func34, Tryz.ntmps34
      go_wp2_with (go_at_call 24; refine qt.out.mono ?_; rintro x w1 ⟨v1, rfl, u1, b1⟩; have T1 := ownsRow.trow u1; obtain ⟨a1, cp1, rfl, n1, n1'⟩ := T1.shape; have y0 := (b1.cell (p := ⟨w.heap.size, 0, none⟩) hz0).trans z0; have y3 := (b1.cell (p := ⟨w.heap.size, 3, none⟩) hz0).trans z3; replace b1 := hide b1; clear T1 u1)
      go_quiet (fail)
      go_wp2
      go_ret2
      exact ⟨ret_qv rfl rfl, B0.out.then_below (below_drewN b1.out _)⟩
set_option maxRecDepth 100000 in
set_option maxHeartbeats 4000000 in
theorem rspell_5 (w : World) (hr : Rsv w) (a b : Int) (s : ByteArray) (l : List UInt8) (hs : s.data.toList = l) (hl : l.length ≤ 1073741822) :
    Calls Tryz.prog 34 #[.agg #[.int .i64 5, .int .i64 a, .int .i64 b, .string s]] w fun e w' => e = .returned (.tuple #[qv (S.spl resv 5 l), .int .i64 (qe (S.spl resv 5 l))]) ∧ Below w.heap.size w w' := by
  have hn := size_of s l hs
  obtain ⟨W0, hW0⟩ : ∃ W, w.alloc (.cells #[.int .i64 5, .int .i64 a, .int .i64 b, .string s] 61) = W := ⟨_, rfl⟩
  obtain ⟨B0, z0, z3, hz0⟩ := SpW.all (w := w) hW0
  have qt := rtokens_calls W0 (hr.below B0) s l hs (by omega)
  replace B0 := hide B0
  have m1 : s.size ≤ 1073741824 := by omega
  have eo : S.spl resv 5 l = if S.oneOf resv 5 l then some l else none := rfl
  rw [eo]
  by_cases hone : S.oneOf resv 5 l = true
  · obtain ⟨t, e1, e2, e3, e4, e5⟩ := one_place (by decide) (by decide) (by decide) hone
    rw [hone]
    rw [e1] at qt
    simp only at qt
    replace qt := hide qt
    obtain ⟨tk, tb, tf, tx⟩ := t
    simp only at e2 e3 e4 e5
    have e2' : tk = 5 := by omega
    subst e2' e4
    have hsx : (⟨tx.toArray⟩ : ByteArray) = s := bytes_eq (by rw [hs]; exact e3)
    have e5' : (tf : Int) = s.size := by omega
    have hs' := hide hs
    clear e1 e2 e3 e5 eo hone hs hn hr hl
    go_enter Tryz.func34, Tryz.ntmps34
    go_wp2_with (go_at_call 24; refine qt.out.mono ?_; rintro x w1 ⟨v1, rfl, u1, b1⟩; have T1 := ownsRow.trow u1; obtain ⟨a1, cp1, rfl, n1, n1'⟩ := T1.shape; obtain ⟨g1, f1, rfl, x0, x1, x2, x3⟩ := T1.at_ (j := 0) (by simp); simp at x0 x1 x2 x3 n1; rw [hsx] at x3; have y0 := (b1.cell (p := ⟨w.heap.size, 0, none⟩) hz0).trans z0; have y3 := (b1.cell (p := ⟨w.heap.size, 3, none⟩) hz0).trans z3; replace b1 := hide b1; clear T1 u1)
    go_quiet (fail)
    go_wp2
    go_ret2
    exact ⟨ret_qv (by rw [hs'.out]; rfl) rfl, B0.out.then_below (below_drewN b1.out _)⟩
  · have hone' : S.oneOf resv 5 l = false := by simpa using hone
    rw [hone']
    obtain ⟨O, hO⟩ : ∃ O, S.run resv .idle l 0 = O := ⟨_, rfl⟩
    rw [hO] at qt
    obtain ⟨ts, e, p⟩ := O
    simp only at qt
    replace qt := hide qt
    have hs' := hide hs
    by_cases he : e = 0
    · subst he
      by_cases hts : ts.length = 1
      · obtain ⟨t, rfl⟩ : ∃ t, ts = [t] := List.length_eq_one_iff.1 hts
        by_cases hk : (t.kind : Int) = 5
        · have hx : t.text ≠ l := by
            intro hx
            exact hone (oneOf_yes hO rfl rfl hk hx)
          obtain ⟨SX, hSX⟩ : ∃ Y : ByteArray, (⟨t.text.toArray⟩ : ByteArray) = Y := ⟨_, rfl⟩
          have hne : SX ≠ s := by
            intro e
            rw [← hSX] at e
            apply hx
            have := congrArg (fun z : ByteArray => z.data.toList) e
            simp only at this
            rw [hs'.out] at this
            exact this
          obtain ⟨e1, e2, e3, e4, e5⟩ := str_ne4' hne
          clear hone hone' hx hts hne hO eo hs hn hr hl
          go_enter Tryz.func34, Tryz.ntmps34
          go_wp2_with (go_at_call 24; refine qt.out.mono ?_; rintro x w1 ⟨v1, rfl, u1, b1⟩; have T1 := ownsRow.trow u1; obtain ⟨a1, cp1, rfl, n1, n1'⟩ := T1.shape; obtain ⟨g1, f1, rfl, x0, x1, x2, x3⟩ := T1.at_ (j := 0) (by simp); simp at x0 x1 x2 x3 n1; rw [hSX] at x3; have y0 := (b1.cell (p := ⟨w.heap.size, 0, none⟩) hz0).trans z0; have y3 := (b1.cell (p := ⟨w.heap.size, 3, none⟩) hz0).trans z3; replace b1 := hide b1; clear T1 u1)
          go_quiet (fail)
          go_wp2
          go_ret2
          exact ⟨ret_qv rfl rfl, B0.out.then_below (below_drewN b1.out _)⟩
        · have hk1 : ((t.kind : Int) == 5) = false := by simpa using hk
          clear hone hone' hk hts hO eo hs hn hr hl
          go_enter Tryz.func34, Tryz.ntmps34
          go_wp2_with (go_at_call 24; refine qt.out.mono ?_; rintro x w1 ⟨v1, rfl, u1, b1⟩; have T1 := ownsRow.trow u1; obtain ⟨a1, cp1, rfl, n1, n1'⟩ := T1.shape; obtain ⟨g1, f1, rfl, x0, x1, x2, x3⟩ := T1.at_ (j := 0) (by simp); simp at x0 x1 x2 x3 n1; have y0 := (b1.cell (p := ⟨w.heap.size, 0, none⟩) hz0).trans z0; have y3 := (b1.cell (p := ⟨w.heap.size, 3, none⟩) hz0).trans z3; replace b1 := hide b1; clear T1 u1)
          go_quiet (fail)
          go_wp2
          go_ret2
          exact ⟨ret_qv rfl rfl, B0.out.then_below (below_drewN b1.out _)⟩
      · have hts1 : ((ts.length : Int) == 1) = false := by simpa using (show ¬ (ts.length : Int) = 1 by omega)
        clear hone hone' hts hO eo hs hn hr hl
        go_enter Tryz.func34, Tryz.ntmps34
        go_wp2_with (go_at_call 24; refine qt.out.mono ?_; rintro x w1 ⟨v1, rfl, u1, b1⟩; have T1 := ownsRow.trow u1; obtain ⟨a1, cp1, rfl, n1, n1'⟩ := T1.shape; have y0 := (b1.cell (p := ⟨w.heap.size, 0, none⟩) hz0).trans z0; have y3 := (b1.cell (p := ⟨w.heap.size, 3, none⟩) hz0).trans z3; replace b1 := hide b1; clear T1 u1)
        go_quiet (fail)
        go_wp2
        go_ret2
        exact ⟨ret_qv rfl rfl, B0.out.then_below (below_drewN b1.out _)⟩
    · have he1 : ((e : Int) == 0) = false := by simpa using (show ¬ (e : Int) = 0 by omega)
      clear hone hone' he hO eo hs hn hr hl
      go_enter Tryz.func34, Tryz.ntmps34
      go_wp2_with (go_at_call 24; refine qt.out.mono ?_; rintro x w1 ⟨v1, rfl, u1, b1⟩; have T1 := ownsRow.trow u1; obtain ⟨a1, cp1, rfl, n1, n1'⟩ := T1.shape; have y0 := (b1.cell (p := ⟨w.heap.size, 0, none⟩) hz0).trans z0; have y3 := (b1.cell (p := ⟨w.heap.size, 3, none⟩) hz0).trans z3; replace b1 := hide b1; clear T1 u1)
      go_quiet (fail)
      go_wp2
      go_ret2
      exact ⟨ret_qv rfl rfl, B0.out.then_below (below_drewN b1.out _)⟩
end Go.Proofs.YtackibimlpkcmaaGreatDoor
