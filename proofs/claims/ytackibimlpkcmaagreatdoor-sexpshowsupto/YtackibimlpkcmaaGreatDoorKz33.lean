/- Laid together of: RefSpell3, RefSpell4. -/
import Derived.Test.YtackibimlpkcmaaGreatDoorKz32
import Derived.Test.YtackibimlpkcmaaGreatDoorRefSpell2Kz
/- ==== RefSpell3 ==== -/
namespace Go.Proofs.YtackibimlpkcmaaGreatDoor
open Go.RowKit
set_option linter.unusedVariables false
set_option maxRecDepth 100000 in
set_option maxHeartbeats 4000000 in
theorem rspell_6 (w : World) (hr : Rsv w) (a b : Int) (s : ByteArray) (l : List UInt8) (hs : s.data.toList = l) (hl : l.length ≤ 1073741822) :
    Calls Tryz.prog 34 #[.agg #[.int .i64 6, .int .i64 a, .int .i64 b, .string s]] w fun e w' => e = .returned (.tuple #[qv (S.spl resv 6 l), .int .i64 (qe (S.spl resv 6 l))]) ∧ Below w.heap.size w w' := by
  have hn := size_of s l hs
  obtain ⟨W0, hW0⟩ : ∃ W, w.alloc (.cells #[.int .i64 6, .int .i64 a, .int .i64 b, .string s] 61) = W := ⟨_, rfl⟩
  obtain ⟨B0, z0, z3, hz0⟩ := SpW.all (w := w) hW0
  have qt := rtokens_calls W0 (hr.below B0) s l hs (by omega)
  replace B0 := hide B0
  have m1 : s.size ≤ 1073741824 := by omega
  have eo : S.spl resv 6 l = if S.oneOf resv 6 l then some l else none := rfl
  rw [eo]
  by_cases hone : S.oneOf resv 6 l = true
  · obtain ⟨t, e1, e2, e3, e4, e5⟩ := one_place (by decide) (by decide) (by decide) hone
    rw [hone]
    rw [e1] at qt
    simp only at qt
    replace qt := hide qt
    obtain ⟨tk, tb, tf, tx⟩ := t
    simp only at e2 e3 e4 e5
    have e2' : tk = 6 := by omega
    subst e2' e4
    have hsx : (⟨tx.toArray⟩ : ByteArray) = s := bytes_eq (by rw [hs]; exact e3)
    have e5' : (tf : Int) = s.size := by omega
    have hs' := hide hs
    clear e1 e2 e3 e5 eo hone hs hn hr hl
    go_enter Tryz.func34, Tryz.ntmps34
    go_wp2_with (go_at_call 24; refine qt.out.mono ?_; rintro x w1 ⟨v1, rfl, u1, b1⟩; have T1 := ownsRow.trow u1; obtain ⟨a1, cp1, rfl, n1, n1'⟩ := T1.shape; obtain ⟨g1, f1, rfl, x0, x1, x2, x3⟩ := T1.at_ (j := 0) (by simp); simp at x0 x1 x2 x3 n1; rw [hsx] at x3; have y0 := (b1.cell (p := ⟨w.heap.size, 0, none⟩) hz0).trans z0; have y3 := (b1.cell (p := ⟨w.heap.size, 3, none⟩) hz0).trans z3; replace b1 := hide b1; clear T1 u1)
    go_quiet (fail)
    go_wp2
    go_ret2
    exact ⟨ret_qv (by rw [hs'.out]; rfl) rfl, B0.out.then_below (below_drewN b1.out _)⟩
  · have hone' : S.oneOf resv 6 l = false := by simpa using hone
    rw [hone']
    obtain ⟨O, hO⟩ : ∃ O, S.run resv .idle l 0 = O := ⟨_, rfl⟩
    rw [hO] at qt
    obtain ⟨ts, e, p⟩ := O
    simp only at qt
    replace qt := hide qt
    have hs' := hide hs
    by_cases he : e = 0
    · subst he
      by_cases hts : ts.length = 1
      · obtain ⟨t, rfl⟩ : ∃ t, ts = [t] := List.length_eq_one_iff.1 hts
        by_cases hk : (t.kind : Int) = 6
        · have hx : t.text ≠ l := by
            intro hx
            exact hone (oneOf_yes hO rfl rfl hk hx)
          obtain ⟨SX, hSX⟩ : ∃ Y : ByteArray, (⟨t.text.toArray⟩ : ByteArray) = Y := ⟨_, rfl⟩
          have hne : SX ≠ s := by
            intro e
            rw [← hSX] at e
            apply hx
            have := congrArg (fun z : ByteArray => z.data.toList) e
            simp only at this
            rw [hs'.out] at this
            exact this
          obtain ⟨e1, e2, e3, e4, e5⟩ := str_ne4' hne
          clear hone hone' hx hts hne hO eo hs hn hr hl
          go_enter Tryz.func34, Tryz.ntmps34
          go_wp2_with (go_at_call 24; refine qt.out.mono ?_; rintro x w1 ⟨v1, rfl, u1, b1⟩; have T1 := ownsRow.trow u1; obtain ⟨a1, cp1, rfl, n1, n1'⟩ := T1.shape; obtain ⟨g1, f1, rfl, x0, x1, x2, x3⟩ := T1.at_ (j := 0) (by simp); simp at x0 x1 x2 x3 n1; rw [hSX] at x3; have y0 := (b1.cell (p := ⟨w.heap.size, 0, none⟩) hz0).trans z0; have y3 := (b1.cell (p := ⟨w.heap.size, 3, none⟩) hz0).trans z3; replace b1 := hide b1; clear T1 u1)
          go_quiet (fail)
          go_wp2
          go_ret2
          exact ⟨ret_qv rfl rfl, B0.out.then_below (below_drewN b1.out _)⟩
        · have hk1 : ((t.kind : Int) == 6) = false := by simpa using hk
          clear hone hone' hk hts hO eo hs hn hr hl
          go_enter Tryz.func34, Tryz.ntmps34
          go_wp2_with (go_at_call 24; refine qt.out.mono ?_; rintro x w1 ⟨v1, rfl, u1, b1⟩; have T1 := ownsRow.trow u1; obtain ⟨a1, cp1, rfl, n1, n1'⟩ := T1.shape; obtain ⟨g1, f1, rfl, x0, x1, x2, x3⟩ := T1.at_ (j := 0) (by simp); simp at x0 x1 x2 x3 n1; have y0 := (b1.cell (p := ⟨w.heap.size, 0, none⟩) hz0).trans z0; have y3 := (b1.cell (p := ⟨w.heap.size, 3, none⟩) hz0).trans z3; replace b1 := hide b1; clear T1 u1)
          go_quiet (fail)
          go_wp2
          go_ret2
          exact ⟨ret_qv rfl rfl, B0.out.then_below (below_drewN b1.out _)⟩
      · have hts1 : ((ts.length : Int) == 1) = false := by simpa using (show ¬ (ts.length : Int) = 1 by omega)
        clear hone hone' hts hO eo hs hn hr hl
        go_enter Tryz.func34, Tryz.ntmps34
        go_wp2_with (go_at_call 24; refine qt.out.mono ?_; rintro x w1 ⟨v1, rfl, u1, b1⟩; have T1 := ownsRow.trow u1; obtain ⟨a1, cp1, rfl, n1, n1'⟩ := T1.shape; have y0 := (b1.cell (p := ⟨w.heap.size, 0, none⟩) hz0).trans z0; have y3 := (b1.cell (p := ⟨w.heap.size, 3, none⟩) hz0).trans z3; replace b1 := hide b1; clear T1 u1)
        go_quiet (fail)
        go_wp2
        go_ret2
        exact ⟨ret_qv rfl rfl, B0.out.then_below (below_drewN b1.out _)⟩
    · have he1 : ((e : Int) == 0) = false := by simpa using (show ¬ (e : Int) = 0 by omega)
      clear hone hone' he hO eo hs hn hr hl
      go_enter Tryz.func34, Tryz.ntmps34
      go_wp2_with (go_at_call 24; refine qt.out.mono ?_; rintro x w1 ⟨v1, rfl, u1, b1⟩; have T1 := ownsRow.trow u1; obtain ⟨a1, cp1, rfl, n1, n1'⟩ := T1.shape; have y0 := (b1.cell (p := ⟨w.heap.size, 0, none⟩) hz0).trans z0; have y3 := (b1.cell (p := ⟨w.heap.size, 3, none⟩) hz0).trans z3; replace b1 := hide b1; clear T1 u1)
      go_quiet (fail)
      go_wp2
      go_ret2
      exact ⟨ret_qv rfl rfl, B0.out.then_below (below_drewN b1.out _)⟩
set_option maxRecDepth 100000 in
set_option maxHeartbeats 4000000 in
theorem rspell_7 (w : World) (hr : Rsv w) (a b : Int) (s : ByteArray) (l : List UInt8) (hs : s.data.toList = l) (hl : l.length ≤ 1073741822) :
    Calls Tryz.prog 34 #[.agg #[.int .i64 7, .int .i64 a, .int .i64 b, .string s]] w fun e w' => e = .returned (.tuple #[qv (S.spl resv 7 l), .int .i64 (qe (S.spl resv 7 l))]) ∧ Below w.heap.size w w' := by
  have hn := size_of s l hs
  obtain ⟨W0, hW0⟩ : ∃ W, w.alloc (.cells #[.int .i64 7, .int .i64 a, .int .i64 b, .string s] 61) = W := ⟨_, rfl⟩
  obtain ⟨B0, z0, z3, hz0⟩ := SpW.all (w := w) hW0
  have qt := rtokens_calls W0 (hr.below B0) s l hs (by omega)
  replace B0 := hide B0
  have m1 : s.size ≤ 1073741824 := by omega
  have eo : S.spl resv 7 l = if S.oneOf resv 7 l then some l else none := rfl
  rw [eo]
  by_cases hone : S.oneOf resv 7 l = true
  · obtain ⟨t, e1, e2, e3, e4, e5⟩ := one_place (by decide) (by decide) (by decide) hone
    rw [hone]
    rw [e1] at qt
    simp only at qt
    replace qt := hide qt
    obtain ⟨tk, tb, tf, tx⟩ := t
    simp only at e2 e3 e4 e5
    have e2' : tk = 7 := by omega
    subst e2' e4
    have hsx : (⟨tx.toArray⟩ : ByteArray) = s := bytes_eq (by rw [hs]; exact e3)
    have e5' : (tf : Int) = s.size := by omega
    have hs' := hide hs
    clear e1 e2 e3 e5 eo hone hs hn hr hl
    go_enter Tryz.func34, Tryz.ntmps34
    go_wp2_with (go_at_call 24; refine qt.out.mono ?_; rintro x w1 ⟨v1, rfl, u1, b1⟩; have T1 := ownsRow.trow u1; obtain ⟨a1, cp1, rfl, n1, n1'⟩ := T1.shape; obtain ⟨g1, f1, rfl, x0, x1, x2, x3⟩ := T1.at_ (j := 0) (by simp); simp at x0 x1 x2 x3 n1; rw [hsx] at x3; have y0 := (b1.cell (p := ⟨w.heap.size, 0, none⟩) hz0).trans z0; have y3 := (b1.cell (p := ⟨w.heap.size, 3, none⟩) hz0).trans z3; replace b1 := hide b1; clear T1 u1)
    go_quiet (fail)
    go_wp2
    go_ret2
    exact ⟨ret_qv (by rw [hs'.out]; rfl) rfl, B0.out.then_below (below_drewN b1.out _)⟩
  · have hone' : S.oneOf resv 7 l = false := by simpa using hone
    rw [hone']
    obtain ⟨O, hO⟩ : ∃ O, S.run resv .idle l 0 = O := ⟨_, rfl⟩
    rw [hO] at qt
    obtain ⟨ts, e, p⟩ := O
    simp only at qt
    replace qt := hide qt
    have hs' := hide hs
    by_cases he : e = 0
    · subst he
      by_cases hts : ts.length = 1
      · obtain ⟨t, rfl⟩ : ∃ t, ts = [t] := List.length_eq_one_iff.1 hts
        by_cases hk : (t.kind : Int) = 7
        · have hx : t.text ≠ l := by
            intro hx
            exact hone (oneOf_yes hO rfl rfl hk hx)
          obtain ⟨SX, hSX⟩ : ∃ Y : ByteArray, (⟨t.text.toArray⟩ : ByteArray) = Y := ⟨_, rfl⟩
          have hne : SX ≠ s := by
            intro e
            rw [← hSX] at e
            apply hx
            have := congrArg (fun z : ByteArray => z.data.toList) e
            simp only at this
            rw [hs'.out] at this
            exact this
          obtain ⟨e1, e2, e3, e4, e5⟩ := str_ne4' hne
          clear hone hone' hx hts hne hO eo hs hn hr hl
          go_enter Tryz.func34, Tryz.ntmps34
          go_wp2_with (go_at_call 24; refine qt.out.mono ?_; rintro x w1 ⟨v1, rfl, u1, b1⟩; have T1 := ownsRow.trow u1; obtain ⟨a1, cp1, rfl, n1, n1'⟩ := T1.shape; obtain ⟨g1, f1, rfl, x0, x1, x2, x3⟩ := T1.at_ (j := 0) (by simp); simp at x0 x1 x2 x3 n1; rw [hSX] at x3; have y0 := (b1.cell (p := ⟨w.heap.size, 0, none⟩) hz0).trans z0; have y3 := (b1.cell (p := ⟨w.heap.size, 3, none⟩) hz0).trans z3; replace b1 := hide b1; clear T1 u1)
          go_quiet (fail)
          go_wp2
          go_ret2
          exact ⟨ret_qv rfl rfl, B0.out.then_below (below_drewN b1.out _)⟩
        · have hk1 : ((t.kind : Int) == 7) = false := by simpa using hk
          clear hone hone' hk hts hO eo hs hn hr hl
          go_enter Tryz.func34, Tryz.ntmps34
          go_wp2_with (go_at_call 24; refine qt.out.mono ?_; rintro x w1 ⟨v1, rfl, u1, b1⟩; have T1 := ownsRow.trow u1; obtain ⟨a1, cp1, rfl, n1, n1'⟩ := T1.shape; obtain ⟨g1, f1, rfl, x0, x1, x2, x3⟩ := T1.at_ (j := 0) (by simp); simp at x0 x1 x2 x3 n1; have y0 := (b1.cell (p := ⟨w.heap.size, 0, none⟩) hz0).trans z0; have y3 := (b1.cell (p := ⟨w.heap.size, 3, none⟩) hz0).trans z3; replace b1 := hide b1; clear T1 u1)
          go_quiet (fail)
          go_wp2
          go_ret2
          exact ⟨ret_qv rfl rfl, B0.out.then_below (below_drewN b1.out _)⟩
      · have hts1 : ((ts.length : Int) == 1) = false := by simpa using (show ¬ (ts.length : Int) = 1 by omega)
        clear hone hone' hts hO eo hs hn hr hl
        go_enter Tryz.func34, Tryz.ntmps34
        go_wp2_with (go_at_call 24; refine qt.out.mono ?_; rintro x w1 ⟨v1, rfl, u1, b1⟩; have T1 := ownsRow.trow u1; obtain ⟨a1, cp1, rfl, n1, n1'⟩ := T1.shape; have y0 := (b1.cell (p := ⟨w.heap.size, 0, none⟩) hz0).trans z0; have y3 := (b1.cell (p := ⟨w.heap.size, 3, none⟩) hz0).trans z3; replace b1 := hide b1; clear T1 u1)
        go_quiet (fail)
        go_wp2
        go_ret2
        exact ⟨ret_qv rfl rfl, B0.out.then_below (below_drewN b1.out _)⟩
    · have he1 : ((e : Int) == 0) = false := by simpa using (show ¬ (e : Int) = 0 by omega)
      clear hone hone' he hO eo hs hn hr hl
      go_enter Tryz.func34, Tryz.ntmps34
      go_wp2_with (go_at_call 24; refine qt.out.mono ?_; rintro x w1 ⟨v1, rfl, u1, b1⟩; have T1 := ownsRow.trow u1; obtain ⟨a1, cp1, rfl, n1, n1'⟩ := T1.shape; have y0 := (b1.cell (p := ⟨w.heap.size, 0, none⟩) hz0).trans z0; have y3 := (b1.cell (p := ⟨w.heap.size, 3, none⟩) hz0).trans z3; replace b1 := hide b1; clear T1 u1)
      go_quiet (fail)
      go_wp2
      go_ret2
      exact ⟨ret_qv rfl rfl, B0.out.then_below (below_drewN b1.out _)⟩
set_option maxRecDepth 100000 in
set_option maxHeartbeats 4000000 in
theorem rspell_8 (w : World) (hr : Rsv w) (a b : Int) (s : ByteArray) (l : List UInt8) (hs : s.data.toList = l) (hl : l.length ≤ 1073741822) :
    Calls Tryz.prog 34 #[.agg #[.int .i64 8, .int .i64 a, .int .i64 b, .string s]] w fun e w' => e = .returned (.tuple #[qv (S.spl resv 8 l), .int .i64 (qe (S.spl resv 8 l))]) ∧ Below w.heap.size w w' := by
  have hn := size_of s l hs
  obtain ⟨W0, hW0⟩ : ∃ W, w.alloc (.cells #[.int .i64 8, .int .i64 a, .int .i64 b, .string s] 61) = W := ⟨_, rfl⟩
  obtain ⟨B0, z0, z3, hz0⟩ := SpW.all (w := w) hW0
  have qt := rtokens_calls W0 (hr.below B0) s l hs (by omega)
  replace B0 := hide B0
  have m1 : s.size ≤ 1073741824 := by omega
  have eo : S.spl resv 8 l = if S.oneOf resv 8 l then some l else none := rfl
  rw [eo]
  by_cases hone : S.oneOf resv 8 l = true
  · obtain ⟨t, e1, e2, e3, e4, e5⟩ := one_place (by decide) (by decide) (by decide) hone
    rw [hone]
    rw [e1] at qt
    simp only at qt
    replace qt := hide qt
    obtain ⟨tk, tb, tf, tx⟩ := t
    simp only at e2 e3 e4 e5
    have e2' : tk = 8 := by omega
    subst e2' e4
    have hsx : (⟨tx.toArray⟩ : ByteArray) = s := bytes_eq (by rw [hs]; exact e3)
    have e5' : (tf : Int) = s.size := by omega
    have hs' := hide hs
    clear e1 e2 e3 e5 eo hone hs hn hr hl
    go_enter Tryz.func34, Tryz.ntmps34
    go_wp2_with (go_at_call 24; refine qt.out.mono ?_; rintro x w1 ⟨v1, rfl, u1, b1⟩; have T1 := ownsRow.trow u1; obtain ⟨a1, cp1, rfl, n1, n1'⟩ := T1.shape; obtain ⟨g1, f1, rfl, x0, x1, x2, x3⟩ := T1.at_ (j := 0) (by simp); simp at x0 x1 x2 x3 n1; rw [hsx] at x3; have y0 := (b1.cell (p := ⟨w.heap.size, 0, none⟩) hz0).trans z0; have y3 := (b1.cell (p := ⟨w.heap.size, 3, none⟩) hz0).trans z3; replace b1 := hide b1; clear T1 u1)
    go_quiet (fail)
    go_wp2
    go_ret2
    exact ⟨ret_qv (by rw [hs'.out]; rfl) rfl, B0.out.then_below (below_drewN b1.out _)⟩
  · have hone' : S.oneOf resv 8 l = false := by simpa using hone
    rw [hone']
    obtain ⟨O, hO⟩ : ∃ O, S.run resv .idle l 0 = O := ⟨_, rfl⟩
    rw [hO] at qt
    obtain ⟨ts, e, p⟩ := O
    simp only at qt
    replace qt := hide qt
    have hs' := hide hs
    by_cases he : e = 0
    · subst he
      by_cases hts : ts.length = 1
      · obtain ⟨t, rfl⟩ : ∃ t, ts = [t] := List.length_eq_one_iff.1 hts
        by_cases hk : (t.kind : Int) = 8
        · have hx : t.text ≠ l := by
            intro hx
            exact hone (oneOf_yes hO rfl rfl hk hx)
          obtain ⟨SX, hSX⟩ : ∃ Y : ByteArray, (⟨t.text.toArray⟩ : ByteArray) = Y := ⟨_, rfl⟩
          have hne : SX ≠ s := by
            intro e
            rw [← hSX] at e
            apply hx
            have := congrArg (fun z : ByteArray => z.data.toList) e
            simp only at this
            rw [hs'.out] at this
            exact this
          obtain ⟨e1, e2, e3, e4, e5⟩ := str_ne4' hne
          clear hone hone' hx hts hne hO eo hs hn hr hl
          go_enter Tryz.func34, Tryz.ntmps34
          go_wp2_with (go_at_call 24; refine qt.out.mono ?_; rintro x w1 ⟨v1, rfl, u1, b1⟩; have T1 := ownsRow.trow u1; obtain ⟨a1, cp1, rfl, n1, n1'⟩ := T1.shape; obtain ⟨g1, f1, rfl, x0, x1, x2, x3⟩ := T1.at_ (j := 0) (by simp); simp at x0 x1 x2 x3 n1; rw [hSX] at x3; have y0 := (b1.cell (p := ⟨w.heap.size, 0, none⟩) hz0).trans z0; have y3 := (b1.cell (p := ⟨w.heap.size, 3, none⟩) hz0).trans z3; replace b1 := hide b1; clear T1 u1)
          go_quiet (fail)
          go_wp2
          go_ret2
          exact ⟨ret_qv rfl rfl, B0.out.then_below (below_drewN b1.out _)⟩
        · have hk1 : ((t.kind : Int) == 8) = false := by simpa using hk
          clear hone hone' hk hts hO eo hs hn hr hl
          go_enter Tryz.func34, Tryz.ntmps34
          go_wp2_with (go_at_call 24; refine qt.out.mono ?_; rintro x w1 ⟨v1, rfl, u1, b1⟩; have T1 := ownsRow.trow u1; obtain ⟨a1, cp1, rfl, n1, n1'⟩ := T1.shape; obtain ⟨g1, f1, rfl, x0, x1, x2, x3⟩ := T1.at_ (j := 0) (by simp); simp at x0 x1 x2 x3 n1; have y0 := (b1.cell (p := ⟨w.heap.size, 0, none⟩) hz0).trans z0; have y3 := (b1.cell (p := ⟨w.heap.size, 3, none⟩) hz0).trans z3; replace b1 := hide b1; clear T1 u1)
          go_quiet (fail)
          go_wp2
          go_ret2
          exact ⟨ret_qv rfl rfl, B0.out.then_below (below_drewN b1.out _)⟩
      · have hts1 : ((ts.length : Int) == 1) = false := by simpa using (show ¬ (ts.length : Int) = 1 by omega)
        clear hone hone' hts hO eo hs hn hr hl
        go_enter Tryz.func34, Tryz.ntmps34
        go_wp2_with (go_at_call 24; refine qt.out.mono ?_; rintro x w1 ⟨v1, rfl, u1, b1⟩; have T1 := ownsRow.trow u1; obtain ⟨a1, cp1, rfl, n1, n1'⟩ := T1.shape; have y0 := (b1.cell (p := ⟨w.heap.size, 0, none⟩) hz0).trans z0; have y3 := (b1.cell (p := ⟨w.heap.size, 3, none⟩) hz0).trans z3; replace b1 := hide b1; clear T1 u1)
        go_quiet (fail)
        go_wp2
        go_ret2
        exact ⟨ret_qv rfl rfl, B0.out.then_below (below_drewN b1.out _)⟩
    · have he1 : ((e : Int) == 0) = false := by simpa using (show ¬ (e : Int) = 0 by omega)
      clear hone hone' he hO eo hs hn hr hl
      go_enter Tryz.func34, Tryz.ntmps34
      go_wp2_with (go_at_call 24; refine qt.out.mono ?_; rintro x w1 ⟨v1, rfl, u1, b1⟩; have T1 := ownsRow.trow u1; obtain ⟨a1, cp1, rfl, n1, n1'⟩ := T1.shape; have y0 := (b1.cell (p := ⟨w.heap.size, 0, none⟩) hz0).trans z0; have y3 := (b1.cell (p := ⟨w.heap.size, 3, none⟩) hz0).trans z3; replace b1 := hide b1; clear T1 u1)
      go_quiet (fail)
      go_wp2
      go_ret2
      exact ⟨ret_qv rfl rfl, B0.out.then_below (below_drewN b1.out _)⟩
end Go.Proofs.YtackibimlpkcmaaGreatDoor
/- ==== RefSpell4 ==== -/
namespace Go.Proofs.YtackibimlpkcmaaGreatDoor
open Go.RowKit
set_option linter.unusedVariables false
set_option maxRecDepth 100000 in
set_option maxHeartbeats 4000000 in
theorem rspell_calls (w : World) (hr : Rsv w) (k a b : Int) (s : ByteArray) (l : List UInt8) (hs : s.data.toList = l) (hl : l.length ≤ 1073741822) :
    Calls Tryz.prog 34 #[.agg #[.int .i64 k, .int .i64 a, .int .i64 b, .string s]] w fun e w' => e = .returned (.tuple #[qv (S.spl resv k l), .int .i64 (qe (S.spl resv k l))]) ∧ Below w.heap.size w w' := by
  by_cases k1 : k = 1
  · subst k1
    exact rspell_1 w hr a b s l hs hl
  by_cases k2 : k = 2
  · subst k2
    exact rspell_2 w hr a b s l hs hl
  by_cases k4 : k = 4
  · subst k4
    exact rspell_4 w hr a b s l hs hl
  by_cases k5 : k = 5
  · subst k5
    exact rspell_5 w hr a b s l hs hl
  by_cases k6 : k = 6
  · subst k6
    exact rspell_6 w hr a b s l hs hl
  by_cases k7 : k = 7
  · subst k7
    exact rspell_7 w hr a b s l hs hl
  by_cases k8 : k = 8
  · subst k8
    exact rspell_8 w hr a b s l hs hl
  have hn := size_of s l hs
  obtain ⟨W0, hW0⟩ : ∃ W, w.alloc (.cells #[.int .i64 k, .int .i64 a, .int .i64 b, .string s] 61) = W := ⟨_, rfl⟩
  obtain ⟨B0, z0, z3, hz0⟩ := SpW.all (w := w) hW0
  have q3 := hide (rquote_calls W0 (hr.below B0) s l hs hl)
  have q9 := hide (rliteral_calls W0 s l hs (by omega))
  have q10 := hide (rsimple_calls W0 s l hs (by omega))
  replace B0 := hide B0
  have m1 : s.size ≤ 1073741824 := by omega
  by_cases h3 : k = 3
  · subst h3
    rw [show S.spl resv 3 l = S.quo resv l from rfl]
    generalize S.quo resv l = o at q3
    unfold qv at q3
    go_enter Tryz.func34, Tryz.ntmps34
    go_wp2_with (go_at_call 43; refine q3.out.mono ?_; rintro e w1 ⟨rfl, b1⟩; replace b1 := hide b1)
    go_ret2
    exact ⟨rfl, B0.out.then_below b1.out⟩
  · by_cases h9 : k = 9
    · subst h9
      rw [show S.spl resv 9 l = S.lit l from rfl]
      generalize S.lit l = o at q9
      unfold qv at q9
      go_enter Tryz.func34, Tryz.ntmps34
      go_wp2_with (go_at_call 44; refine q9.out.mono ?_; rintro e w1 ⟨rfl, b1⟩; replace b1 := hide b1)
      go_ret2
      exact ⟨rfl, B0.out.then_below b1.out⟩
    · by_cases h10 : k = 10
      · subst h10
        have e10 : S.spl resv 10 l = if S.smp l then some (58 :: l) else none := rfl
        rw [e10]
        have hs' := hide hs
        cases hsm : S.smp l with
        | true =>
          rw [hsm] at q10
          clear e10 hsm hs hn
          go_enter Tryz.func34, Tryz.ntmps34
          go_wp2_with (go_at_call 45; refine q10.out.mono ?_; rintro e w1 ⟨rfl, rfl⟩)
          go_ret2
          exact ⟨ret_qv (by simp [hs'.out]) rfl, B0.out⟩
        | false =>
          rw [hsm] at q10
          clear e10 hsm hs hn
          go_enter Tryz.func34, Tryz.ntmps34
          go_wp2_with (go_at_call 45; refine q10.out.mono ?_; rintro e w1 ⟨rfl, rfl⟩)
          go_ret2
          exact ⟨ret_qv rfl rfl, B0.out⟩
      · have eo : S.spl resv k l = none := by
          unfold S.spl
          rw [if_neg h3, if_neg h9, if_neg h10, if_neg]
          intro h
          have := oneOf_kinds h
          omega
        rw [eo]
        clear eo hs hn hr hl q3 q9 q10
        go_enter Tryz.func34, Tryz.ntmps34
        go_wp2
        go_ret2
        exact ⟨ret_qv rfl rfl, B0.out⟩
end Go.Proofs.YtackibimlpkcmaaGreatDoor
