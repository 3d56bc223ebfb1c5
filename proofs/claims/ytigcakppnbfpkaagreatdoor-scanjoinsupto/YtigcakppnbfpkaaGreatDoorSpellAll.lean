/- Laid together of: RefSpell, RefSpell2, RefSpell3, RefSpell4, RefJoin. -/
import Derived.Test.YtigcakppnbfpkaaGreatDoorRefQuotes
import Derived.Test.YtigcakppnbfpkaaGreatDoorJoinAll
import Derived.Test.YtigcakppnbfpkaaGreatDoorBackMath
/- ==== RefSpell ==== -/
namespace Go.Proofs.YtigcakppnbfpkaaGreatDoor
open Go.RowKit
set_option linter.unusedVariables false
theorem one_place {k : Int} {x : List UInt8} (h3 : k ≠ 3) (h9 : k ≠ 9) (h10 : k ≠ 10) (h : S.oneOf resv k x = true) : ∃ t : S.Tok, S.run resv .idle x 0 = ([t], 0, 0) ∧ (t.kind : Int) = k ∧ t.text = x ∧ t.beg = 0 ∧ t.fin = x.length := by
  obtain ⟨t, e1, e2, e3⟩ := S.oneOf_parts resv h
  have hk := S.run_okL resv x .idle 0 trivial t (by rw [e1]; exact List.mem_cons_self)
  have hlen := hk.1 (by omega) (by omega) (by omega)
  rw [e3] at hlen
  have hst := S.run_stands resv x 0
  rw [e1] at hst
  obtain ⟨n, m, m1, m2, m3, m4, -⟩ := hst
  exact ⟨t, e1, e2, e3, by omega, by omega⟩
theorem oneOf_kinds {k : Int} {x : List UInt8} (h : S.oneOf resv k x = true) : 1 ≤ k ∧ k ≤ 10 := by
  obtain ⟨t, e1, e2, e3⟩ := S.oneOf_parts resv h
  have hk := S.run_okL resv x .idle 0 trivial t (by rw [e1]; exact List.mem_cons_self)
  have h1 := hk.2.1
  have h2 := hk.2.2.1
  omega
/-- What the walks need of the token that is handed in. -/
def SpW (w W0 : World) (k a b : Int) (s : ByteArray) : Prop :=
  w.alloc (.cells #[.int .i64 k, .int .i64 a, .int .i64 b, .string s] 24) = W0
theorem SpW.all {w W0 : World} {k a b : Int} {s : ByteArray} (h : SpW w W0 k a b s) : Below w.heap.size w W0 ∧ W0.cell? ⟨w.heap.size, 0, none⟩ = some (.int .i64 k) ∧ W0.cell? ⟨w.heap.size, 3, none⟩ = some (.string s) ∧ w.heap.size < W0.heap.size := by
  have A0 : W0.heap[w.heap.size]? = some (.cells #[.int .i64 k, .int .i64 a, .int .i64 b, .string s] 24 (0, 0)) := by rw [← h]; exact heap_alloc_new w _
  exact ⟨by rw [← h]; exact (Below.refl _ w).alloc (Nat.le_refl _) _, cell_of_row _ _ 0 _ _ (0, 0) A0, cell_of_row _ _ 3 _ _ (0, 0) A0, (Array.getElem?_eq_some_iff.1 A0).1⟩
set_option maxRecDepth 100000 in
set_option maxHeartbeats 4000000 in
theorem rspell_1 (w : World) (hr : Rsv w) (a b : Int) (s : ByteArray) (l : List UInt8) (hs : s.data.toList = l) (hl : l.length ≤ 1073741822) :
    Calls Tryz.prog 22 #[.agg #[.int .i64 1, .int .i64 a, .int .i64 b, .string s]] w fun e w' => e = .returned (.tuple #[qv (S.spl resv 1 l), .int .i64 (qe (S.spl resv 1 l))]) ∧ Below w.heap.size w w' := by
  have hn := size_of s l hs
  obtain ⟨W0, hW0⟩ : ∃ W, w.alloc (.cells #[.int .i64 1, .int .i64 a, .int .i64 b, .string s] 24) = W := ⟨_, rfl⟩
  obtain ⟨B0, z0, z3, hz0⟩ := SpW.all (w := w) hW0
  have qt := rtokens_calls W0 (hr.below B0) s l hs (by omega)
  replace B0 := hide B0
  have m1 : s.size ≤ 1073741824 := by omega
  have eo : S.spl resv 1 l = if S.oneOf resv 1 l then some l else none := rfl
  rw [eo]
  by_cases hone : S.oneOf resv 1 l = true
  · obtain ⟨t, e1, e2, e3, e4, e5⟩ := one_place (by decide) (by decide) (by decide) hone
    rw [hone]
    rw [e1] at qt
    simp only at qt
    replace qt := hide qt
    obtain ⟨tk, tb, tf, tx⟩ := t
    simp only at e2 e3 e4 e5
    have e2' : tk = 1 := by omega
    subst e2' e4
    have hsx : (⟨tx.toArray⟩ : ByteArray) = s := bytes_eq (by rw [hs]; exact e3)
    have e5' : (tf : Int) = s.size := by omega
    have hs' := hide hs
    clear e1 e2 e3 e5 eo hone hs hn hr hl
    go_enter Tryz.func22, Tryz.ntmps22
    go_wp2_with (go_at_call 28; refine qt.out.mono ?_; rintro x w1 ⟨v1, rfl, u1, b1⟩; have T1 := ownsRow.trow u1; obtain ⟨a1, cp1, rfl, n1, n1'⟩ := T1.shape; obtain ⟨g1, f1, rfl, x0, x1, x2, x3⟩ := T1.at_ (j := 0) (by simp); simp at x0 x1 x2 x3 n1; rw [hsx] at x3; have y0 := (b1.cell (p := ⟨w.heap.size, 0, none⟩) hz0).trans z0; have y3 := (b1.cell (p := ⟨w.heap.size, 3, none⟩) hz0).trans z3; replace b1 := hide b1; clear T1 u1)
    go_quiet (fail)
    go_wp2
    go_ret2
    exact ⟨ret_qv (by rw [hs'.out]; rfl) rfl, B0.out.then_below (below_drewN b1.out _)⟩
  · have hone' : S.oneOf resv 1 l = false := by simpa using hone
    rw [hone']
    obtain ⟨O, hO⟩ : ∃ O, S.run resv .idle l 0 = O := ⟨_, rfl⟩
    rw [hO] at qt
    obtain ⟨ts, e, p⟩ := O
    simp only at qt
    replace qt := hide qt
    have hs' := hide hs
    by_cases he : e = 0
    · subst he
      by_cases hts : ts.length = 1
      · obtain ⟨t, rfl⟩ : ∃ t, ts = [t] := List.length_eq_one_iff.1 hts
        by_cases hk : (t.kind : Int) = 1
        · have hx : t.text ≠ l := by
            intro hx
            exact hone (oneOf_yes hO rfl rfl hk hx)
          obtain ⟨SX, hSX⟩ : ∃ Y : ByteArray, (⟨t.text.toArray⟩ : ByteArray) = Y := ⟨_, rfl⟩
          have hne : SX ≠ s := by
            intro e
            rw [← hSX] at e
            apply hx
            have := congrArg (fun z : ByteArray => z.data.toList) e
            simp only at this
            rw [hs'.out] at this
            exact this
          obtain ⟨e1, e2, e3, e4, e5⟩ := str_ne4' hne
          clear hone hone' hx hts hne hO eo hs hn hr hl
          go_enter Tryz.func22, Tryz.ntmps22
          go_wp2_with (go_at_call 28; refine qt.out.mono ?_; rintro x w1 ⟨v1, rfl, u1, b1⟩; have T1 := ownsRow.trow u1; obtain ⟨a1, cp1, rfl, n1, n1'⟩ := T1.shape; obtain ⟨g1, f1, rfl, x0, x1, x2, x3⟩ := T1.at_ (j := 0) (by simp); simp at x0 x1 x2 x3 n1; rw [hSX] at x3; have y0 := (b1.cell (p := ⟨w.heap.size, 0, none⟩) hz0).trans z0; have y3 := (b1.cell (p := ⟨w.heap.size, 3, none⟩) hz0).trans z3; replace b1 := hide b1; clear T1 u1)
          go_quiet (fail)
          go_wp2
          go_ret2
          exact ⟨ret_qv rfl rfl, B0.out.then_below (below_drewN b1.out _)⟩
        · have hk1 : ((t.kind : Int) == 1) = false := by simpa using hk
          clear hone hone' hk hts hO eo hs hn hr hl
          go_enter Tryz.func22, Tryz.ntmps22
          go_wp2_with (go_at_call 28; refine qt.out.mono ?_; rintro x w1 ⟨v1, rfl, u1, b1⟩; have T1 := ownsRow.trow u1; obtain ⟨a1, cp1, rfl, n1, n1'⟩ := T1.shape; obtain ⟨g1, f1, rfl, x0, x1, x2, x3⟩ := T1.at_ (j := 0) (by simp); simp at x0 x1 x2 x3 n1; have y0 := (b1.cell (p := ⟨w.heap.size, 0, none⟩) hz0).trans z0; have y3 := (b1.cell (p := ⟨w.heap.size, 3, none⟩) hz0).trans z3; replace b1 := hide b1; clear T1 u1)
          go_quiet (fail)
          go_wp2
          go_ret2
          exact ⟨ret_qv rfl rfl, B0.out.then_below (below_drewN b1.out _)⟩
      · have hts1 : ((ts.length : Int) == 1) = false := by simpa using (show ¬ (ts.length : Int) = 1 by omega)
        clear hone hone' hts hO eo hs hn hr hl
        go_enter Tryz.func22, Tryz.ntmps22
        go_wp2_with (go_at_call 28; refine qt.out.mono ?_; rintro x w1 ⟨v1, rfl, u1, b1⟩; have T1 := ownsRow.trow u1; obtain ⟨a1, cp1, rfl, n1, n1'⟩ := T1.shape; have y0 := (b1.cell (p := ⟨w.heap.size, 0, none⟩) hz0).trans z0; have y3 := (b1.cell (p := ⟨w.heap.size, 3, none⟩) hz0).trans z3; replace b1 := hide b1; clear T1 u1)
        go_quiet (fail)
        go_wp2
        go_ret2
        exact ⟨ret_qv rfl rfl, B0.out.then_below (below_drewN b1.out _)⟩
    · have he1 : ((e : Int) == 0) = false := by simpa using (show ¬ (e : Int) = 0 by omega)
      clear hone hone' he hO eo hs hn hr hl
      go_enter Tryz.func22, Tryz.ntmps22
      go_wp2_with (go_at_call 28; refine qt.out.mono ?_; rintro x w1 ⟨v1, rfl, u1, b1⟩; have T1 := ownsRow.trow u1; obtain ⟨a1, cp1, rfl, n1, n1'⟩ := T1.shape; have y0 := (b1.cell (p := ⟨w.heap.size, 0, none⟩) hz0).trans z0; have y3 := (b1.cell (p := ⟨w.heap.size, 3, none⟩) hz0).trans z3; replace b1 := hide b1; clear T1 u1)
      go_quiet (fail)
      go_wp2
      go_ret2
      exact ⟨ret_qv rfl rfl, B0.out.then_below (below_drewN b1.out _)⟩
end Go.Proofs.YtigcakppnbfpkaaGreatDoor
/- ==== RefSpell2 ==== -/
namespace Go.Proofs.YtigcakppnbfpkaaGreatDoor
open Go.RowKit
set_option linter.unusedVariables false
set_option maxRecDepth 100000 in
set_option maxHeartbeats 4000000 in
theorem rspell_2 (w : World) (hr : Rsv w) (a b : Int) (s : ByteArray) (l : List UInt8) (hs : s.data.toList = l) (hl : l.length ≤ 1073741822) :
    Calls Tryz.prog 22 #[.agg #[.int .i64 2, .int .i64 a, .int .i64 b, .string s]] w fun e w' => e = .returned (.tuple #[qv (S.spl resv 2 l), .int .i64 (qe (S.spl resv 2 l))]) ∧ Below w.heap.size w w' := by
  have hn := size_of s l hs
  obtain ⟨W0, hW0⟩ : ∃ W, w.alloc (.cells #[.int .i64 2, .int .i64 a, .int .i64 b, .string s] 24) = W := ⟨_, rfl⟩
  obtain ⟨B0, z0, z3, hz0⟩ := SpW.all (w := w) hW0
  have qt := rtokens_calls W0 (hr.below B0) s l hs (by omega)
  replace B0 := hide B0
  have m1 : s.size ≤ 1073741824 := by omega
  have eo : S.spl resv 2 l = if S.oneOf resv 2 l then some l else none := rfl
  rw [eo]
  by_cases hone : S.oneOf resv 2 l = true
  · obtain ⟨t, e1, e2, e3, e4, e5⟩ := one_place (by decide) (by decide) (by decide) hone
    rw [hone]
    rw [e1] at qt
    simp only at qt
    replace qt := hide qt
    obtain ⟨tk, tb, tf, tx⟩ := t
    simp only at e2 e3 e4 e5
    have e2' : tk = 2 := by omega
    subst e2' e4
    have hsx : (⟨tx.toArray⟩ : ByteArray) = s := bytes_eq (by rw [hs]; exact e3)
    have e5' : (tf : Int) = s.size := by omega
    have hs' := hide hs
    clear e1 e2 e3 e5 eo hone hs hn hr hl
    go_enter Tryz.func22, Tryz.ntmps22
    go_wp2_with (go_at_call 28; refine qt.out.mono ?_; rintro x w1 ⟨v1, rfl, u1, b1⟩; have T1 := ownsRow.trow u1; obtain ⟨a1, cp1, rfl, n1, n1'⟩ := T1.shape; obtain ⟨g1, f1, rfl, x0, x1, x2, x3⟩ := T1.at_ (j := 0) (by simp); simp at x0 x1 x2 x3 n1; rw [hsx] at x3; have y0 := (b1.cell (p := ⟨w.heap.size, 0, none⟩) hz0).trans z0; have y3 := (b1.cell (p := ⟨w.heap.size, 3, none⟩) hz0).trans z3; replace b1 := hide b1; clear T1 u1)
    go_quiet (fail)
    go_wp2
    go_ret2
    exact ⟨ret_qv (by rw [hs'.out]; rfl) rfl, B0.out.then_below (below_drewN b1.out _)⟩
  · have hone' : S.oneOf resv 2 l = false := by simpa using hone
    rw [hone']
    obtain ⟨O, hO⟩ : ∃ O, S.run resv .idle l 0 = O := ⟨_, rfl⟩
    rw [hO] at qt
    obtain ⟨ts, e, p⟩ := O
    simp only at qt
    replace qt := hide qt
    have hs' := hide hs
    by_cases he : e = 0
    · subst he
      by_cases hts : ts.length = 1
      · obtain ⟨t, rfl⟩ : ∃ t, ts = [t] := List.length_eq_one_iff.1 hts
        by_cases hk : (t.kind : Int) = 2
        · have hx : t.text ≠ l := by
            intro hx
            exact hone (oneOf_yes hO rfl rfl hk hx)
          obtain ⟨SX, hSX⟩ : ∃ Y : ByteArray, (⟨t.text.toArray⟩ : ByteArray) = Y := ⟨_, rfl⟩
          have hne : SX ≠ s := by
            intro e
            rw [← hSX] at e
            apply hx
            have := congrArg (fun z : ByteArray => z.data.toList) e
            simp only at this
            rw [hs'.out] at this
            exact this
          obtain ⟨e1, e2, e3, e4, e5⟩ := str_ne4' hne
          clear hone hone' hx hts hne hO eo hs hn hr hl
          go_enter Tryz.func22, Tryz.ntmps22
          go_wp2_with (go_at_call 28; refine qt.out.mono ?_; rintro x w1 ⟨v1, rfl, u1, b1⟩; have T1 := ownsRow.trow u1; obtain ⟨a1, cp1, rfl, n1, n1'⟩ := T1.shape; obtain ⟨g1, f1, rfl, x0, x1, x2, x3⟩ := T1.at_ (j := 0) (by simp); simp at x0 x1 x2 x3 n1; rw [hSX] at x3; have y0 := (b1.cell (p := ⟨w.heap.size, 0, none⟩) hz0).trans z0; have y3 := (b1.cell (p := ⟨w.heap.size, 3, none⟩) hz0).trans z3; replace b1 := hide b1; clear T1 u1)
          go_quiet (fail)
          go_wp2
          go_ret2
          exact ⟨ret_qv rfl rfl, B0.out.then_below (below_drewN b1.out _)⟩
        · have hk1 : ((t.kind : Int) == 2) = false := by simpa using hk
          clear hone hone' hk hts hO eo hs hn hr hl
          go_enter Tryz.func22, Tryz.ntmps22
          go_wp2_with (go_at_call 28; refine qt.out.mono ?_; rintro x w1 ⟨v1, rfl, u1, b1⟩; have T1 := ownsRow.trow u1; obtain ⟨a1, cp1, rfl, n1, n1'⟩ := T1.shape; obtain ⟨g1, f1, rfl, x0, x1, x2, x3⟩ := T1.at_ (j := 0) (by simp); simp at x0 x1 x2 x3 n1; have y0 := (b1.cell (p := ⟨w.heap.size, 0, none⟩) hz0).trans z0; have y3 := (b1.cell (p := ⟨w.heap.size, 3, none⟩) hz0).trans z3; replace b1 := hide b1; clear T1 u1)
          go_quiet (fail)
          go_wp2
          go_ret2
          exact ⟨ret_qv rfl rfl, B0.out.then_below (below_drewN b1.out _)⟩
      · have hts1 : ((ts.length : Int) == 1) = false := by simpa using (show ¬ (ts.length : Int) = 1 by omega)
        clear hone hone' hts hO eo hs hn hr hl
        go_enter Tryz.func22, Tryz.ntmps22
        go_wp2_with (go_at_call 28; refine qt.out.mono ?_; rintro x w1 ⟨v1, rfl, u1, b1⟩; have T1 := ownsRow.trow u1; obtain ⟨a1, cp1, rfl, n1, n1'⟩ := T1.shape; have y0 := (b1.cell (p := ⟨w.heap.size, 0, none⟩) hz0).trans z0; have y3 := (b1.cell (p := ⟨w.heap.size, 3, none⟩) hz0).trans z3; replace b1 := hide b1; clear T1 u1)
        go_quiet (fail)
        go_wp2
        go_ret2
        exact ⟨ret_qv rfl rfl, B0.out.then_below (below_drewN b1.out _)⟩
    · have he1 : ((e : Int) == 0) = false := by simpa using (show ¬ (e : Int) = 0 by omega)
      clear hone hone' he hO eo hs hn hr hl
      go_enter Tryz.func22, Tryz.ntmps22
      go_wp2_with (go_at_call 28; refine qt.out.mono ?_; rintro x w1 ⟨v1, rfl, u1, b1⟩; have T1 := ownsRow.trow u1; obtain ⟨a1, cp1, rfl, n1, n1'⟩ := T1.shape; have y0 := (b1.cell (p := ⟨w.heap.size, 0, none⟩) hz0).trans z0; have y3 := (b1.cell (p := ⟨w.heap.size, 3, none⟩) hz0).trans z3; replace b1 := hide b1; clear T1 u1)
      go_quiet (fail)
      go_wp2
      go_ret2
      exact ⟨ret_qv rfl rfl, B0.out.then_below (below_drewN b1.out _)⟩
set_option maxRecDepth 100000 in
set_option maxHeartbeats 4000000 in
theorem rspell_4 (w : World) (hr : Rsv w) (a b : Int) (s : ByteArray) (l : List UInt8) (hs : s.data.toList = l) (hl : l.length ≤ 1073741822) :
    Calls Tryz.prog 22 #[.agg #[.int .i64 4, .int .i64 a, .int .i64 b, .string s]] w fun e w' => e = .returned (.tuple #[qv (S.spl resv 4 l), .int .i64 (qe (S.spl resv 4 l))]) ∧ Below w.heap.size w w' := by
  have hn := size_of s l hs
  obtain ⟨W0, hW0⟩ : ∃ W, w.alloc (.cells #[.int .i64 4, .int .i64 a, .int .i64 b, .string s] 24) = W := ⟨_, rfl⟩
  obtain ⟨B0, z0, z3, hz0⟩ := SpW.all (w := w) hW0
  have qt := rtokens_calls W0 (hr.below B0) s l hs (by omega)
  replace B0 := hide B0
  have m1 : s.size ≤ 1073741824 := by omega
  have eo : S.spl resv 4 l = if S.oneOf resv 4 l then some l else none := rfl
  rw [eo]
  by_cases hone : S.oneOf resv 4 l = true
  · obtain ⟨t, e1, e2, e3, e4, e5⟩ := one_place (by decide) (by decide) (by decide) hone
    rw [hone]
    rw [e1] at qt
    simp only at qt
    replace qt := hide qt
    obtain ⟨tk, tb, tf, tx⟩ := t
    simp only at e2 e3 e4 e5
    have e2' : tk = 4 := by omega
    subst e2' e4
    have hsx : (⟨tx.toArray⟩ : ByteArray) = s := bytes_eq (by rw [hs]; exact e3)
    have e5' : (tf : Int) = s.size := by omega
    have hs' := hide hs
    clear e1 e2 e3 e5 eo hone hs hn hr hl
    go_enter Tryz.func22, Tryz.ntmps22
    go_wp2_with (go_at_call 28; refine qt.out.mono ?_; rintro x w1 ⟨v1, rfl, u1, b1⟩; have T1 := ownsRow.trow u1; obtain ⟨a1, cp1, rfl, n1, n1'⟩ := T1.shape; obtain ⟨g1, f1, rfl, x0, x1, x2, x3⟩ := T1.at_ (j := 0) (by simp); simp at x0 x1 x2 x3 n1; rw [hsx] at x3; have y0 := (b1.cell (p := ⟨w.heap.size, 0, none⟩) hz0).trans z0; have y3 := (b1.cell (p := ⟨w.heap.size, 3, none⟩) hz0).trans z3; replace b1 := hide b1; clear T1 u1)
    go_quiet (fail)
    go_wp2
    go_ret2
    exact ⟨ret_qv (by rw [hs'.out]; rfl) rfl, B0.out.then_below (below_drewN b1.out _)⟩
  · have hone' : S.oneOf resv 4 l = false := by simpa using hone
    rw [hone']
    obtain ⟨O, hO⟩ : ∃ O, S.run resv .idle l 0 = O := ⟨_, rfl⟩
    rw [hO] at qt
    obtain ⟨ts, e, p⟩ := O
    simp only at qt
    replace qt := hide qt
    have hs' := hide hs
    by_cases he : e = 0
    · subst he
      by_cases hts : ts.length = 1
      · obtain ⟨t, rfl⟩ : ∃ t, ts = [t] := List.length_eq_one_iff.1 hts
        by_cases hk : (t.kind : Int) = 4
        · have hx : t.text ≠ l := by
            intro hx
            exact hone (oneOf_yes hO rfl rfl hk hx)
          obtain ⟨SX, hSX⟩ : ∃ Y : ByteArray, (⟨t.text.toArray⟩ : ByteArray) = Y := ⟨_, rfl⟩
          have hne : SX ≠ s := by
            intro e
            rw [← hSX] at e
            apply hx
            have := congrArg (fun z : ByteArray => z.data.toList) e
            simp only at this
            rw [hs'.out] at this
            exact this
          obtain ⟨e1, e2, e3, e4, e5⟩ := str_ne4' hne
          clear hone hone' hx hts hne hO eo hs hn hr hl
          go_enter Tryz.func22, Tryz.ntmps22
          go_wp2_with (go_at_call 28; refine qt.out.mono ?_; rintro x w1 ⟨v1, rfl, u1, b1⟩; have T1 := ownsRow.trow u1; obtain ⟨a1, cp1, rfl, n1, n1'⟩ := T1.shape; obtain ⟨g1, f1, rfl, x0, x1, x2, x3⟩ := T1.at_ (j := 0) (by simp); simp at x0 x1 x2 x3 n1; rw [hSX] at x3; have y0 := (b1.cell (p := ⟨w.heap.size, 0, none⟩) hz0).trans z0; have y3 := (b1.cell (p := ⟨w.heap.size, 3, none⟩) hz0).trans z3; replace b1 := hide b1; clear T1 u1)
          go_quiet (fail)
          go_wp2
          go_ret2
          exact ⟨ret_qv rfl rfl, B0.out.then_below (below_drewN b1.out _)⟩
        · have hk1 : ((t.kind : Int) == 4) = false := by simpa using hk
          clear hone hone' hk hts hO eo hs hn hr hl
          go_enter Tryz.func22, Tryz.ntmps22
          go_wp2_with (go_at_call 28; refine qt.out.mono ?_; rintro x w1 ⟨v1, rfl, u1, b1⟩; have T1 := ownsRow.trow u1; obtain ⟨a1, cp1, rfl, n1, n1'⟩ := T1.shape; obtain ⟨g1, f1, rfl, x0, x1, x2, x3⟩ := T1.at_ (j := 0) (by simp); simp at x0 x1 x2 x3 n1; have y0 := (b1.cell (p := ⟨w.heap.size, 0, none⟩) hz0).trans z0; have y3 := (b1.cell (p := ⟨w.heap.size, 3, none⟩) hz0).trans z3; replace b1 := hide b1; clear T1 u1)
          go_quiet (fail)
          go_wp2
          go_ret2
          exact ⟨ret_qv rfl rfl, B0.out.then_below (below_drewN b1.out _)⟩
      · have hts1 : ((ts.length : Int) == 1) = false := by simpa using (show ¬ (ts.length : Int) = 1 by omega)
        clear hone hone' hts hO eo hs hn hr hl
        go_enter Tryz.func22, Tryz.ntmps22
        go_wp2_with (go_at_call 28; refine qt.out.mono ?_; rintro x w1 ⟨v1, rfl, u1, b1⟩; have T1 := ownsRow.trow u1; obtain ⟨a1, cp1, rfl, n1, n1'⟩ := T1.shape; have y0 := (b1.cell (p := ⟨w.heap.size, 0, none⟩) hz0).trans z0; have y3 := (b1.cell (p := ⟨w.heap.size, 3, none⟩) hz0).trans z3; replace b1 := hide b1; clear T1 u1)
        go_quiet (fail)
        go_wp2
        go_ret2
        exact ⟨ret_qv rfl rfl, B0.out.then_below (below_drewN b1.out _)⟩
    · have he1 : ((e : Int) == 0) = false := by simpa using (show ¬ (e : Int) = 0 by omega)
      clear hone hone' he hO eo hs hn hr hl
      go_enter Tryz.func22, Tryz.ntmps22
      go_wp2_with (go_at_call 28; refine qt.out.mono ?_; rintro x w1 ⟨v1, rfl, u1, b1⟩; have T1 := ownsRow.trow u1; obtain ⟨a1, cp1, rfl, n1, n1'⟩ := T1.shape; have y0 := (b1.cell (p := ⟨w.heap.size, 0, none⟩) hz0).trans z0; have y3 := (b1.cell (p := ⟨w.heap.size, 3, none⟩) hz0).trans z3; replace b1 := hide b1; clear T1 u1)
      go_quiet (fail)
      go_wp2
      go_ret2
      exact ⟨ret_qv rfl rfl, B0.out.then_below (below_drewN b1.out _)⟩
set_option maxRecDepth 100000 in
set_option maxHeartbeats 4000000 in
theorem rspell_5 (w : World) (hr : Rsv w) (a b : Int) (s : ByteArray) (l : List UInt8) (hs : s.data.toList = l) (hl : l.length ≤ 1073741822) :
    Calls Tryz.prog 22 #[.agg #[.int .i64 5, .int .i64 a, .int .i64 b, .string s]] w fun e w' => e = .returned (.tuple #[qv (S.spl resv 5 l), .int .i64 (qe (S.spl resv 5 l))]) ∧ Below w.heap.size w w' := by
  have hn := size_of s l hs
  obtain ⟨W0, hW0⟩ : ∃ W, w.alloc (.cells #[.int .i64 5, .int .i64 a, .int .i64 b, .string s] 24) = W := ⟨_, rfl⟩
  obtain ⟨B0, z0, z3, hz0⟩ := SpW.all (w := w) hW0
  have qt := rtokens_calls W0 (hr.below B0) s l hs (by omega)
  replace B0 := hide B0
  have m1 : s.size ≤ 1073741824 := by omega
  have eo : S.spl resv 5 l = if S.oneOf resv 5 l then some l else none := rfl
  rw [eo]
  by_cases hone : S.oneOf resv 5 l = true
  · obtain ⟨t, e1, e2, e3, e4, e5⟩ := one_place (by decide) (by decide) (by decide) hone
    rw [hone]
    rw [e1] at qt
    simp only at qt
    replace qt := hide qt
    obtain ⟨tk, tb, tf, tx⟩ := t
    simp only at e2 e3 e4 e5
    have e2' : tk = 5 := by omega
    subst e2' e4
    have hsx : (⟨tx.toArray⟩ : ByteArray) = s := bytes_eq (by rw [hs]; exact e3)
    have e5' : (tf : Int) = s.size := by omega
    have hs' := hide hs
    clear e1 e2 e3 e5 eo hone hs hn hr hl
    go_enter Tryz.func22, Tryz.ntmps22
    go_wp2_with (go_at_call 28; refine qt.out.mono ?_; rintro x w1 ⟨v1, rfl, u1, b1⟩; have T1 := ownsRow.trow u1; obtain ⟨a1, cp1, rfl, n1, n1'⟩ := T1.shape; obtain ⟨g1, f1, rfl, x0, x1, x2, x3⟩ := T1.at_ (j := 0) (by simp); simp at x0 x1 x2 x3 n1; rw [hsx] at x3; have y0 := (b1.cell (p := ⟨w.heap.size, 0, none⟩) hz0).trans z0; have y3 := (b1.cell (p := ⟨w.heap.size, 3, none⟩) hz0).trans z3; replace b1 := hide b1; clear T1 u1)
    go_quiet (fail)
    go_wp2
    go_ret2
    exact ⟨ret_qv (by rw [hs'.out]; rfl) rfl, B0.out.then_below (below_drewN b1.out _)⟩
  · have hone' : S.oneOf resv 5 l = false := by simpa using hone
    rw [hone']
    obtain ⟨O, hO⟩ : ∃ O, S.run resv .idle l 0 = O := ⟨_, rfl⟩
    rw [hO] at qt
    obtain ⟨ts, e, p⟩ := O
    simp only at qt
    replace qt := hide qt
    have hs' := hide hs
    by_cases he : e = 0
    · subst he
      by_cases hts : ts.length = 1
      · obtain ⟨t, rfl⟩ : ∃ t, ts = [t] := List.length_eq_one_iff.1 hts
        by_cases hk : (t.kind : Int) = 5
        · have hx : t.text ≠ l := by
            intro hx
            exact hone (oneOf_yes hO rfl rfl hk hx)
          obtain ⟨SX, hSX⟩ : ∃ Y : ByteArray, (⟨t.text.toArray⟩ : ByteArray) = Y := ⟨_, rfl⟩
          have hne : SX ≠ s := by
            intro e
            rw [← hSX] at e
            apply hx
            have := congrArg (fun z : ByteArray => z.data.toList) e
            simp only at this
            rw [hs'.out] at this
            exact this
          obtain ⟨e1, e2, e3, e4, e5⟩ := str_ne4' hne
          clear hone hone' hx hts hne hO eo hs hn hr hl
          go_enter Tryz.func22, Tryz.ntmps22
          go_wp2_with (go_at_call 28; refine qt.out.mono ?_; rintro x w1 ⟨v1, rfl, u1, b1⟩; have T1 := ownsRow.trow u1; obtain ⟨a1, cp1, rfl, n1, n1'⟩ := T1.shape; obtain ⟨g1, f1, rfl, x0, x1, x2, x3⟩ := T1.at_ (j := 0) (by simp); simp at x0 x1 x2 x3 n1; rw [hSX] at x3; have y0 := (b1.cell (p := ⟨w.heap.size, 0, none⟩) hz0).trans z0; have y3 := (b1.cell (p := ⟨w.heap.size, 3, none⟩) hz0).trans z3; replace b1 := hide b1; clear T1 u1)
          go_quiet (fail)
          go_wp2
          go_ret2
          exact ⟨ret_qv rfl rfl, B0.out.then_below (below_drewN b1.out _)⟩
        · have hk1 : ((t.kind : Int) == 5) = false := by simpa using hk
          clear hone hone' hk hts hO eo hs hn hr hl
          go_enter Tryz.func22, Tryz.ntmps22
          go_wp2_with (go_at_call 28; refine qt.out.mono ?_; rintro x w1 ⟨v1, rfl, u1, b1⟩; have T1 := ownsRow.trow u1; obtain ⟨a1, cp1, rfl, n1, n1'⟩ := T1.shape; obtain ⟨g1, f1, rfl, x0, x1, x2, x3⟩ := T1.at_ (j := 0) (by simp); simp at x0 x1 x2 x3 n1; have y0 := (b1.cell (p := ⟨w.heap.size, 0, none⟩) hz0).trans z0; have y3 := (b1.cell (p := ⟨w.heap.size, 3, none⟩) hz0).trans z3; replace b1 := hide b1; clear T1 u1)
          go_quiet (fail)
          go_wp2
          go_ret2
          exact ⟨ret_qv rfl rfl, B0.out.then_below (below_drewN b1.out _)⟩
      · have hts1 : ((ts.length : Int) == 1) = false := by simpa using (show ¬ (ts.length : Int) = 1 by omega)
        clear hone hone' hts hO eo hs hn hr hl
        go_enter Tryz.func22, Tryz.ntmps22
        go_wp2_with (go_at_call 28; refine qt.out.mono ?_; rintro x w1 ⟨v1, rfl, u1, b1⟩; have T1 := ownsRow.trow u1; obtain ⟨a1, cp1, rfl, n1, n1'⟩ := T1.shape; have y0 := (b1.cell (p := ⟨w.heap.size, 0, none⟩) hz0).trans z0; have y3 := (b1.cell (p := ⟨w.heap.size, 3, none⟩) hz0).trans z3; replace b1 := hide b1; clear T1 u1)
        go_quiet (fail)
        go_wp2
        go_ret2
        exact ⟨ret_qv rfl rfl, B0.out.then_below (below_drewN b1.out _)⟩
    · have he1 : ((e : Int) == 0) = false := by simpa using (show ¬ (e : Int) = 0 by omega)
      clear hone hone' he hO eo hs hn hr hl
      go_enter Tryz.func22, Tryz.ntmps22
      go_wp2_with (go_at_call 28; refine qt.out.mono ?_; rintro x w1 ⟨v1, rfl, u1, b1⟩; have T1 := ownsRow.trow u1; obtain ⟨a1, cp1, rfl, n1, n1'⟩ := T1.shape; have y0 := (b1.cell (p := ⟨w.heap.size, 0, none⟩) hz0).trans z0; have y3 := (b1.cell (p := ⟨w.heap.size, 3, none⟩) hz0).trans z3; replace b1 := hide b1; clear T1 u1)
      go_quiet (fail)
      go_wp2
      go_ret2
      exact ⟨ret_qv rfl rfl, B0.out.then_below (below_drewN b1.out _)⟩
end Go.Proofs.YtigcakppnbfpkaaGreatDoor
/- ==== RefSpell3 ==== -/
namespace Go.Proofs.YtigcakppnbfpkaaGreatDoor
open Go.RowKit
set_option linter.unusedVariables false
set_option maxRecDepth 100000 in
set_option maxHeartbeats 4000000 in
theorem rspell_6 (w : World) (hr : Rsv w) (a b : Int) (s : ByteArray) (l : List UInt8) (hs : s.data.toList = l) (hl : l.length ≤ 1073741822) :
    Calls Tryz.prog 22 #[.agg #[.int .i64 6, .int .i64 a, .int .i64 b, .string s]] w fun e w' => e = .returned (.tuple #[qv (S.spl resv 6 l), .int .i64 (qe (S.spl resv 6 l))]) ∧ Below w.heap.size w w' := by
  have hn := size_of s l hs
  obtain ⟨W0, hW0⟩ : ∃ W, w.alloc (.cells #[.int .i64 6, .int .i64 a, .int .i64 b, .string s] 24) = W := ⟨_, rfl⟩
  obtain ⟨B0, z0, z3, hz0⟩ := SpW.all (w := w) hW0
  have qt := rtokens_calls W0 (hr.below B0) s l hs (by omega)
  replace B0 := hide B0
  have m1 : s.size ≤ 1073741824 := by omega
  have eo : S.spl resv 6 l = if S.oneOf resv 6 l then some l else none := rfl
  rw [eo]
  by_cases hone : S.oneOf resv 6 l = true
  · obtain ⟨t, e1, e2, e3, e4, e5⟩ := one_place (by decide) (by decide) (by decide) hone
    rw [hone]
    rw [e1] at qt
    simp only at qt
    replace qt := hide qt
    obtain ⟨tk, tb, tf, tx⟩ := t
    simp only at e2 e3 e4 e5
    have e2' : tk = 6 := by omega
    subst e2' e4
    have hsx : (⟨tx.toArray⟩ : ByteArray) = s := bytes_eq (by rw [hs]; exact e3)
    have e5' : (tf : Int) = s.size := by omega
    have hs' := hide hs
    clear e1 e2 e3 e5 eo hone hs hn hr hl
    go_enter Tryz.func22, Tryz.ntmps22
    go_wp2_with (go_at_call 28; refine qt.out.mono ?_; rintro x w1 ⟨v1, rfl, u1, b1⟩; have T1 := ownsRow.trow u1; obtain ⟨a1, cp1, rfl, n1, n1'⟩ := T1.shape; obtain ⟨g1, f1, rfl, x0, x1, x2, x3⟩ := T1.at_ (j := 0) (by simp); simp at x0 x1 x2 x3 n1; rw [hsx] at x3; have y0 := (b1.cell (p := ⟨w.heap.size, 0, none⟩) hz0).trans z0; have y3 := (b1.cell (p := ⟨w.heap.size, 3, none⟩) hz0).trans z3; replace b1 := hide b1; clear T1 u1)
    go_quiet (fail)
    go_wp2
    go_ret2
    exact ⟨ret_qv (by rw [hs'.out]; rfl) rfl, B0.out.then_below (below_drewN b1.out _)⟩
  · have hone' : S.oneOf resv 6 l = false := by simpa using hone
    rw [hone']
    obtain ⟨O, hO⟩ : ∃ O, S.run resv .idle l 0 = O := ⟨_, rfl⟩
    rw [hO] at qt
    obtain ⟨ts, e, p⟩ := O
    simp only at qt
    replace qt := hide qt
    have hs' := hide hs
    by_cases he : e = 0
    · subst he
      by_cases hts : ts.length = 1
      · obtain ⟨t, rfl⟩ : ∃ t, ts = [t] := List.length_eq_one_iff.1 hts
        by_cases hk : (t.kind : Int) = 6
        · have hx : t.text ≠ l := by
            intro hx
            exact hone (oneOf_yes hO rfl rfl hk hx)
          obtain ⟨SX, hSX⟩ : ∃ Y : ByteArray, (⟨t.text.toArray⟩ : ByteArray) = Y := ⟨_, rfl⟩
          have hne : SX ≠ s := by
            intro e
            rw [← hSX] at e
            apply hx
            have := congrArg (fun z : ByteArray => z.data.toList) e
            simp only at this
            rw [hs'.out] at this
            exact this
          obtain ⟨e1, e2, e3, e4, e5⟩ := str_ne4' hne
          clear hone hone' hx hts hne hO eo hs hn hr hl
          go_enter Tryz.func22, Tryz.ntmps22
          go_wp2_with (go_at_call 28; refine qt.out.mono ?_; rintro x w1 ⟨v1, rfl, u1, b1⟩; have T1 := ownsRow.trow u1; obtain ⟨a1, cp1, rfl, n1, n1'⟩ := T1.shape; obtain ⟨g1, f1, rfl, x0, x1, x2, x3⟩ := T1.at_ (j := 0) (by simp); simp at x0 x1 x2 x3 n1; rw [hSX] at x3; have y0 := (b1.cell (p := ⟨w.heap.size, 0, none⟩) hz0).trans z0; have y3 := (b1.cell (p := ⟨w.heap.size, 3, none⟩) hz0).trans z3; replace b1 := hide b1; clear T1 u1)
          go_quiet (fail)
          go_wp2
          go_ret2
          exact ⟨ret_qv rfl rfl, B0.out.then_below (below_drewN b1.out _)⟩
        · have hk1 : ((t.kind : Int) == 6) = false := by simpa using hk
          clear hone hone' hk hts hO eo hs hn hr hl
          go_enter Tryz.func22, Tryz.ntmps22
          go_wp2_with (go_at_call 28; refine qt.out.mono ?_; rintro x w1 ⟨v1, rfl, u1, b1⟩; have T1 := ownsRow.trow u1; obtain ⟨a1, cp1, rfl, n1, n1'⟩ := T1.shape; obtain ⟨g1, f1, rfl, x0, x1, x2, x3⟩ := T1.at_ (j := 0) (by simp); simp at x0 x1 x2 x3 n1; have y0 := (b1.cell (p := ⟨w.heap.size, 0, none⟩) hz0).trans z0; have y3 := (b1.cell (p := ⟨w.heap.size, 3, none⟩) hz0).trans z3; replace b1 := hide b1; clear T1 u1)
          go_quiet (fail)
          go_wp2
          go_ret2
          exact ⟨ret_qv rfl rfl, B0.out.then_below (below_drewN b1.out _)⟩
      · have hts1 : ((ts.length : Int) == 1) = false := by simpa using (show ¬ (ts.length : Int) = 1 by omega)
        clear hone hone' hts hO eo hs hn hr hl
        go_enter Tryz.func22, Tryz.ntmps22
        go_wp2_with (go_at_call 28; refine qt.out.mono ?_; rintro x w1 ⟨v1, rfl, u1, b1⟩; have T1 := ownsRow.trow u1; obtain ⟨a1, cp1, rfl, n1, n1'⟩ := T1.shape; have y0 := (b1.cell (p := ⟨w.heap.size, 0, none⟩) hz0).trans z0; have y3 := (b1.cell (p := ⟨w.heap.size, 3, none⟩) hz0).trans z3; replace b1 := hide b1; clear T1 u1)
        go_quiet (fail)
        go_wp2
        go_ret2
        exact ⟨ret_qv rfl rfl, B0.out.then_below (below_drewN b1.out _)⟩
    · have he1 : ((e : Int) == 0) = false := by simpa using (show ¬ (e : Int) = 0 by omega)
      clear hone hone' he hO eo hs hn hr hl
      go_enter Tryz.func22, Tryz.ntmps22
      go_wp2_with (go_at_call 28; refine qt.out.mono ?_; rintro x w1 ⟨v1, rfl, u1, b1⟩; have T1 := ownsRow.trow u1; obtain ⟨a1, cp1, rfl, n1, n1'⟩ := T1.shape; have y0 := (b1.cell (p := ⟨w.heap.size, 0, none⟩) hz0).trans z0; have y3 := (b1.cell (p := ⟨w.heap.size, 3, none⟩) hz0).trans z3; replace b1 := hide b1; clear T1 u1)
      go_quiet (fail)
      go_wp2
      go_ret2
      exact ⟨ret_qv rfl rfl, B0.out.then_below (below_drewN b1.out _)⟩
set_option maxRecDepth 100000 in
set_option maxHeartbeats 4000000 in
theorem rspell_7 (w : World) (hr : Rsv w) (a b : Int) (s : ByteArray) (l : List UInt8) (hs : s.data.toList = l) (hl : l.length ≤ 1073741822) :
    Calls Tryz.prog 22 #[.agg #[.int .i64 7, .int .i64 a, .int .i64 b, .string s]] w fun e w' => e = .returned (.tuple #[qv (S.spl resv 7 l), .int .i64 (qe (S.spl resv 7 l))]) ∧ Below w.heap.size w w' := by
  have hn := size_of s l hs
  obtain ⟨W0, hW0⟩ : ∃ W, w.alloc (.cells #[.int .i64 7, .int .i64 a, .int .i64 b, .string s] 24) = W := ⟨_, rfl⟩
  obtain ⟨B0, z0, z3, hz0⟩ := SpW.all (w := w) hW0
  have qt := rtokens_calls W0 (hr.below B0) s l hs (by omega)
  replace B0 := hide B0
  have m1 : s.size ≤ 1073741824 := by omega
  have eo : S.spl resv 7 l = if S.oneOf resv 7 l then some l else none := rfl
  rw [eo]
  by_cases hone : S.oneOf resv 7 l = true
  · obtain ⟨t, e1, e2, e3, e4, e5⟩ := one_place (by decide) (by decide) (by decide) hone
    rw [hone]
    rw [e1] at qt
    simp only at qt
    replace qt := hide qt
    obtain ⟨tk, tb, tf, tx⟩ := t
    simp only at e2 e3 e4 e5
    have e2' : tk = 7 := by omega
    subst e2' e4
    have hsx : (⟨tx.toArray⟩ : ByteArray) = s := bytes_eq (by rw [hs]; exact e3)
    have e5' : (tf : Int) = s.size := by omega
    have hs' := hide hs
    clear e1 e2 e3 e5 eo hone hs hn hr hl
    go_enter Tryz.func22, Tryz.ntmps22
    go_wp2_with (go_at_call 28; refine qt.out.mono ?_; rintro x w1 ⟨v1, rfl, u1, b1⟩; have T1 := ownsRow.trow u1; obtain ⟨a1, cp1, rfl, n1, n1'⟩ := T1.shape; obtain ⟨g1, f1, rfl, x0, x1, x2, x3⟩ := T1.at_ (j := 0) (by simp); simp at x0 x1 x2 x3 n1; rw [hsx] at x3; have y0 := (b1.cell (p := ⟨w.heap.size, 0, none⟩) hz0).trans z0; have y3 := (b1.cell (p := ⟨w.heap.size, 3, none⟩) hz0).trans z3; replace b1 := hide b1; clear T1 u1)
    go_quiet (fail)
    go_wp2
    go_ret2
    exact ⟨ret_qv (by rw [hs'.out]; rfl) rfl, B0.out.then_below (below_drewN b1.out _)⟩
  · have hone' : S.oneOf resv 7 l = false := by simpa using hone
    rw [hone']
    obtain ⟨O, hO⟩ : ∃ O, S.run resv .idle l 0 = O := ⟨_, rfl⟩
    rw [hO] at qt
    obtain ⟨ts, e, p⟩ := O
    simp only at qt
    replace qt := hide qt
    have hs' := hide hs
    by_cases he : e = 0
    · subst he
      by_cases hts : ts.length = 1
      · obtain ⟨t, rfl⟩ : ∃ t, ts = [t] := List.length_eq_one_iff.1 hts
        by_cases hk : (t.kind : Int) = 7
        · have hx : t.text ≠ l := by
            intro hx
            exact hone (oneOf_yes hO rfl rfl hk hx)
          obtain ⟨SX, hSX⟩ : ∃ Y : ByteArray, (⟨t.text.toArray⟩ : ByteArray) = Y := ⟨_, rfl⟩
          have hne : SX ≠ s := by
            intro e
            rw [← hSX] at e
            apply hx
            have := congrArg (fun z : ByteArray => z.data.toList) e
            simp only at this
            rw [hs'.out] at this
            exact this
          obtain ⟨e1, e2, e3, e4, e5⟩ := str_ne4' hne
          clear hone hone' hx hts hne hO eo hs hn hr hl
          go_enter Tryz.func22, Tryz.ntmps22
          go_wp2_with (go_at_call 28; refine qt.out.mono ?_; rintro x w1 ⟨v1, rfl, u1, b1⟩; have T1 := ownsRow.trow u1; obtain ⟨a1, cp1, rfl, n1, n1'⟩ := T1.shape; obtain ⟨g1, f1, rfl, x0, x1, x2, x3⟩ := T1.at_ (j := 0) (by simp); simp at x0 x1 x2 x3 n1; rw [hSX] at x3; have y0 := (b1.cell (p := ⟨w.heap.size, 0, none⟩) hz0).trans z0; have y3 := (b1.cell (p := ⟨w.heap.size, 3, none⟩) hz0).trans z3; replace b1 := hide b1; clear T1 u1)
          go_quiet (fail)
          go_wp2
          go_ret2
          exact ⟨ret_qv rfl rfl, B0.out.then_below (below_drewN b1.out _)⟩
        · have hk1 : ((t.kind : Int) == 7) = false := by simpa using hk
          clear hone hone' hk hts hO eo hs hn hr hl
          go_enter Tryz.func22, Tryz.ntmps22
          go_wp2_with (go_at_call 28; refine qt.out.mono ?_; rintro x w1 ⟨v1, rfl, u1, b1⟩; have T1 := ownsRow.trow u1; obtain ⟨a1, cp1, rfl, n1, n1'⟩ := T1.shape; obtain ⟨g1, f1, rfl, x0, x1, x2, x3⟩ := T1.at_ (j := 0) (by simp); simp at x0 x1 x2 x3 n1; have y0 := (b1.cell (p := ⟨w.heap.size, 0, none⟩) hz0).trans z0; have y3 := (b1.cell (p := ⟨w.heap.size, 3, none⟩) hz0).trans z3; replace b1 := hide b1; clear T1 u1)
          go_quiet (fail)
          go_wp2
          go_ret2
          exact ⟨ret_qv rfl rfl, B0.out.then_below (below_drewN b1.out _)⟩
      · have hts1 : ((ts.length : Int) == 1) = false := by simpa using (show ¬ (ts.length : Int) = 1 by omega)
        clear hone hone' hts hO eo hs hn hr hl
        go_enter Tryz.func22, Tryz.ntmps22
        go_wp2_with (go_at_call 28; refine qt.out.mono ?_; rintro x w1 ⟨v1, rfl, u1, b1⟩; have T1 := ownsRow.trow u1; obtain ⟨a1, cp1, rfl, n1, n1'⟩ := T1.shape; have y0 := (b1.cell (p := ⟨w.heap.size, 0, none⟩) hz0).trans z0; have y3 := (b1.cell (p := ⟨w.heap.size, 3, none⟩) hz0).trans z3; replace b1 := hide b1; clear T1 u1)
        go_quiet (fail)
        go_wp2
        go_ret2
        exact ⟨ret_qv rfl rfl, B0.out.then_below (below_drewN b1.out _)⟩
    · have he1 : ((e : Int) == 0) = false := by simpa using (show ¬ (e : Int) = 0 by omega)
      clear hone hone' he hO eo hs hn hr hl
      go_enter Tryz.func22, Tryz.ntmps22
      go_wp2_with (go_at_call 28; refine qt.out.mono ?_; rintro x w1 ⟨v1, rfl, u1, b1⟩; have T1 := ownsRow.trow u1; obtain ⟨a1, cp1, rfl, n1, n1'⟩ := T1.shape; have y0 := (b1.cell (p := ⟨w.heap.size, 0, none⟩) hz0).trans z0; have y3 := (b1.cell (p := ⟨w.heap.size, 3, none⟩) hz0).trans z3; replace b1 := hide b1; clear T1 u1)
      go_quiet (fail)
      go_wp2
      go_ret2
      exact ⟨ret_qv rfl rfl, B0.out.then_below (below_drewN b1.out _)⟩
set_option maxRecDepth 100000 in
set_option maxHeartbeats 4000000 in
theorem rspell_8 (w : World) (hr : Rsv w) (a b : Int) (s : ByteArray) (l : List UInt8) (hs : s.data.toList = l) (hl : l.length ≤ 1073741822) :
    Calls Tryz.prog 22 #[.agg #[.int .i64 8, .int .i64 a, .int .i64 b, .string s]] w fun e w' => e = .returned (.tuple #[qv (S.spl resv 8 l), .int .i64 (qe (S.spl resv 8 l))]) ∧ Below w.heap.size w w' := by
  have hn := size_of s l hs
  obtain ⟨W0, hW0⟩ : ∃ W, w.alloc (.cells #[.int .i64 8, .int .i64 a, .int .i64 b, .string s] 24) = W := ⟨_, rfl⟩
  obtain ⟨B0, z0, z3, hz0⟩ := SpW.all (w := w) hW0
  have qt := rtokens_calls W0 (hr.below B0) s l hs (by omega)
  replace B0 := hide B0
  have m1 : s.size ≤ 1073741824 := by omega
  have eo : S.spl resv 8 l = if S.oneOf resv 8 l then some l else none := rfl
  rw [eo]
  by_cases hone : S.oneOf resv 8 l = true
  · obtain ⟨t, e1, e2, e3, e4, e5⟩ := one_place (by decide) (by decide) (by decide) hone
    rw [hone]
    rw [e1] at qt
    simp only at qt
    replace qt := hide qt
    obtain ⟨tk, tb, tf, tx⟩ := t
    simp only at e2 e3 e4 e5
    have e2' : tk = 8 := by omega
    subst e2' e4
    have hsx : (⟨tx.toArray⟩ : ByteArray) = s := bytes_eq (by rw [hs]; exact e3)
    have e5' : (tf : Int) = s.size := by omega
    have hs' := hide hs
    clear e1 e2 e3 e5 eo hone hs hn hr hl
    go_enter Tryz.func22, Tryz.ntmps22
    go_wp2_with (go_at_call 28; refine qt.out.mono ?_; rintro x w1 ⟨v1, rfl, u1, b1⟩; have T1 := ownsRow.trow u1; obtain ⟨a1, cp1, rfl, n1, n1'⟩ := T1.shape; obtain ⟨g1, f1, rfl, x0, x1, x2, x3⟩ := T1.at_ (j := 0) (by simp); simp at x0 x1 x2 x3 n1; rw [hsx] at x3; have y0 := (b1.cell (p := ⟨w.heap.size, 0, none⟩) hz0).trans z0; have y3 := (b1.cell (p := ⟨w.heap.size, 3, none⟩) hz0).trans z3; replace b1 := hide b1; clear T1 u1)
    go_quiet (fail)
    go_wp2
    go_ret2
    exact ⟨ret_qv (by rw [hs'.out]; rfl) rfl, B0.out.then_below (below_drewN b1.out _)⟩
  · have hone' : S.oneOf resv 8 l = false := by simpa using hone
    rw [hone']
    obtain ⟨O, hO⟩ : ∃ O, S.run resv .idle l 0 = O := ⟨_, rfl⟩
    rw [hO] at qt
    obtain ⟨ts, e, p⟩ := O
    simp only at qt
    replace qt := hide qt
    have hs' := hide hs
    by_cases he : e = 0
    · subst he
      by_cases hts : ts.length = 1
      · obtain ⟨t, rfl⟩ : ∃ t, ts = [t] := List.length_eq_one_iff.1 hts
        by_cases hk : (t.kind : Int) = 8
        · have hx : t.text ≠ l := by
            intro hx
            exact hone (oneOf_yes hO rfl rfl hk hx)
          obtain ⟨SX, hSX⟩ : ∃ Y : ByteArray, (⟨t.text.toArray⟩ : ByteArray) = Y := ⟨_, rfl⟩
          have hne : SX ≠ s := by
            intro e
            rw [← hSX] at e
            apply hx
            have := congrArg (fun z : ByteArray => z.data.toList) e
            simp only at this
            rw [hs'.out] at this
            exact this
          obtain ⟨e1, e2, e3, e4, e5⟩ := str_ne4' hne
          clear hone hone' hx hts hne hO eo hs hn hr hl
          go_enter Tryz.func22, Tryz.ntmps22
          go_wp2_with (go_at_call 28; refine qt.out.mono ?_; rintro x w1 ⟨v1, rfl, u1, b1⟩; have T1 := ownsRow.trow u1; obtain ⟨a1, cp1, rfl, n1, n1'⟩ := T1.shape; obtain ⟨g1, f1, rfl, x0, x1, x2, x3⟩ := T1.at_ (j := 0) (by simp); simp at x0 x1 x2 x3 n1; rw [hSX] at x3; have y0 := (b1.cell (p := ⟨w.heap.size, 0, none⟩) hz0).trans z0; have y3 := (b1.cell (p := ⟨w.heap.size, 3, none⟩) hz0).trans z3; replace b1 := hide b1; clear T1 u1)
          go_quiet (fail)
          go_wp2
          go_ret2
          exact ⟨ret_qv rfl rfl, B0.out.then_below (below_drewN b1.out _)⟩
        · have hk1 : ((t.kind : Int) == 8) = false := by simpa using hk
          clear hone hone' hk hts hO eo hs hn hr hl
          go_enter Tryz.func22, Tryz.ntmps22
          go_wp2_with (go_at_call 28; refine qt.out.mono ?_; rintro x w1 ⟨v1, rfl, u1, b1⟩; have T1 := ownsRow.trow u1; obtain ⟨a1, cp1, rfl, n1, n1'⟩ := T1.shape; obtain ⟨g1, f1, rfl, x0, x1, x2, x3⟩ := T1.at_ (j := 0) (by simp); simp at x0 x1 x2 x3 n1; have y0 := (b1.cell (p := ⟨w.heap.size, 0, none⟩) hz0).trans z0; have y3 := (b1.cell (p := ⟨w.heap.size, 3, none⟩) hz0).trans z3; replace b1 := hide b1; clear T1 u1)
          go_quiet (fail)
          go_wp2
          go_ret2
          exact ⟨ret_qv rfl rfl, B0.out.then_below (below_drewN b1.out _)⟩
      · have hts1 : ((ts.length : Int) == 1) = false := by simpa using (show ¬ (ts.length : Int) = 1 by omega)
        clear hone hone' hts hO eo hs hn hr hl
        go_enter Tryz.func22, Tryz.ntmps22
        go_wp2_with (go_at_call 28; refine qt.out.mono ?_; rintro x w1 ⟨v1, rfl, u1, b1⟩; have T1 := ownsRow.trow u1; obtain ⟨a1, cp1, rfl, n1, n1'⟩ := T1.shape; have y0 := (b1.cell (p := ⟨w.heap.size, 0, none⟩) hz0).trans z0; have y3 := (b1.cell (p := ⟨w.heap.size, 3, none⟩) hz0).trans z3; replace b1 := hide b1; clear T1 u1)
        go_quiet (fail)
        go_wp2
        go_ret2
        exact ⟨ret_qv rfl rfl, B0.out.then_below (below_drewN b1.out _)⟩
    · have he1 : ((e : Int) == 0) = false := by simpa using (show ¬ (e : Int) = 0 by omega)
      clear hone hone' he hO eo hs hn hr hl
      go_enter Tryz.func22, Tryz.ntmps22
      go_wp2_with (go_at_call 28; refine qt.out.mono ?_; rintro x w1 ⟨v1, rfl, u1, b1⟩; have T1 := ownsRow.trow u1; obtain ⟨a1, cp1, rfl, n1, n1'⟩ := T1.shape; have y0 := (b1.cell (p := ⟨w.heap.size, 0, none⟩) hz0).trans z0; have y3 := (b1.cell (p := ⟨w.heap.size, 3, none⟩) hz0).trans z3; replace b1 := hide b1; clear T1 u1)
      go_quiet (fail)
      go_wp2
      go_ret2
      exact ⟨ret_qv rfl rfl, B0.out.then_below (below_drewN b1.out _)⟩
end Go.Proofs.YtigcakppnbfpkaaGreatDoor
/- ==== RefSpell4 ==== -/
namespace Go.Proofs.YtigcakppnbfpkaaGreatDoor
open Go.RowKit
set_option linter.unusedVariables false
set_option maxRecDepth 100000 in
set_option maxHeartbeats 4000000 in
theorem rspell_calls (w : World) (hr : Rsv w) (k a b : Int) (s : ByteArray) (l : List UInt8) (hs : s.data.toList = l) (hl : l.length ≤ 1073741822) :
    Calls Tryz.prog 22 #[.agg #[.int .i64 k, .int .i64 a, .int .i64 b, .string s]] w fun e w' => e = .returned (.tuple #[qv (S.spl resv k l), .int .i64 (qe (S.spl resv k l))]) ∧ Below w.heap.size w w' := by
  by_cases k1 : k = 1
  · subst k1
    exact rspell_1 w hr a b s l hs hl
  by_cases k2 : k = 2
  · subst k2
    exact rspell_2 w hr a b s l hs hl
  by_cases k4 : k = 4
  · subst k4
    exact rspell_4 w hr a b s l hs hl
  by_cases k5 : k = 5
  · subst k5
    exact rspell_5 w hr a b s l hs hl
  by_cases k6 : k = 6
  · subst k6
    exact rspell_6 w hr a b s l hs hl
  by_cases k7 : k = 7
  · subst k7
    exact rspell_7 w hr a b s l hs hl
  by_cases k8 : k = 8
  · subst k8
    exact rspell_8 w hr a b s l hs hl
  have hn := size_of s l hs
  obtain ⟨W0, hW0⟩ : ∃ W, w.alloc (.cells #[.int .i64 k, .int .i64 a, .int .i64 b, .string s] 24) = W := ⟨_, rfl⟩
  obtain ⟨B0, z0, z3, hz0⟩ := SpW.all (w := w) hW0
  have q3 := hide (rquote_calls W0 (hr.below B0) s l hs hl)
  have q9 := hide (rliteral_calls W0 s l hs (by omega))
  have q10 := hide (rsimple_calls W0 s l hs (by omega))
  replace B0 := hide B0
  have m1 : s.size ≤ 1073741824 := by omega
  by_cases h3 : k = 3
  · subst h3
    rw [show S.spl resv 3 l = S.quo resv l from rfl]
    generalize S.quo resv l = o at q3
    unfold qv at q3
    go_enter Tryz.func22, Tryz.ntmps22
    go_wp2_with (go_at_call 38; refine q3.out.mono ?_; rintro e w1 ⟨rfl, b1⟩; replace b1 := hide b1)
    go_ret2
    exact ⟨rfl, B0.out.then_below b1.out⟩
  · by_cases h9 : k = 9
    · subst h9
      rw [show S.spl resv 9 l = S.lit l from rfl]
      generalize S.lit l = o at q9
      unfold qv at q9
      go_enter Tryz.func22, Tryz.ntmps22
      go_wp2_with (go_at_call 39; refine q9.out.mono ?_; rintro e w1 ⟨rfl, b1⟩; replace b1 := hide b1)
      go_ret2
      exact ⟨rfl, B0.out.then_below b1.out⟩
    · by_cases h10 : k = 10
      · subst h10
        have e10 : S.spl resv 10 l = if S.smp l then some (58 :: l) else none := rfl
        rw [e10]
        have hs' := hide hs
        cases hsm : S.smp l with
        | true =>
          rw [hsm] at q10
          clear e10 hsm hs hn
          go_enter Tryz.func22, Tryz.ntmps22
          go_wp2_with (go_at_call 40; refine q10.out.mono ?_; rintro e w1 ⟨rfl, rfl⟩)
          go_ret2
          exact ⟨ret_qv (by simp [hs'.out]) rfl, B0.out⟩
        | false =>
          rw [hsm] at q10
          clear e10 hsm hs hn
          go_enter Tryz.func22, Tryz.ntmps22
          go_wp2_with (go_at_call 40; refine q10.out.mono ?_; rintro e w1 ⟨rfl, rfl⟩)
          go_ret2
          exact ⟨ret_qv rfl rfl, B0.out⟩
      · have eo : S.spl resv k l = none := by
          unfold S.spl
          rw [if_neg h3, if_neg h9, if_neg h10, if_neg]
          intro h
          have := oneOf_kinds h
          omega
        rw [eo]
        clear eo hs hn hr hl q3 q9 q10
        go_enter Tryz.func22, Tryz.ntmps22
        go_wp2
        go_ret2
        exact ⟨ret_qv rfl rfl, B0.out⟩
end Go.Proofs.YtigcakppnbfpkaaGreatDoor
/- ==== RefJoin ==== -/
namespace Go.Proofs.YtigcakppnbfpkaaGreatDoor
open Go.RowKit
set_option linter.unusedVariables false
theorem own_kept {B : Nat} {w w' : World} {v : Value} {acc : List UInt8} (h : OwnV B w v acc) (q : Below w.heap.size w w') : OwnV B w' v acc := by
  refine ⟨h.1, ?_⟩
  rcases h.2 with h2 | ⟨b, cap, cur, h1, h2, h3, h4⟩
  · exact .inl h2
  · exact .inr ⟨b, cap, cur, h1, h2, (q.block b (Array.getElem?_eq_some_iff.1 h3).1).trans h3, h4⟩
theorem take_one (s : List UInt8) (j : Nat) (h : j < s.length) : s.take (j + 1) = s.take j ++ [s.getD j 0] := by
  rw [List.take_succ_eq_append_getElem h, List.getD_eq_getElem?_getD, List.getElem?_eq_getElem h]
  rfl
set_option maxRecDepth 100000 in
set_option maxHeartbeats 8000000 in
theorem rjoin_calls (w : World) (hr : Rsv w) (v : Value) (ts : List J) (hv : JRow w v ts) (hl : jtot ts ≤ 268435456) :
    Calls Tryz.prog 7 #[v] w fun e w' => e = .returned (.tuple #[qv (S.jn resv none (jk ts)), .int .i64 (qe (S.jn resv none (jk ts)))]) ∧ Below w.heap.size w w' := by
  obtain ⟨iB, hi1, hz0, hz1, hz2⟩ := info_parts infoByte
  obtain ⟨R, hR⟩ : ∃ R, S.jn resv none (jk ts) = R := ⟨_, rfl⟩
  rw [hR]
  obtain ⟨LL, hLL⟩ : ∃ n, ts.length = n := ⟨_, rfl⟩
  obtain ⟨a1, cp1, rfl, n1, n1'⟩ := hv.shape
  have t1 := hide hv
  rw [hLL] at n1 t1 ⊢
  have hLh := hide hLL
  have hrH := hide hr
  have J0 : JN ts 0 [] R := by
    rw [← hR]
    show (S.jn resv none (jk ts)).map ([] ++ ·) = _
    cases S.jn resv none (jk ts) <;> rfl
  replace J0 := hide J0
  clear hv hLL hR hr
  go_enter Tryz.func7, Tryz.ntmps7
  go_wp2
  go_loopw [4, 5] (fun bv j wr => ∃ (k : Nat) (acc : List UInt8), k ≤ LL ∧ j = .int .i64 k ∧ Hid (OwnV w.heap.size wr bv acc) ∧ Hid (Below w.heap.size w wr) ∧ Hid (acc.length ≤ jtot (ts.take k)) ∧ Hid (JN ts k acc R)) (fun _ j _ => LL - (intOf j).toNat)
  case atStart => exact ⟨0, [], Nat.zero_le _, rfl, World.ownsRow_nil _ _ _ _, Below.refl _ _, Nat.zero_le _, J0⟩
  case round =>
    clear J0
    obtain ⟨k, acc, hk, rfl, hO, hB, hal, hJ⟩ := hrel
    have hwz : w.heap.size ≤ wr.heap.size := hB.out.size
    have htl := jtot_le (ts := ts) k
    have hal' := hal.out
    obtain ⟨va, vc, hv⟩ := own_shape (ownsRow_zero hO.out)
    subst hv
    have cv := hO.out.conv
    obtain ⟨L, hL⟩ : ∃ L, acc.length = L := ⟨_, rfl⟩
    rw [hL] at hal' cv hO ⊢
    have hLh2 := hide hL
    clear hL
    by_cases hlt : k < LL
    · have hkl : k < ts.length := by rw [hLh.out]; exact hlt
      have T1 := t1.out.below hB.out
      obtain ⟨g1, f1, rfl, x0, x1, x2, x3⟩ := T1.at_ (j := k) hkl
      have htt := jtot_take hkl
      have htl2 := jtot_le (ts := ts) (k + 1)
      have Jn := hide (fun h => hJ.out.none hkl h)
      have Js := hide (fun s h => hJ.out.some (s := s) hkl h)
      have hxl : (ts.getD k j0).text.length ≤ 536870912 := by omega
      have hsp := spl_len (ts.getD k j0).kind (ts.getD k j0).text
      have qs := rspell_calls wr (hrH.out.below hB.out) (ts.getD k j0).kind (ts.getD k j0).beg (ts.getD k j0).fin ⟨(ts.getD k j0).text.toArray⟩ (ts.getD k j0).text rfl (by omega)
      have hprev : k = 0 ∨ ∃ pk : Int, (k ≠ 0 ∧ prevK ts k = Option.some pk) ∧ wr.cell? ⟨g1, f1 + (k - 1) * 4, none⟩ = Option.some (.int .i64 pk) := by
        by_cases h0 : k = 0
        · exact .inl h0
        · obtain ⟨g2, f2, e, y0, -⟩ := T1.at_ (j := k - 1) (by omega)
          cases e
          refine .inr ⟨_, ⟨h0, ?_⟩, y0⟩
          unfold prevK
          rw [if_neg h0]
      have hg1 : g1 < wr.heap.size := World.block_lt_of_cell? wr _ x0
      generalize hpK : prevK ts k = pK at Js hprev
      generalize ts.getD k j0 = t at x0 x1 x2 x3 Jn Js hxl hsp qs htt
      obtain ⟨kd, ta, tb, tx⟩ := t
      simp only at x0 x1 x2 x3 Jn Js hxl hsp qs htt
      obtain ⟨S1, hS1⟩ : ∃ s : ByteArray, (⟨tx.toArray⟩ : ByteArray) = s := ⟨_, rfl⟩
      rw [hS1] at x3 qs
      obtain ⟨o, ho⟩ : ∃ o, S.spl resv kd tx = o := ⟨_, rfl⟩
      rw [ho] at qs hsp
      have Jn' : o = Option.none → R = Option.none := fun h => Jn.out (ho.trans h)
      have Js' : ∀ s, o = Option.some s → JN ts (k + 1) (acc ++ S.sep pK kd ++ s) R := fun s h => Js.out s (ho.trans h)
      replace Jn' := hide Jn'
      replace Js' := hide Js'
      replace qs := hide qs
      replace hpK := hide hpK
      have i1 : (k : Int) < LL := by omega
      clear T1 hS1 Jn Js ho
      cases o with
      | none =>
        have hRn := hide (Jn'.out rfl)
        have q2 : Hid (Calls Tryz.prog 22 #[.agg #[.int .i64 kd, .int .i64 ta, .int .i64 tb, .string S1]] wr fun e w' => e = .returned (.tuple #[.string ⟨#[]⟩, .int .i64 17]) ∧ Below wr.heap.size wr w') := qs
        clear qs cv hprev
        go_wp2_with (go_at_call 22; refine q2.out.mono ?_; rintro e w2 ⟨rfl, b2⟩; replace b2 := hide b2)
        go_ret2
        exact ⟨by rw [hRn.out]; rfl, hB.out.then_below b2.out⟩
      | some s =>
        obtain ⟨S2, hS2⟩ : ∃ s' : ByteArray, (⟨s.toArray⟩ : ByteArray) = s' := ⟨_, rfl⟩
        have q2 : Calls Tryz.prog 22 #[.agg #[.int .i64 kd, .int .i64 ta, .int .i64 tb, .string S1]] wr fun e w' => e = .returned (.tuple #[.string ⟨s.toArray⟩, .int .i64 0]) ∧ Below wr.heap.size wr w' := qs.out
        rw [hS2] at q2
        replace q2 := hide q2
        have J3 := hide (Js'.out s rfl)
        have hS2l : S2.data.toList = s := by rw [← hS2]
        have s2l : S2.size = s.length := size_of S2 s hS2l
        have hat := hide (fun (j : Nat) (h : j < S2.size) => byteAt S2 s hS2l j h)
        have hsl : s.length ≤ 2 * tx.length + 2 := hsp
        have hO2 := hide (fun w' (q : Below wr.heap.size wr w') => own_kept hO.out q)
        clear qs hS2 hsp Jn' Js' cv hS2l
        rcases hprev with h0 | ⟨pk, hpk, y0⟩
        · have hpk : pK = Option.none := by
            rw [← hpK.out]
            unfold prevK
            exact if_pos h0
          subst hpk
          have i0 : ¬ (0 : Int) < k := by omega
          clear h0
          have hsep : S.sep Option.none kd = [] := rfl
          rw [hsep, List.append_nil] at J3
          clear hsep
          go_wp2_with (go_at_call 22; refine q2.out.mono ?_; rintro e w2 ⟨rfl, b2⟩; have d1 := (b2.cell (p := ⟨g1, f1 + k * 4, none⟩) hg1).trans x0; have O2 := hide (hO2.out w2 b2); have B2 := hide (hB.out.then_below b2); clear b2)
          go_loopw [4, 8] (fun v j wx => ∃ jj : Nat, jj ≤ S2.size ∧ j = .int .i64 jj ∧ Hid (OwnV w.heap.size wx v (acc ++ s.take jj)) ∧ Hid (Below w.heap.size w wx)) (fun _ j _ => S2.size - (intOf j).toNat)
          case atStart => exact ⟨0, Nat.zero_le _, rfl, by simp only [List.take_zero, List.append_nil]; exact O2.out, B2⟩
          case round =>
            obtain ⟨jj, hj1, rfl, hOj, hBj⟩ := hrel
            by_cases hjl : jj < S2.size
            · have hjl1 : (jj : Int) < S2.size := by omega
              have hbj : S2[jj]'hjl = s.getD jj 0 := hat.out jj hjl
              have hsn := take_one s jj (by omega)
              obtain ⟨x, hx2⟩ : ∃ x, s.getD jj 0 = x := ⟨_, rfl⟩
              rw [hx2] at hbj hsn
              obtain ⟨va2, vc2, hv2⟩ := own_shape (ownsRow_zero hOj.out)
              subst hv2
              obtain ⟨L2, hL2⟩ : ∃ L2, (acc ++ s.take jj).length = L2 := ⟨_, rfl⟩
              have hL2b : L2 ≤ L + 1 + s.length := by rw [← hL2]; simp only [List.length_append, hLh2.out, List.length_take]; omega
              have hO5 := hOj.out
              unfold OwnV at hO5
              rw [hL2] at hO5 hOj ⊢
              replace hO5 := hide hO5
              have hwz2 : w.heap.size ≤ wr.heap.size := hBj.out.size
              have hsn' := hide hsn
              have hL2h := hide hL2
              clear hsn hx2 hL2
              go_wp2_with (at_builtin; (refine wpList_append_own _ rfl _ _ 47 rfl w.heap.size 5 iB (.int .u8 0) 1 1 sliceByte hi1 hz0 hz1 hz2 rfl (by decide) _ _ _ rfl (hO5.out.alloc _) ⟨wr.heap.size, 0, none⟩ 1 1 [.int .u8 x.toNat] rfl rfl (cell_one_new _ _ _) (by simp [Value.oneCell']) (by unfold maxLen; omega) (by omega) (by simp; omega) ?_; intro v' w1 o1 g1 _; replace o1 := hide o1; replace g1 := hide g1))
              go_roundw
              case rel => exact ⟨jj + 1, by omega, by go_num, by rw [hsn'.out, ← List.append_assoc]; exact own_snoc (x := x) hL2h.out o1.out, own_below hBj.out hwz2 g1.out hOj.out⟩
              case measure => simp [intOf]; omega
            · have hjn : jj = s.length := by omega
              have hjl1 : ¬ (jj : Int) < S2.size := by omega
              have hfull : s.take jj = s := by rw [hjn, List.take_length]
              rw [hfull] at hOj
              clear hfull
              go_wp2
              go_roundw
              case rel => exact ⟨k + 1, acc ++ s, by omega, by go_num, hOj, hBj, (by show (acc ++ s).length ≤ _; rw [List.length_append, hLh2.out, htt]; omega), J3⟩
              case measure => simp [intOf]; omega
        · have hk0 : k ≠ 0 := hpk.1
          obtain ⟨m, rfl⟩ : ∃ m, k = m + 1 := ⟨k - 1, by omega⟩
          have hpk2 := hpk.2
          subst hpk2
          rw [Nat.add_sub_cancel] at y0
          have ew : IntKind.i64.wrap ((m : Int) + 1 - 1) = m := by rw [IntKind.wrap_i64]; omega
          have i0 : (0 : Int) < (m : Int) + 1 := by omega
          have i5 : (m : Int) < LL := by omega
          by_cases hp1 : pk = 1
          · subst hp1
            have hsep : S.sep (Option.some 1) kd = [] := by unfold S.sep; simp
            rw [hsep, List.append_nil] at J3
            clear hsep
            go_wp2_with (go_at_call 22; refine q2.out.mono ?_; rintro e w2 ⟨rfl, b2⟩; have d1 := (b2.cell (p := ⟨g1, f1 + (m + 1) * 4, none⟩) hg1).trans x0; have y2 := (b2.cell (p := ⟨g1, f1 + m * 4, none⟩) hg1).trans y0; have O2 := hide (hO2.out w2 b2); have B2 := hide (hB.out.then_below b2); clear b2)
            go_loopw [4, 8] (fun v j wx => ∃ jj : Nat, jj ≤ S2.size ∧ j = .int .i64 jj ∧ Hid (OwnV w.heap.size wx v (acc ++ s.take jj)) ∧ Hid (Below w.heap.size w wx)) (fun _ j _ => S2.size - (intOf j).toNat)
            case atStart => exact ⟨0, Nat.zero_le _, rfl, by simp only [List.take_zero, List.append_nil]; exact O2.out, B2⟩
            case round =>
              obtain ⟨jj, hj1, rfl, hOj, hBj⟩ := hrel
              by_cases hjl : jj < S2.size
              · have hjl1 : (jj : Int) < S2.size := by omega
                have hbj : S2[jj]'hjl = s.getD jj 0 := hat.out jj hjl
                have hsn := take_one s jj (by omega)
                obtain ⟨x, hx2⟩ : ∃ x, s.getD jj 0 = x := ⟨_, rfl⟩
                rw [hx2] at hbj hsn
                obtain ⟨va2, vc2, hv2⟩ := own_shape (ownsRow_zero hOj.out)
                subst hv2
                obtain ⟨L2, hL2⟩ : ∃ L2, (acc ++ s.take jj).length = L2 := ⟨_, rfl⟩
                have hL2b : L2 ≤ L + 1 + s.length := by rw [← hL2]; simp only [List.length_append, hLh2.out, List.length_take]; omega
                have hO5 := hOj.out
                unfold OwnV at hO5
                rw [hL2] at hO5 hOj ⊢
                replace hO5 := hide hO5
                have hwz2 : w.heap.size ≤ wr.heap.size := hBj.out.size
                have hsn' := hide hsn
                have hL2h := hide hL2
                clear hsn hx2 hL2
                go_wp2_with (at_builtin; (refine wpList_append_own _ rfl _ _ 47 rfl w.heap.size 5 iB (.int .u8 0) 1 1 sliceByte hi1 hz0 hz1 hz2 rfl (by decide) _ _ _ rfl (hO5.out.alloc _) ⟨wr.heap.size, 0, none⟩ 1 1 [.int .u8 x.toNat] rfl rfl (cell_one_new _ _ _) (by simp [Value.oneCell']) (by unfold maxLen; omega) (by omega) (by simp; omega) ?_; intro v' w1 o1 g1 _; replace o1 := hide o1; replace g1 := hide g1))
                go_roundw
                case rel => exact ⟨jj + 1, by omega, by go_num, by rw [hsn'.out, ← List.append_assoc]; exact own_snoc (x := x) hL2h.out o1.out, own_below hBj.out hwz2 g1.out hOj.out⟩
                case measure => simp [intOf]; omega
              · have hjn : jj = s.length := by omega
                have hjl1 : ¬ (jj : Int) < S2.size := by omega
                have hfull : s.take jj = s := by rw [hjn, List.take_length]
                rw [hfull] at hOj
                clear hfull
                go_wp2
                go_roundw
                case rel => exact ⟨m + 1 + 1, acc ++ s, by omega, by go_num, hOj, hBj, (by show (acc ++ s).length ≤ _; rw [List.length_append, hLh2.out, htt]; omega), J3⟩
                case measure => simp [intOf]; omega
          · by_cases hk2 : kd = 2
            · subst hk2
              have e1 : (pk != 1) = true := by simpa using hp1
              have hsep : S.sep (Option.some pk) 2 = [] := by unfold S.sep; simp
              rw [hsep, List.append_nil] at J3
              clear hsep
              go_wp2_with (go_at_call 22; refine q2.out.mono ?_; rintro e w2 ⟨rfl, b2⟩; have d1 := (b2.cell (p := ⟨g1, f1 + (m + 1) * 4, none⟩) hg1).trans x0; have y2 := (b2.cell (p := ⟨g1, f1 + m * 4, none⟩) hg1).trans y0; have O2 := hide (hO2.out w2 b2); have B2 := hide (hB.out.then_below b2); clear b2)
              go_loopw [4, 8] (fun v j wx => ∃ jj : Nat, jj ≤ S2.size ∧ j = .int .i64 jj ∧ Hid (OwnV w.heap.size wx v (acc ++ s.take jj)) ∧ Hid (Below w.heap.size w wx)) (fun _ j _ => S2.size - (intOf j).toNat)
              case atStart => exact ⟨0, Nat.zero_le _, rfl, by simp only [List.take_zero, List.append_nil]; exact O2.out, B2⟩
              case round =>
                obtain ⟨jj, hj1, rfl, hOj, hBj⟩ := hrel
                by_cases hjl : jj < S2.size
                · have hjl1 : (jj : Int) < S2.size := by omega
                  have hbj : S2[jj]'hjl = s.getD jj 0 := hat.out jj hjl
                  have hsn := take_one s jj (by omega)
                  obtain ⟨x, hx2⟩ : ∃ x, s.getD jj 0 = x := ⟨_, rfl⟩
                  rw [hx2] at hbj hsn
                  obtain ⟨va2, vc2, hv2⟩ := own_shape (ownsRow_zero hOj.out)
                  subst hv2
                  obtain ⟨L2, hL2⟩ : ∃ L2, (acc ++ s.take jj).length = L2 := ⟨_, rfl⟩
                  have hL2b : L2 ≤ L + 1 + s.length := by rw [← hL2]; simp only [List.length_append, hLh2.out, List.length_take]; omega
                  have hO5 := hOj.out
                  unfold OwnV at hO5
                  rw [hL2] at hO5 hOj ⊢
                  replace hO5 := hide hO5
                  have hwz2 : w.heap.size ≤ wr.heap.size := hBj.out.size
                  have hsn' := hide hsn
                  have hL2h := hide hL2
                  clear hsn hx2 hL2
                  go_wp2_with (at_builtin; (refine wpList_append_own _ rfl _ _ 47 rfl w.heap.size 5 iB (.int .u8 0) 1 1 sliceByte hi1 hz0 hz1 hz2 rfl (by decide) _ _ _ rfl (hO5.out.alloc _) ⟨wr.heap.size, 0, none⟩ 1 1 [.int .u8 x.toNat] rfl rfl (cell_one_new _ _ _) (by simp [Value.oneCell']) (by unfold maxLen; omega) (by omega) (by simp; omega) ?_; intro v' w1 o1 g1 _; replace o1 := hide o1; replace g1 := hide g1))
                  go_roundw
                  case rel => exact ⟨jj + 1, by omega, by go_num, by rw [hsn'.out, ← List.append_assoc]; exact own_snoc (x := x) hL2h.out o1.out, own_below hBj.out hwz2 g1.out hOj.out⟩
                  case measure => simp [intOf]; omega
                · have hjn : jj = s.length := by omega
                  have hjl1 : ¬ (jj : Int) < S2.size := by omega
                  have hfull : s.take jj = s := by rw [hjn, List.take_length]
                  rw [hfull] at hOj
                  clear hfull
                  go_wp2
                  go_roundw
                  case rel => exact ⟨m + 1 + 1, acc ++ s, by omega, by go_num, hOj, hBj, (by show (acc ++ s).length ≤ _; rw [List.length_append, hLh2.out, htt]; omega), J3⟩
                  case measure => simp [intOf]; omega
            · have hsep : S.sep (Option.some pk) kd = [32] := by
                unfold S.sep
                exact if_pos ⟨hp1, hk2⟩
              rw [hsep] at J3
              have e1 : (pk != 1) = true := by simpa using hp1
              have e2 : (kd != 2) = true := by simpa using hk2
              clear hsep
              go_wp2_with (first
                | (go_at_call 22; refine q2.out.mono ?_; rintro e w2 ⟨rfl, b2⟩; have d1 := (b2.cell (p := ⟨g1, f1 + (m + 1) * 4, none⟩) hg1).trans x0; have y2 := (b2.cell (p := ⟨g1, f1 + m * 4, none⟩) hg1).trans y0; have O2 := hO2.out w2 b2; have O2' := O2; unfold OwnV at O2'; rw [hLh2.out] at O2'; replace O2 := hide O2; replace O2' := hide O2'; have hwz2 := Nat.le_trans hwz b2.size; have B2 := hide (hB.out.then_below b2); clear b2)
                | (at_builtin; (refine wpList_append_own _ rfl _ _ 47 rfl w.heap.size 5 iB (.int .u8 0) 1 1 sliceByte hi1 hz0 hz1 hz2 rfl (by decide) _ _ _ rfl (O2'.out.alloc _) ⟨w2.heap.size, 0, none⟩ 1 1 [.int .u8 32] rfl rfl (cell_one_new _ _ _) (by simp [Value.oneCell']) (by unfold maxLen; omega) (by omega) (by simp; omega) ?_; intro v' w5 o5 g5 _; have O5 := hide (own_snoc (x := 32) hLh2.out o5); have B5 := hide (own_below B2.out hwz2 g5 O2.out); clear o5 g5)))
              go_loopw [4, 8] (fun v j wx => ∃ jj : Nat, jj ≤ S2.size ∧ j = .int .i64 jj ∧ Hid (OwnV w.heap.size wx v ((acc ++ [32]) ++ s.take jj)) ∧ Hid (Below w.heap.size w wx)) (fun _ j _ => S2.size - (intOf j).toNat)
              case atStart => exact ⟨0, Nat.zero_le _, rfl, by simp only [List.take_zero, List.append_nil]; exact O5.out, B5⟩
              case round =>
                obtain ⟨jj, hj1, rfl, hOj, hBj⟩ := hrel
                by_cases hjl : jj < S2.size
                · have hjl1 : (jj : Int) < S2.size := by omega
                  have hbj : S2[jj]'hjl = s.getD jj 0 := hat.out jj hjl
                  have hsn := take_one s jj (by omega)
                  obtain ⟨x, hx2⟩ : ∃ x, s.getD jj 0 = x := ⟨_, rfl⟩
                  rw [hx2] at hbj hsn
                  obtain ⟨va2, vc2, hv2⟩ := own_shape (ownsRow_zero hOj.out)
                  subst hv2
                  obtain ⟨L2, hL2⟩ : ∃ L2, ((acc ++ [32]) ++ s.take jj).length = L2 := ⟨_, rfl⟩
                  have hL2b : L2 ≤ L + 1 + s.length := by rw [← hL2]; simp only [List.length_append, List.length_singleton, hLh2.out, List.length_take]; omega
                  have hO5 := hOj.out
                  unfold OwnV at hO5
                  rw [hL2] at hO5 hOj ⊢
                  replace hO5 := hide hO5
                  have hwz2 : w.heap.size ≤ wr.heap.size := hBj.out.size
                  have hsn' := hide hsn
                  have hL2h := hide hL2
                  clear hsn hx2 hL2
                  go_wp2_with (at_builtin; (refine wpList_append_own _ rfl _ _ 47 rfl w.heap.size 5 iB (.int .u8 0) 1 1 sliceByte hi1 hz0 hz1 hz2 rfl (by decide) _ _ _ rfl (hO5.out.alloc _) ⟨wr.heap.size, 0, none⟩ 1 1 [.int .u8 x.toNat] rfl rfl (cell_one_new _ _ _) (by simp [Value.oneCell']) (by unfold maxLen; omega) (by omega) (by simp; omega) ?_; intro v' w1 o1 g1 _; replace o1 := hide o1; replace g1 := hide g1))
                  go_roundw
                  case rel => exact ⟨jj + 1, by omega, by go_num, by rw [hsn'.out, ← List.append_assoc]; exact own_snoc (x := x) hL2h.out o1.out, own_below hBj.out hwz2 g1.out hOj.out⟩
                  case measure => simp [intOf]; omega
                · have hjn : jj = s.length := by omega
                  have hjl1 : ¬ (jj : Int) < S2.size := by omega
                  have hfull : s.take jj = s := by rw [hjn, List.take_length]
                  rw [hfull] at hOj
                  clear hfull
                  go_wp2
                  go_roundw
                  case rel => exact ⟨m + 1 + 1, (acc ++ [32]) ++ s, by omega, by go_num, hOj, hBj, (by show ((acc ++ [32]) ++ s).length ≤ _; rw [List.length_append, List.length_append, List.length_singleton, hLh2.out, htt]; omega), J3⟩
                  case measure => simp [intOf]; omega
    · have hk2 : k = ts.length := by rw [hLh.out]; omega
      have hRs : R = Option.some acc := by
        have := hJ.out
        unfold JN at this
        rw [hk2, List.drop_length] at this
        rw [← this]
        show Option.map _ (Option.some []) = _
        simp
      replace hRs := hide hRs
      have i1 : ¬ (k : Int) < LL := by omega
      go_wp2
      go_ret2
      exact ⟨by rw [hRs.out]; rfl, hB.out⟩
end Go.Proofs.YtigcakppnbfpkaaGreatDoor
