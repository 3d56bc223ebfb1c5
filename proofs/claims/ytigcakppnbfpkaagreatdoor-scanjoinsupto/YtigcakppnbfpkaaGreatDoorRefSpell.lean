/-
  The document's spell, walked to plain words.
-/
import Derived.Test.YtigcakppnbfpkaaGreatDoorRefQuote2
import Derived.Test.YtigcakppnbfpkaaGreatDoorJoin3
import Derived.Test.YtigcakppnbfpkaaGreatDoorBackMath
namespace Go.Proofs.YtigcakppnbfpkaaGreatDoor
open Go.RowKit
set_option linter.unusedVariables false
theorem one_place {k : Int} {x : List UInt8} (h3 : k ≠ 3) (h9 : k ≠ 9) (h10 : k ≠ 10) (h : S.oneOf resv k x = true) : ∃ t : S.Tok, S.run resv .idle x 0 = ([t], 0, 0) ∧ (t.kind : Int) = k ∧ t.text = x ∧ t.beg = 0 ∧ t.fin = x.length := by
  obtain ⟨t, e1, e2, e3⟩ := S.oneOf_parts resv h
  have hk := S.run_okL resv x .idle 0 trivial t (by rw [e1]; exact List.mem_cons_self)
  have hlen := hk.1 (by omega) (by omega) (by omega)
  rw [e3] at hlen
  have hst := S.run_stands resv x 0
  rw [e1] at hst
  obtain ⟨n, m, m1, m2, m3, m4, -⟩ := hst
  exact ⟨t, e1, e2, e3, by omega, by omega⟩
theorem oneOf_kinds {k : Int} {x : List UInt8} (h : S.oneOf resv k x = true) : 1 ≤ k ∧ k ≤ 10 := by
  obtain ⟨t, e1, e2, e3⟩ := S.oneOf_parts resv h
  have hk := S.run_okL resv x .idle 0 trivial t (by rw [e1]; exact List.mem_cons_self)
  have h1 := hk.2.1
  have h2 := hk.2.2.1
  omega
/-- What the walks need of the token that is handed in. -/
def SpW (w W0 : World) (k a b : Int) (s : ByteArray) : Prop :=
  w.alloc (.cells #[.int .i64 k, .int .i64 a, .int .i64 b, .string s] 24) = W0
theorem SpW.all {w W0 : World} {k a b : Int} {s : ByteArray} (h : SpW w W0 k a b s) : Below w.heap.size w W0 ∧ W0.cell? ⟨w.heap.size, 0, none⟩ = some (.int .i64 k) ∧ W0.cell? ⟨w.heap.size, 3, none⟩ = some (.string s) ∧ w.heap.size < W0.heap.size := by
  have A0 : W0.heap[w.heap.size]? = some (.cells #[.int .i64 k, .int .i64 a, .int .i64 b, .string s] 24 (0, 0)) := by rw [← h]; exact heap_alloc_new w _
  exact ⟨by rw [← h]; exact (Below.refl _ w).alloc (Nat.le_refl _) _, cell_of_row _ _ 0 _ _ (0, 0) A0, cell_of_row _ _ 3 _ _ (0, 0) A0, (Array.getElem?_eq_some_iff.1 A0).1⟩
set_option maxRecDepth 100000 in
set_option maxHeartbeats 4000000 in
theorem rspell_1 (w : World) (hr : Rsv w) (a b : Int) (s : ByteArray) (l : List UInt8) (hs : s.data.toList = l) (hl : l.length ≤ 1073741822) :
    Calls Tryz.prog 22 #[.agg #[.int .i64 1, .int .i64 a, .int .i64 b, .string s]] w fun e w' => e = .returned (.tuple #[qv (S.spl resv 1 l), .int .i64 (qe (S.spl resv 1 l))]) ∧ Below w.heap.size w w' := by
  have hn := size_of s l hs
  obtain ⟨W0, hW0⟩ : ∃ W, w.alloc (.cells #[.int .i64 1, .int .i64 a, .int .i64 b, .string s] 24) = W := ⟨_, rfl⟩
  obtain ⟨B0, z0, z3, hz0⟩ := SpW.all (w := w) hW0
  have qt := rtokens_calls W0 (hr.below B0) s l hs (by omega)
  replace B0 := hide B0
  have m1 : s.size ≤ 1073741824 := by omega
  have eo : S.spl resv 1 l = if S.oneOf resv 1 l then some l else none := rfl
  rw [eo]
  by_cases hone : S.oneOf resv 1 l = true
  · obtain ⟨t, e1, e2, e3, e4, e5⟩ := one_place (by decide) (by decide) (by decide) hone
    rw [hone]
    rw [e1] at qt
    simp only at qt
    replace qt := hide qt
    obtain ⟨tk, tb, tf, tx⟩ := t
    simp only at e2 e3 e4 e5
    have e2' : tk = 1 := by omega
    subst e2' e4
    have hsx : (⟨tx.toArray⟩ : ByteArray) = s := bytes_eq (by rw [hs]; exact e3)
    have e5' : (tf : Int) = s.size := by omega
    have hs' := hide hs
    clear e1 e2 e3 e5 eo hone hs hn hr hl
    go_enter Tryz.func22, Tryz.ntmps22
    go_wp2_with (go_at_call 28; refine qt.out.mono ?_; rintro x w1 ⟨v1, rfl, u1, b1⟩; have T1 := ownsRow.trow u1; obtain ⟨a1, cp1, rfl, n1, n1'⟩ := T1.shape; obtain ⟨g1, f1, rfl, x0, x1, x2, x3⟩ := T1.at_ (j := 0) (by simp); simp at x0 x1 x2 x3 n1; rw [hsx] at x3; have y0 := (b1.cell (p := ⟨w.heap.size, 0, none⟩) hz0).trans z0; have y3 := (b1.cell (p := ⟨w.heap.size, 3, none⟩) hz0).trans z3; replace b1 := hide b1; clear T1 u1)
    go_quiet (fail)
    go_wp2
    go_ret2
    exact ⟨ret_qv (by rw [hs'.out]; rfl) rfl, B0.out.then_below (below_drewN b1.out _)⟩
  · have hone' : S.oneOf resv 1 l = false := by simpa using hone
    rw [hone']
    obtain ⟨O, hO⟩ : ∃ O, S.run resv .idle l 0 = O := ⟨_, rfl⟩
    rw [hO] at qt
    obtain ⟨ts, e, p⟩ := O
    simp only at qt
    replace qt := hide qt
    have hs' := hide hs
    by_cases he : e = 0
    · subst he
      by_cases hts : ts.length = 1
      · obtain ⟨t, rfl⟩ : ∃ t, ts = [t] := List.length_eq_one_iff.1 hts
        by_cases hk : (t.kind : Int) = 1
        · have hx : t.text ≠ l := by
            intro hx
            exact hone (oneOf_yes hO rfl rfl hk hx)
          obtain ⟨SX, hSX⟩ : ∃ Y : ByteArray, (⟨t.text.toArray⟩ : ByteArray) = Y := ⟨_, rfl⟩
          have hne : SX ≠ s := by
            intro e
            rw [← hSX] at e
            apply hx
            have := congrArg (fun z : ByteArray => z.data.toList) e
            simp only at this
            rw [hs'.out] at this
            exact this
          obtain ⟨e1, e2, e3, e4, e5⟩ := str_ne4' hne
          clear hone hone' hx hts hne hO eo hs hn hr hl
          go_enter Tryz.func22, Tryz.ntmps22
          go_wp2_with (go_at_call 28; refine qt.out.mono ?_; rintro x w1 ⟨v1, rfl, u1, b1⟩; have T1 := ownsRow.trow u1; obtain ⟨a1, cp1, rfl, n1, n1'⟩ := T1.shape; obtain ⟨g1, f1, rfl, x0, x1, x2, x3⟩ := T1.at_ (j := 0) (by simp); simp at x0 x1 x2 x3 n1; rw [hSX] at x3; have y0 := (b1.cell (p := ⟨w.heap.size, 0, none⟩) hz0).trans z0; have y3 := (b1.cell (p := ⟨w.heap.size, 3, none⟩) hz0).trans z3; replace b1 := hide b1; clear T1 u1)
          go_quiet (fail)
          go_wp2
          go_ret2
          exact ⟨ret_qv rfl rfl, B0.out.then_below (below_drewN b1.out _)⟩
        · have hk1 : ((t.kind : Int) == 1) = false := by simpa using hk
          clear hone hone' hk hts hO eo hs hn hr hl
          go_enter Tryz.func22, Tryz.ntmps22
          go_wp2_with (go_at_call 28; refine qt.out.mono ?_; rintro x w1 ⟨v1, rfl, u1, b1⟩; have T1 := ownsRow.trow u1; obtain ⟨a1, cp1, rfl, n1, n1'⟩ := T1.shape; obtain ⟨g1, f1, rfl, x0, x1, x2, x3⟩ := T1.at_ (j := 0) (by simp); simp at x0 x1 x2 x3 n1; have y0 := (b1.cell (p := ⟨w.heap.size, 0, none⟩) hz0).trans z0; have y3 := (b1.cell (p := ⟨w.heap.size, 3, none⟩) hz0).trans z3; replace b1 := hide b1; clear T1 u1)
          go_quiet (fail)
          go_wp2
          go_ret2
          exact ⟨ret_qv rfl rfl, B0.out.then_below (below_drewN b1.out _)⟩
      · have hts1 : ((ts.length : Int) == 1) = false := by simpa using (show ¬ (ts.length : Int) = 1 by omega)
        clear hone hone' hts hO eo hs hn hr hl
        go_enter Tryz.func22, Tryz.ntmps22
        go_wp2_with (go_at_call 28; refine qt.out.mono ?_; rintro x w1 ⟨v1, rfl, u1, b1⟩; have T1 := ownsRow.trow u1; obtain ⟨a1, cp1, rfl, n1, n1'⟩ := T1.shape; have y0 := (b1.cell (p := ⟨w.heap.size, 0, none⟩) hz0).trans z0; have y3 := (b1.cell (p := ⟨w.heap.size, 3, none⟩) hz0).trans z3; replace b1 := hide b1; clear T1 u1)
        go_quiet (fail)
        go_wp2
        go_ret2
        exact ⟨ret_qv rfl rfl, B0.out.then_below (below_drewN b1.out _)⟩
    · have he1 : ((e : Int) == 0) = false := by simpa using (show ¬ (e : Int) = 0 by omega)
      clear hone hone' he hO eo hs hn hr hl
      go_enter Tryz.func22, Tryz.ntmps22
      go_wp2_with (go_at_call 28; refine qt.out.mono ?_; rintro x w1 ⟨v1, rfl, u1, b1⟩; have T1 := ownsRow.trow u1; obtain ⟨a1, cp1, rfl, n1, n1'⟩ := T1.shape; have y0 := (b1.cell (p := ⟨w.heap.size, 0, none⟩) hz0).trans z0; have y3 := (b1.cell (p := ⟨w.heap.size, 3, none⟩) hz0).trans z3; replace b1 := hide b1; clear T1 u1)
      go_quiet (fail)
      go_wp2
      go_ret2
      exact ⟨ret_qv rfl rfl, B0.out.then_below (below_drewN b1.out _)⟩
end Go.Proofs.YtigcakppnbfpkaaGreatDoor
