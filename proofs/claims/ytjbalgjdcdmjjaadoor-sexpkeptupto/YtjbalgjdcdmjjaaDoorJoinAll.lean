/- Laid together of: Join1, Join2, Join3, JMem. -/
import Derived.Test.YtjbalgjdcdmjjaaDoorQuote4
import Derived.Test.YtjbalgjdcdmjjaaDoorScanBehind
import Derived.Test.YtjbalgjdcdmjjaaDoorJoinMath
import Derived.Shelf.Strings.BuilderK
/- ==== Join1 ==== -/
namespace Go.Proofs.YtjbalgjdcdmjjaaDoor
open Go.RowKit
set_option linter.unusedVariables false
theorem oneOf_yes {k : Int} {x : List UInt8} {ts : List S.Tok} {e p : Nat} {t : S.Tok} (h : S.run resv .idle x 0 = (ts, e, p)) (h1 : ts = [t]) (h2 : e = 0) (h3 : (t.kind : Int) = k) (h4 : t.text = x) : S.oneOf resv k x = true := by
  unfold S.oneOf
  rw [h, h1, h2]
  simp [h3, h4]
theorem oneOf_err {k : Int} {x : List UInt8} {ts : List S.Tok} {e p : Nat} (h : S.run resv .idle x 0 = (ts, e, p)) (h2 : e ≠ 0) : S.oneOf resv k x = false := by
  unfold S.oneOf
  rw [h]
  simp only
  split
  · omega
  · rfl
theorem oneOf_many {k : Int} {x : List UInt8} {ts : List S.Tok} {e p : Nat} (h : S.run resv .idle x 0 = (ts, e, p)) (h2 : ts.length ≠ 1) : S.oneOf resv k x = false := by
  unfold S.oneOf
  rw [h]
  simp only
  split
  · exact absurd rfl h2
  · rfl
theorem oneOf_not {k : Int} {x : List UInt8} {ts : List S.Tok} {e p : Nat} {t : S.Tok} (h : S.run resv .idle x 0 = (ts, e, p)) (h1 : ts = [t]) (h3 : ¬ ((t.kind : Int) = k ∧ t.text = x)) : S.oneOf resv k x = false := by
  unfold S.oneOf
  rw [h, h1]
  simp only
  split
  · rename_i t' e1
    cases e1
    rw [Bool.eq_false_iff]
    intro hh
    simp at hh
    exact h3 hh
  · rfl
set_option maxRecDepth 100000 in
set_option maxHeartbeats 4000000 in
theorem spelling_calls (w : World) (hc : Cls w) (hm : Mx w) (k a b : Int) (s : ByteArray) (l : List UInt8) (hs : s.data.toList = l) (hl : l.length ≤ 1073741822) :
    Calls Tryd.prog 54 #[.agg #[.int .i64 k, .int .i64 a, .int .i64 b, .string s]] w fun e w' => e = .returned (.tuple #[qv (S.spl resv k l), .int .i64 (qe (S.spl resv k l))]) ∧ Below w.heap.size w w' := by
  have hn := size_of s l hs
  obtain ⟨W0, hW0⟩ : ∃ W, w.alloc (.cells #[.int .i64 k, .int .i64 a, .int .i64 b, .string s] 66) = W := ⟨_, rfl⟩
  have B0 : Hid (Below w.heap.size w W0) := by rw [← hW0]; exact (Below.refl _ w).alloc (Nat.le_refl _) _
  have c0 : Cls W0 := cls_below hc B0.out
  have m0 : Mx W0 := hm.below B0.out
  have A0 : W0.heap[w.heap.size]? = some (.cells #[.int .i64 k, .int .i64 a, .int .i64 b, .string s] 66 (0, 0)) := by rw [← hW0]; exact heap_alloc_new w _
  have z0 : W0.cell? ⟨w.heap.size, 0, none⟩ = some (.int .i64 k) := cell_of_row _ _ 0 _ _ (0, 0) A0
  have z3 : W0.cell? ⟨w.heap.size, 3, none⟩ = some (.string s) := cell_of_row _ _ 3 _ _ (0, 0) A0
  have hz0 : w.heap.size < W0.heap.size := (Array.getElem?_eq_some_iff.1 A0).1
  have q3 := hide (quote_calls W0 c0 s l hs (by omega))
  have q9 := hide (literal_calls W0 c0 m0 s l hs (by omega))
  have q10 := hide (simple_calls W0 c0 s l hs (by omega))
  have qt := hide (tokens_calls W0 c0 s l hs (by omega))
  have m1 : s.size ≤ 1073741824 := by omega
  clear c0 m0
  by_cases h3 : k = 3
  · subst h3
    rw [show S.spl resv 3 l = S.quo resv l from rfl]
    generalize S.quo resv l = o at q3
    unfold qv at q3
    go_enter Tryd.func54, Tryd.ntmps54
    go_wp2_with (go_at_call 67; refine q3.out.mono ?_; rintro e w1 ⟨rfl, b1⟩; replace b1 := hide b1)
    go_ret2
    exact ⟨rfl, B0.out.then_below b1.out⟩
  · have i3 : ¬ k = 3 := h3
    by_cases h9 : k = 9
    · subst h9
      rw [show S.spl resv 9 l = S.lit l from rfl]
      generalize S.lit l = o at q9
      unfold qv at q9
      go_enter Tryd.func54, Tryd.ntmps54
      go_wp2_with (go_at_call 68; refine q9.out.mono ?_; rintro e w1 ⟨rfl, b1⟩; replace b1 := hide b1)
      go_ret2
      exact ⟨rfl, B0.out.then_below b1.out⟩
    · have i9 : ¬ k = 9 := h9
      by_cases h10 : k = 10
      · subst h10
        have e10 : S.spl resv 10 l = if S.smp l then some (58 :: l) else none := rfl
        rw [e10]
        have hs' := hide hs
        cases hsm : S.smp l with
        | true =>
          rw [hsm] at q10
          clear e10 hsm hs hn
          go_enter Tryd.func54, Tryd.ntmps54
          go_wp2_with (go_at_call 69; refine q10.out.mono ?_; rintro e w1 ⟨rfl, rfl⟩)
          go_ret2
          exact ⟨ret_qv (by simp [hs'.out]) rfl, B0.out⟩
        | false =>
          rw [hsm] at q10
          clear e10 hsm hs hn
          go_enter Tryd.func54, Tryd.ntmps54
          go_wp2_with (go_at_call 69; refine q10.out.mono ?_; rintro e w1 ⟨rfl, rfl⟩)
          go_ret2
          exact ⟨ret_qv rfl rfl, B0.out⟩
      · have i10 : ¬ k = 10 := h10
        have eo : S.spl resv k l = if S.oneOf resv k l then some l else none := by
          unfold S.spl
          rw [if_neg h3, if_neg h9, if_neg h10]
        rw [eo]
        obtain ⟨O, hO⟩ : ∃ O, S.run resv .idle l 0 = O := ⟨_, rfl⟩
        rw [hO] at qt
        obtain ⟨ts, e, p⟩ := O
        simp only at qt
        have hs' := hide hs
        have hOh := hide hO
        clear eo hO hs hn q3 q9 q10
        by_cases he : e = 0
        · subst he
          by_cases hts : ts.length = 1
          · obtain ⟨t, rfl⟩ : ∃ t, ts = [t] := List.length_eq_one_iff.1 hts
            by_cases hk : (t.kind : Int) = k
            · by_cases hx : t.text = l
              · have hone := hide (oneOf_yes hOh.out rfl rfl hk hx)
                rw [hone.out]
                have hsx : (⟨t.text.toArray⟩ : ByteArray) = s := bytes_eq (by rw [hs'.out]; exact hx)
                subst hk
                clear hone hx hts
                go_enter Tryd.func54, Tryd.ntmps54
                go_wp2_with (go_at_call 38; refine qt.out.mono ?_; rintro x w1 ⟨v1, rfl, u1, b1⟩; have T1 := ownsRow.trow u1; obtain ⟨a1, cp1, rfl, n1, n1'⟩ := T1.shape; obtain ⟨g1, f1, rfl, x0, x1, x2, x3⟩ := T1.at_ (j := 0) (by simp); simp at x0 x1 x2 x3 n1; rw [hsx] at x3; have y0 := (b1.cell (p := ⟨w.heap.size, 0, none⟩) hz0).trans z0; have y3 := (b1.cell (p := ⟨w.heap.size, 3, none⟩) hz0).trans z3; replace b1 := hide b1; clear u1 T1)
                go_quiet (fail)
                go_wp2
                go_ret2
                exact ⟨ret_qv (by rw [hs'.out]; rfl) rfl, B0.out.then_below (below_drewN b1.out _)⟩
              · have hone := hide (oneOf_not (k := k) hOh.out rfl (fun h => hx h.2))
                rw [hone.out]
                subst hk
                obtain ⟨SX, hSX⟩ : ∃ Y : ByteArray, (⟨t.text.toArray⟩ : ByteArray) = Y := ⟨_, rfl⟩
                have hne : SX ≠ s := by
                  intro e
                  rw [← hSX] at e
                  apply hx
                  have := congrArg (fun z : ByteArray => z.data.toList) e
                  simp only at this
                  rw [hs'.out] at this
                  exact this
                obtain ⟨e1, e2, e3, e4, e5⟩ := str_ne4' hne
                clear hone hx hts hne
                go_enter Tryd.func54, Tryd.ntmps54
                go_wp2_with (go_at_call 38; refine qt.out.mono ?_; rintro x w1 ⟨v1, rfl, u1, b1⟩; have T1 := ownsRow.trow u1; obtain ⟨a1, cp1, rfl, n1, n1'⟩ := T1.shape; obtain ⟨g1, f1, rfl, x0, x1, x2, x3⟩ := T1.at_ (j := 0) (by simp); simp at x0 x1 x2 x3 n1; rw [hSX] at x3; have y0 := (b1.cell (p := ⟨w.heap.size, 0, none⟩) hz0).trans z0; have y3 := (b1.cell (p := ⟨w.heap.size, 3, none⟩) hz0).trans z3; replace b1 := hide b1; clear u1 T1)
                go_quiet (fail)
                go_wp2
                go_ret2
                exact ⟨ret_qv rfl rfl, B0.out.then_below (below_drewN b1.out _)⟩
            · have hone := hide (oneOf_not (k := k) hOh.out rfl (fun h => hk h.1))
              rw [hone.out]
              have hk1 : ((t.kind : Int) == k) = false := by simpa using hk
              clear hone hk hts
              go_enter Tryd.func54, Tryd.ntmps54
              go_wp2_with (go_at_call 38; refine qt.out.mono ?_; rintro x w1 ⟨v1, rfl, u1, b1⟩; have T1 := ownsRow.trow u1; obtain ⟨a1, cp1, rfl, n1, n1'⟩ := T1.shape; obtain ⟨g1, f1, rfl, x0, x1, x2, x3⟩ := T1.at_ (j := 0) (by simp); simp at x0 x1 x2 x3 n1; have y0 := (b1.cell (p := ⟨w.heap.size, 0, none⟩) hz0).trans z0; have y3 := (b1.cell (p := ⟨w.heap.size, 3, none⟩) hz0).trans z3; replace b1 := hide b1; clear u1 T1)
              go_quiet (fail)
              go_wp2
              go_ret2
              exact ⟨ret_qv rfl rfl, B0.out.then_below (below_drewN b1.out _)⟩
          · have hone := hide (oneOf_many (k := k) hOh.out hts)
            rw [hone.out]
            have hts1 : ((ts.length : Int) == 1) = false := by simpa using (show ¬ (ts.length : Int) = 1 by omega)
            clear hone hts
            go_enter Tryd.func54, Tryd.ntmps54
            go_wp2_with (go_at_call 38; refine qt.out.mono ?_; rintro x w1 ⟨v1, rfl, u1, b1⟩; have T1 := ownsRow.trow u1; obtain ⟨a1, cp1, rfl, n1, n1'⟩ := T1.shape; have y0 := (b1.cell (p := ⟨w.heap.size, 0, none⟩) hz0).trans z0; have y3 := (b1.cell (p := ⟨w.heap.size, 3, none⟩) hz0).trans z3; replace b1 := hide b1; clear u1 T1)
            go_quiet (fail)
            go_wp2
            go_ret2
            exact ⟨ret_qv rfl rfl, B0.out.then_below (below_drewN b1.out _)⟩
        · have hone := hide (oneOf_err (k := k) hOh.out he)
          rw [hone.out]
          have he1 : ((e : Int) == 0) = false := by simpa using (show ¬ (e : Int) = 0 by omega)
          clear he hone
          go_enter Tryd.func54, Tryd.ntmps54
          go_wp2_with (go_at_call 38; refine qt.out.mono ?_; rintro x w1 ⟨v1, rfl, u1, b1⟩; obtain ⟨a1, cp1, rfl, n1, n1'⟩ := (ownsRow.trow u1).shape; have y0 := (b1.cell (p := ⟨w.heap.size, 0, none⟩) hz0).trans z0; have y3 := (b1.cell (p := ⟨w.heap.size, 3, none⟩) hz0).trans z3; replace b1 := hide b1; clear u1)
          go_quiet (fail)
          go_wp2
          go_ret2
          exact ⟨ret_qv rfl rfl, B0.out.then_below (below_drewN b1.out _)⟩
end Go.Proofs.YtjbalgjdcdmjjaaDoor
/- ==== Join2 ==== -/
namespace Go.Proofs.YtjbalgjdcdmjjaaDoor
open Go.RowKit Go.Lib
set_option linter.unusedVariables false
def renB : Go.Shelf.Ren := ⟨fun | 167 => 36 | n => Tryd.lays154_ren.f n, Tryd.lays154_ren.t, Tryd.lays154_ren.g⟩
theorem laysB : Lays.n167 Tryd.prog renB := { Tryd.lays154 with f167 := by kernel_rfl, f240 := by kernel_rfl, f276 := by kernel_rfl }
theorem extraB : Builder.Extra Tryd.prog renB := {
  sizeBuilder := by kernel_rfl
  liesBuilder := by kernel_rfl
  t5 := Tryd.underlying5
  a5 := Tryd.isAgg5
  z5 := Tryd.sizeOf5
  v5 := Tryd.zeroValue5
  infoByte := by kernel_rfl
  cellsByte := by kernel_rfl
  sizeByte := by kernel_rfl
  neB5 := by decide }
theorem laysW : Lays.n166 Tryd.prog Tryd.lays154_ren := { Tryd.lays154 with }
theorem writeByte_k (B b : Nat) (bs : List Value) (c : Int) (w : World) (h : Lib.IsBuilderF 84 5 B b bs w) (hlen : bs.length + 1 ≤ 140737488355328) (hBw : B ≤ w.heap.size) :
    Calls Tryd.prog 36 #[.pointer (some ⟨b, 0, none⟩), .int .u8 c] w fun e w' => e = .returned .nilIface ∧ (Lib.BuilderAtF 84 5 B b (.pointer (some ⟨b, 0, none⟩)) (bs ++ [.int .u8 c]) w' ∧ Below B w w' ∧ Lib.OthersKept 5 (some b) w w') :=
  Any.Builder_WriteByte_k laysB extraB B b bs c w h hlen hBw
theorem writeString_k (B b : Nat) (bs : List Value) (s : ByteArray) (w : World) (h : Lib.IsBuilderF 84 5 B b bs w) (hlen : bs.length + s.size ≤ 140737488355328) (hBw : B ≤ w.heap.size) :
    Calls Tryd.prog 35 #[.pointer (some ⟨b, 0, none⟩), .string s] w fun e w' => e = .returned (.tuple #[.int .i64 s.size, .nilIface]) ∧ (Lib.BuilderAtF 84 5 B b (.pointer (some ⟨b, 0, none⟩)) (bs ++ Lib.strCells s) w' ∧ Below B w w' ∧ Lib.OthersKept 5 (some b) w w') :=
  Any.Builder_WriteString_k laysW Tryd.Builder_Extra_154 B b bs s w h hlen hBw
theorem string_k (B b : Nat) (l : List UInt8) (w : World) (h : Lib.IsBuilderF 84 5 B b (Lib.byteCells l) w) (hBw : B ≤ w.heap.size) :
    Calls Tryd.prog 37 #[.pointer (some ⟨b, 0, none⟩)] w fun e w' => e = .returned (.string ⟨l.toArray⟩) ∧ (Lib.IsBuilderF 84 5 B b (Lib.byteCells l) w' ∧ Below B w w' ∧ Lib.OthersKept 5 (some b) w w') :=
  Tryd.Builder_String_any_k B b l w h hBw
/-- A token as it is handed in: any numbers. -/
structure J where
  kind : Int
  beg : Int
  fin : Int
  text : List UInt8
abbrev j0 : J := ⟨0, 0, 0, []⟩
/-- The slice value v holds the tokens ts. -/
def JRow (w : World) (v : Value) (ts : List J) : Prop :=
  ∃ a cap, v = .slice a ts.length cap ∧ ts.length ≤ cap ∧ cap ≤ 9223372036854775807 ∧
    (ts ≠ [] → ∃ b off, a = some ⟨b, off, none⟩ ∧ ∀ j, j < ts.length →
      w.cell? ⟨b, off + j * 4, none⟩ = some (.int .i64 (ts.getD j j0).kind) ∧
      w.cell? ⟨b, off + j * 4 + 1, none⟩ = some (.int .i64 (ts.getD j j0).beg) ∧
      w.cell? ⟨b, off + j * 4 + 2, none⟩ = some (.int .i64 (ts.getD j j0).fin) ∧
      w.cell? ⟨b, off + j * 4 + 3, none⟩ = some (.string ⟨(ts.getD j j0).text.toArray⟩))
theorem JRow.below {w w' : World} {v : Value} {ts : List J} (h : JRow w v ts) (q : Below w.heap.size w w') : JRow w' v ts := by
  obtain ⟨a, cap, rfl, h1, h2, h4⟩ := h
  refine ⟨a, cap, rfl, h1, h2, fun hne => ?_⟩
  obtain ⟨g, off, rfl, hc⟩ := h4 hne
  refine ⟨g, off, rfl, fun j hj => ?_⟩
  obtain ⟨c0, c1, c2, c3⟩ := hc j hj
  have hg : g < w.heap.size := World.block_lt_of_cell? w _ c0
  exact ⟨(q.cell (p := ⟨g, _, none⟩) hg).trans c0, (q.cell (p := ⟨g, _, none⟩) hg).trans c1, (q.cell (p := ⟨g, _, none⟩) hg).trans c2, (q.cell (p := ⟨g, _, none⟩) hg).trans c3⟩
theorem JRow.shape {w : World} {v : Value} {ts : List J} (h : JRow w v ts) : ∃ a cap, v = .slice a ts.length cap ∧ ts.length ≤ cap ∧ cap ≤ 9223372036854775807 := by
  obtain ⟨a, cap, rfl, h1, h2, h4⟩ := h
  exact ⟨a, cap, rfl, h1, h2⟩
theorem JRow.at_ {w : World} {a : Option Addr} {n cap : Nat} {ts : List J} (h : JRow w (.slice a n cap) ts) {j : Nat} (hj : j < ts.length) :
    ∃ b off, a = some ⟨b, off, none⟩ ∧ w.cell? ⟨b, off + j * 4, none⟩ = some (.int .i64 (ts.getD j j0).kind) ∧
      w.cell? ⟨b, off + j * 4 + 1, none⟩ = some (.int .i64 (ts.getD j j0).beg) ∧
      w.cell? ⟨b, off + j * 4 + 2, none⟩ = some (.int .i64 (ts.getD j j0).fin) ∧
      w.cell? ⟨b, off + j * 4 + 3, none⟩ = some (.string ⟨(ts.getD j j0).text.toArray⟩) := by
  obtain ⟨a', cap', e, h1, h2, h4⟩ := h
  cases e
  obtain ⟨b, off, rfl, hc⟩ := h4 (by intro e; rw [e] at hj; simp at hj)
  exact ⟨b, off, rfl, hc j hj⟩
def jk (ts : List J) : List (Int × List UInt8) := ts.map fun t => (t.kind, t.text)
/-- How long it can become. -/
def jtot : List J → Nat
  | [] => 0
  | t :: r => 2 * t.text.length + 3 + jtot r
theorem jtot_append (a b : List J) : jtot (a ++ b) = jtot a + jtot b := by
  induction a with
  | nil => simp [jtot]
  | cons t r ih => simp only [List.cons_append, jtot, ih]; omega
theorem quo_len (l : List UInt8) : ((S.quo resv l).getD []).length ≤ 2 * l.length + 2 := by
  unfold S.quo
  repeat' split
  all_goals simp
  all_goals omega
theorem lit_len (l : List UInt8) : ((S.lit l).getD []).length ≤ 2 * l.length + 2 := by
  unfold S.lit
  have := S.dbl_len l
  split
  all_goals simp
  all_goals omega
theorem spl_len (k : Int) (l : List UInt8) : ((S.spl resv k l).getD []).length ≤ 2 * l.length + 2 := by
  unfold S.spl
  have h1 := quo_len l
  have h2 := lit_len l
  repeat' split
  all_goals first | exact h1 | exact h2 | (simp; done) | (simp; omega)
end Go.Proofs.YtjbalgjdcdmjjaaDoor
/- ==== Join3 ==== -/
namespace Go.Proofs.YtjbalgjdcdmjjaaDoor
open Go.RowKit
set_option linter.unusedVariables false
theorem ownsRowF_below {w w' : World} {B : Nat} {e : TypeId} {sz : Nat} {v : Value} {n : Nat} {xs : List Value} (h : w.ownsRowF B e sz v n xs) (q : Below w.heap.size w w') : w'.ownsRowF B e sz v n xs := by
  refine ⟨h.1, ?_⟩
  rcases h.2 with h2 | ⟨g, cap, cur, fz, h1, h2, h3, h4⟩
  · exact .inl h2
  · exact .inr ⟨g, cap, cur, fz, h1, h2, (q.block g (Array.getElem?_eq_some_iff.1 h3).1).trans h3, h4⟩
theorem builderAt_below {T e : TypeId} {B b : Nat} {p : Value} {bs : List Value} {w w' : World} (h : Lib.BuilderAtF T e B b p bs w) (q : Below w.heap.size w w') : Lib.BuilderAtF T e B b p bs w' := by
  obtain ⟨h1, v, h2, h3, h4⟩ := h
  exact ⟨h1, v, (q.block b (Array.getElem?_eq_some_iff.1 h2).1).trans h2, ownsRowF_below h3 q, h4⟩
theorem builder_below {T e : TypeId} {B b : Nat} {bs : List Value} {w w' : World} (h : Lib.IsBuilderF T e B b bs w) (q : Below w.heap.size w w') : Lib.IsBuilderF T e B b bs w' := by
  rcases h with h | h
  · exact .inl (builderAt_below h q)
  · exact .inr (builderAt_below h q)
def prevK (ts : List J) (k : Nat) : Option Int := if k = 0 then none else some (ts.getD (k - 1) j0).kind
/-- What is to come, behind what is written. -/
def JN (ts : List J) (k : Nat) (acc : List UInt8) (R : Option (List UInt8)) : Prop := (S.jn resv (prevK ts k) (jk (ts.drop k))).map (acc ++ ·) = R
theorem jn_drop {ts : List J} {k : Nat} (h : k < ts.length) : jk (ts.drop k) = ((ts.getD k j0).kind, (ts.getD k j0).text) :: jk (ts.drop (k + 1)) := by
  rw [List.drop_eq_getElem_cons h, List.getD_eq_getElem?_getD, List.getElem?_eq_getElem h]
  rfl
theorem JN.none {ts : List J} {k : Nat} {acc : List UInt8} {R : Option (List UInt8)} (h : JN ts k acc R) (hk : k < ts.length) (hs : S.spl resv (ts.getD k j0).kind (ts.getD k j0).text = none) : R = none := by
  unfold JN at h
  rw [jn_drop hk, S.jn, hs] at h
  exact h.symm
theorem JN.some {ts : List J} {k : Nat} {acc s : List UInt8} {R : Option (List UInt8)} (h : JN ts k acc R) (hk : k < ts.length) (hs : S.spl resv (ts.getD k j0).kind (ts.getD k j0).text = some s) :
    JN ts (k + 1) (acc ++ S.sep (prevK ts k) (ts.getD k j0).kind ++ s) R := by
  unfold JN at h ⊢
  rw [jn_drop hk, S.jn, hs] at h
  have e : prevK ts (k + 1) = Option.some (ts.getD k j0).kind := by
    unfold prevK
    rw [if_neg (by omega), Nat.add_sub_cancel]
  rw [e, ← h]
  simp only
  cases S.jn resv (Option.some (ts.getD k j0).kind) (jk (ts.drop (k + 1))) with
  | none => rfl
  | some t => simp
theorem jtot_take {ts : List J} {k : Nat} (h : k < ts.length) : jtot (ts.take (k + 1)) = jtot (ts.take k) + (2 * (ts.getD k j0).text.length + 3) := by
  rw [List.take_succ_eq_append_getElem h, jtot_append, List.getD_eq_getElem?_getD, List.getElem?_eq_getElem h]
  simp [jtot]
theorem jtot_le {ts : List J} (k : Nat) : jtot (ts.take k) ≤ jtot ts := by
  conv => rhs; rw [← List.take_append_drop k ts]
  rw [jtot_append]
  omega
set_option maxRecDepth 100000 in
set_option maxHeartbeats 4000000 in
theorem join_calls (w : World) (hc : Cls w) (hm : Mx w) (v : Value) (ts : List J) (hv : JRow w v ts) (hl : jtot ts ≤ 1073741824) :
    Calls Tryd.prog 33 #[v] w fun e w' => e = .returned (.tuple #[qv (S.jn resv none (jk ts)), .int .i64 (qe (S.jn resv none (jk ts)))]) ∧ Below w.heap.size w w' := by
  obtain ⟨R, hR⟩ : ∃ R, S.jn resv none (jk ts) = R := ⟨_, rfl⟩
  rw [hR]
  obtain ⟨LL, hLL⟩ : ∃ n, ts.length = n := ⟨_, rfl⟩
  obtain ⟨a1, cp1, rfl, n1, n1'⟩ := hv.shape
  have t1 := hide hv
  rw [hLL] at n1 t1 ⊢
  have hLh := hide hLL
  have hcH := hide hc
  have hmH := hide hm
  have J0 : Hid (JN ts 0 [] R) := by
    show _ = _
    rw [← hR]
    show (S.jn resv none (jk ts)).map ([] ++ ·) = _
    cases S.jn resv none (jk ts) <;> rfl
  clear hv hLL hR hc hm
  have I0 : Hid (Lib.IsBuilderF 84 5 w.heap.size w.heap.size (Lib.byteCells []) (w.alloc (.cells #[.pointer none, .slice none 0 0] 84))) := Lib.IsBuilderF.of (Lib.fresh_isBuilder 84 5 w)
  have B0 : Hid (Below w.heap.size w (w.alloc (.cells #[.pointer none, .slice none 0 0] 84))) := (Below.refl _ w).alloc (Nat.le_refl _) _
  go_enter Tryd.func33, Tryd.ntmps33
  go_wp2
  go_loopw [11] (fun j wr => ∃ (k : Nat) (acc : List UInt8), k ≤ LL ∧ j = .int .i64 k ∧ Hid (Lib.IsBuilderF 84 5 w.heap.size w.heap.size (Lib.byteCells acc) wr) ∧ Hid (Below w.heap.size w wr) ∧ Hid (acc.length ≤ jtot (ts.take k)) ∧ Hid (JN ts k acc R)) (fun j _ => LL - (intOf j).toNat)
  case atStart => exact ⟨0, [], Nat.zero_le _, rfl, I0, B0, Nat.zero_le _, J0⟩
  case round =>
    clear J0 I0 B0
    obtain ⟨k, acc, hk, rfl, hI, hB, hal, hJ⟩ := hrel
    have hwz : w.heap.size ≤ wr.heap.size := hB.out.size
    have htl := hide (jtot_le (ts := ts) k)
    by_cases hlt : k < LL
    · have hkl : k < ts.length := by rw [hLh.out]; exact hlt
      have T1 := t1.out.below hB.out
      obtain ⟨g1, f1, rfl, x0, x1, x2, x3⟩ := T1.at_ (j := k) hkl
      have htt := jtot_take hkl
      have htl2 := jtot_le (ts := ts) (k + 1)
      have Jn := hide (fun h => hJ.out.none hkl h)
      have Js := hide (fun s h => hJ.out.some (s := s) hkl h)
      have hxl : (ts.getD k j0).text.length ≤ 536870912 := by omega
      have hsp := spl_len (ts.getD k j0).kind (ts.getD k j0).text
      have qs := hide (fun W (h : Cls W) (h' : Mx W) => spelling_calls W h h' (ts.getD k j0).kind (ts.getD k j0).beg (ts.getD k j0).fin ⟨(ts.getD k j0).text.toArray⟩ (ts.getD k j0).text rfl (by omega))
      have hprev : k = 0 ∨ ∃ g2 f2 : Nat, ∃ pk : Int, g1 = g2 ∧ f1 = f2 ∧ (k ≠ 0 ∧ prevK ts k = Option.some pk) ∧ wr.cell? ⟨g1, f1 + (k - 1) * 4, none⟩ = Option.some (.int .i64 pk) := by
        by_cases h0 : k = 0
        · exact .inl h0
        · obtain ⟨g2, f2, e, y0, -⟩ := T1.at_ (j := k - 1) (by omega)
          cases e
          refine .inr ⟨g1, f1, _, rfl, rfl, ⟨h0, ?_⟩, y0⟩
          unfold prevK
          rw [if_neg h0]
      generalize hpK : prevK ts k = pK at Js hprev
      generalize ts.getD k j0 = t at x0 x1 x2 x3 Jn Js hxl hsp qs htt
      obtain ⟨kd, ta, tb, tx⟩ := t
      simp only at x0 x1 x2 x3 Jn Js hxl hsp qs htt
      obtain ⟨S1, hS1⟩ : ∃ s : ByteArray, (⟨tx.toArray⟩ : ByteArray) = s := ⟨_, rfl⟩
      rw [hS1] at x3 qs
      obtain ⟨W1, hW1⟩ : ∃ W, wr.alloc (.cells #[.int .i64 kd, .int .i64 ta, .int .i64 tb, .string S1] 66) = W := ⟨_, rfl⟩
      have b1 : Hid (Below wr.heap.size wr W1) := by rw [← hW1]; exact (Below.refl _ wr).alloc (Nat.le_refl _) _
      have A1 : W1.heap[wr.heap.size]? = Option.some (.cells #[.int .i64 kd, .int .i64 ta, .int .i64 tb, .string S1] 66 (0, 0)) := by rw [← hW1]; exact heap_alloc_new wr _
      have hz1 : wr.heap.size < W1.heap.size := (Array.getElem?_eq_some_iff.1 A1).1
      have c1 : W1.cell? ⟨wr.heap.size, 0, none⟩ = Option.some (.int .i64 kd) := cell_of_row _ _ 0 _ _ (0, 0) A1
      have c1b : W1.cell? ⟨wr.heap.size, 1, none⟩ = Option.some (.int .i64 ta) := cell_of_row _ _ 1 _ _ (0, 0) A1
      have c1c : W1.cell? ⟨wr.heap.size, 2, none⟩ = Option.some (.int .i64 tb) := cell_of_row _ _ 2 _ _ (0, 0) A1
      have c1d : W1.cell? ⟨wr.heap.size, 3, none⟩ = Option.some (.string S1) := cell_of_row _ _ 3 _ _ (0, 0) A1
      have B1 := hide (hB.out.then_below b1.out)
      have qs' := qs.out W1 (cls_below hcH.out B1.out) (hmH.out.below B1.out)
      obtain ⟨o, ho⟩ : ∃ o, S.spl resv kd tx = o := ⟨_, rfl⟩
      rw [ho] at qs' hsp
      have Jn' : o = Option.none → R = Option.none := fun h => Jn.out (ho.trans h)
      have Js' : ∀ s, o = Option.some s → JN ts (k + 1) (acc ++ S.sep pK kd ++ s) R := fun s h => Js.out s (ho.trans h)
      replace Jn' := hide Jn'
      replace Js' := hide Js'
      replace qs' := hide qs'
      have i1 : (k : Int) < LL := by omega
      replace hpK := hide hpK
      clear T1 hS1 qs Jn Js A1 ho
      cases o with
      | none =>
        have hRn := hide (Jn'.out rfl)
        have q2 : Hid (Calls Tryd.prog 54 #[.agg #[.int .i64 kd, .int .i64 ta, .int .i64 tb, .string S1]] W1 fun e w' => e = .returned (.tuple #[.string ⟨#[]⟩, .int .i64 17]) ∧ Below W1.heap.size W1 w') := qs'
        clear qs'
        go_wp2_with (go_at_call 54; refine q2.out.mono ?_; rintro e w2 ⟨rfl, b2⟩; replace b2 := hide b2)
        go_ret2
        exact ⟨by rw [hRn.out]; rfl, B1.out.then_below b2.out⟩
      | some s =>
        obtain ⟨S2, hS2⟩ : ∃ s' : ByteArray, (⟨s.toArray⟩ : ByteArray) = s' := ⟨_, rfl⟩
        have q2 : Calls Tryd.prog 54 #[.agg #[.int .i64 kd, .int .i64 ta, .int .i64 tb, .string S1]] W1 fun e w' => e = .returned (.tuple #[.string ⟨s.toArray⟩, .int .i64 0]) ∧ Below W1.heap.size W1 w' := qs'.out
        rw [hS2] at q2
        replace q2 := hide q2
        have J3 := hide (Js'.out s rfl)
        have s2l : S2.size = s.length := by rw [← hS2]; rfl
        have s2c : Lib.strCells S2 = Lib.byteCells s := by rw [← hS2]; rfl
        have hsl : s.length ≤ 2 * tx.length + 2 := hsp
        have hal' := hal.out
        have hI1 := hide (builder_below hI.out b1.out)
        have hcl : (Lib.byteCells acc).length = acc.length := Lib.byteCells_length acc
        have hz2 : w.heap.size ≤ W1.heap.size := by omega
        clear qs' hS2 hsp Jn' Js'
        rcases hprev with h0 | ⟨_, _, pk, rfl, rfl, hpk, y0⟩
        · have hpk : pK = Option.none := by
            rw [← hpK.out]
            unfold prevK
            exact if_pos h0
          subst hpk
          have i0 : ¬ (0 : Int) < k := by omega
          clear h0
          have hsep : S.sep Option.none kd = [] := rfl
          rw [hsep, List.append_nil] at J3
          clear hsep
          go_wp2_with (first
            | (go_at_call 54; refine q2.out.mono ?_; rintro e w2 ⟨rfl, b2⟩; have d1 := (b2.cell (p := ⟨wr.heap.size, 0, none⟩) hz1).trans c1; have hI2 := builder_below hI1.out b2; have qw := hide (writeString_k w.heap.size w.heap.size _ S2 w2 hI2 (by omega) (Nat.le_trans hz2 b2.size)); have B2 := hide (B1.out.then_below b2); clear b2 hI2)
            | (go_at_call 35; refine qw.out.mono ?_; rintro e w3 ⟨rfl, h3, b3, _⟩; replace h3 := hide h3; replace b3 := hide b3))
          go_roundw
          case rel => exact ⟨k + 1, acc ++ s, by omega, by go_num, (by rw [Lib.byteCells_append, ← s2c]; exact Or.inr h3.out), B2.out.trans b3.out, (by show (acc ++ s).length ≤ _; rw [List.length_append, htt]; omega), J3⟩
          case measure => simp [intOf]; omega
        · have hk0 : k ≠ 0 := hpk.1
          obtain ⟨m, rfl⟩ : ∃ m, k = m + 1 := ⟨k - 1, by omega⟩
          have hpk2 := hpk.2
          subst hpk2
          rw [Nat.add_sub_cancel] at y0
          have hg1 : g1 < wr.heap.size := World.block_lt_of_cell? wr _ y0
          have ew : IntKind.i64.wrap ((m : Int) + 1 - 1) = m := by rw [IntKind.wrap_i64]; omega
          have i0 : (0 : Int) < (m : Int) + 1 := by omega
          have i5 : (m : Int) < LL := by omega
          have y1 := (b1.out.cell (p := ⟨g1, f1 + m * 4, none⟩) hg1).trans y0
          have hg2 : g1 < W1.heap.size := by omega
          by_cases hp1 : pk = 1
          · subst hp1
            have hsep : S.sep (Option.some 1) kd = [] := by unfold S.sep; simp
            rw [hsep, List.append_nil] at J3
            clear hsep
            go_wp2_with (first
              | (go_at_call 54; refine q2.out.mono ?_; rintro e w2 ⟨rfl, b2⟩; have d1 := (b2.cell (p := ⟨wr.heap.size, 0, none⟩) hz1).trans c1; have y2 := (b2.cell (p := ⟨g1, f1 + m * 4, none⟩) hg2).trans y1; have hI2 := builder_below hI1.out b2; have qw := hide (writeString_k w.heap.size w.heap.size _ S2 w2 hI2 (by omega) (Nat.le_trans hz2 b2.size)); have B2 := hide (B1.out.then_below b2); clear b2 hI2)
              | (go_at_call 35; refine qw.out.mono ?_; rintro e w3 ⟨rfl, h3, b3, _⟩; replace h3 := hide h3; replace b3 := hide b3))
            go_roundw
            case rel => exact ⟨m + 1 + 1, acc ++ s, by omega, by go_num, (by rw [Lib.byteCells_append, ← s2c]; exact Or.inr h3.out), B2.out.trans b3.out, (by show (acc ++ s).length ≤ _; rw [List.length_append, htt]; omega), J3⟩
            case measure => simp [intOf]; omega
          · by_cases hk2 : kd = 2
            · subst hk2
              have hsep : S.sep (Option.some pk) 2 = [] := by unfold S.sep; simp
              rw [hsep, List.append_nil] at J3
              clear hsep
              go_wp2_with (first
                | (go_at_call 54; refine q2.out.mono ?_; rintro e w2 ⟨rfl, b2⟩; have d1 := (b2.cell (p := ⟨wr.heap.size, 0, none⟩) hz1).trans c1; have y2 := (b2.cell (p := ⟨g1, f1 + m * 4, none⟩) hg2).trans y1; have hI2 := builder_below hI1.out b2; have qw := hide (writeString_k w.heap.size w.heap.size _ S2 w2 hI2 (by omega) (Nat.le_trans hz2 b2.size)); have B2 := hide (B1.out.then_below b2); clear b2 hI2)
                | (go_at_call 35; refine qw.out.mono ?_; rintro e w3 ⟨rfl, h3, b3, _⟩; replace h3 := hide h3; replace b3 := hide b3))
              go_roundw
              case rel => exact ⟨m + 1 + 1, acc ++ s, by omega, by go_num, (by rw [Lib.byteCells_append, ← s2c]; exact Or.inr h3.out), B2.out.trans b3.out, (by show (acc ++ s).length ≤ _; rw [List.length_append, htt]; omega), J3⟩
              case measure => simp [intOf]; omega
            · have hsep : S.sep (Option.some pk) kd = [32] := by
                unfold S.sep
                exact if_pos ⟨hp1, hk2⟩
              rw [hsep] at J3
              have e1 : (pk != 1) = true := by simpa using hp1
              have e2 : (kd != 2) = true := by simpa using hk2
              clear hsep
              go_wp2_with (first
                | (go_at_call 54; refine q2.out.mono ?_; rintro e w2 ⟨rfl, b2⟩; have d1 := (b2.cell (p := ⟨wr.heap.size, 0, none⟩) hz1).trans c1; have y2 := (b2.cell (p := ⟨g1, f1 + m * 4, none⟩) hg2).trans y1; have hI2 := builder_below hI1.out b2; have hzw2 := Nat.le_trans hz2 b2.size; have qb := hide (writeByte_k w.heap.size w.heap.size _ 32 w2 hI2 (by omega) hzw2); have B2 := hide (B1.out.then_below b2); clear b2 hI2)
                | (go_at_call 36; refine qb.out.mono ?_; rintro e w3 ⟨rfl, h3, b3, _⟩; have qw := hide (writeString_k w.heap.size w.heap.size _ S2 w3 (Or.inr h3) (by rw [List.length_append, List.length_singleton]; omega) (Nat.le_trans hzw2 b3.size)); have B3 := hide (B2.out.trans b3); clear b3 h3)
                | (go_at_call 35; refine qw.out.mono ?_; rintro e w4 ⟨rfl, h4, b4, _⟩; replace h4 := hide h4; replace b4 := hide b4))
              go_roundw
              case rel => exact ⟨m + 1 + 1, acc ++ [32] ++ s, by omega, by go_num, (by rw [Lib.byteCells_append, Lib.byteCells_append, ← s2c]; exact Or.inr h4.out), B3.out.trans b4.out, (by show (acc ++ [32] ++ s).length ≤ _; rw [List.length_append, List.length_append, htt, List.length_singleton]; omega), J3⟩
              case measure => simp [intOf]; omega
    · have hk2 : k = ts.length := by rw [hLh.out]; omega
      have hRs : R = Option.some acc := by
        have := hJ.out
        unfold JN at this
        rw [hk2, List.drop_length] at this
        rw [← this]
        show Option.map _ (Option.some []) = _
        simp
      replace hRs := hide hRs
      have qf := hide (string_k w.heap.size w.heap.size acc wr hI.out hwz)
      have i1 : ¬ (k : Int) < LL := by omega
      go_wp2_with (go_at_call 37; refine qf.out.mono ?_; rintro e w2 ⟨rfl, _, b2, _⟩; replace b2 := hide b2)
      go_ret2
      exact ⟨by rw [hRs.out]; rfl, hB.out.trans b2.out⟩
end Go.Proofs.YtjbalgjdcdmjjaaDoor
/- ==== JMem ==== -/
namespace Go.Proofs.YtjbalgjdcdmjjaaDoor
open Go.RowKit
set_option linter.unusedVariables false
def jCell (t : J) : List Value := [.int .i64 t.kind, .int .i64 t.beg, .int .i64 t.fin, .string ⟨t.text.toArray⟩]
def jCells : List J → List Value
  | [] => []
  | t :: r => jCell t ++ jCells r
theorem jCells_length (ts : List J) : (jCells ts).length = ts.length * 4 := by
  induction ts with
  | nil => rfl
  | cons t r ih => simp [jCells, jCell, ih]; omega
theorem jCells_one (ts : List J) : ∀ u ∈ jCells ts, u.oneCell' = true := by
  induction ts with
  | nil => intro u hu; simp [jCells] at hu
  | cons t r ih =>
    intro u hu
    rcases List.mem_append.1 hu with hu | hu
    · simp [jCell] at hu
      rcases hu with rfl | rfl | rfl | rfl <;> rfl
    · exact ih u hu
theorem jc_at : ∀ (ts : List J) (more : List Value) (k : Nat), k < ts.length → (jCells ts ++ more)[k * 4]? = some (.int .i64 (ts.getD k j0).kind) ∧ (jCells ts ++ more)[k * 4 + 1]? = some (.int .i64 (ts.getD k j0).beg) ∧ (jCells ts ++ more)[k * 4 + 2]? = some (.int .i64 (ts.getD k j0).fin) ∧ (jCells ts ++ more)[k * 4 + 3]? = some (.string ⟨(ts.getD k j0).text.toArray⟩)
  | [], _, _, h => absurd h (Nat.not_lt_zero _)
  | t :: r, more, 0, _ => ⟨rfl, rfl, rfl, rfl⟩
  | t :: r, more, k + 1, h => by
    have ih := jc_at r more k (by simpa using h)
    have e : ∀ i, (jCells (t :: r) ++ more)[(k + 1) * 4 + i]? = (jCells r ++ more)[k * 4 + i]? := by
      intro i
      rw [show (k + 1) * 4 + i = k * 4 + i + 1 + 1 + 1 + 1 from by omega]
      rfl
    have e0 := e 0
    rw [Nat.add_zero, Nat.add_zero] at e0
    rw [e0, e 1, e 2, e 3]
    exact ih
theorem add_plain (b off j : Nat) : (⟨b, off, none⟩ : Addr).add j = ⟨b, off + j, none⟩ := by
  unfold Addr.add
  split <;> simp_all
/-- The cells of the list that came in. -/
theorem JRow.news {w : World} {ad : Addr} {n cap : Nat} {ts : List J} (h : JRow w (.slice (some ad) n cap) ts) : ∀ (j : Nat) u, (jCells ts)[j]? = some u → w.cell? (ad.add j) = some u := by
  intro j u hj
  have hjl : j < ts.length * 4 := by
    rw [← jCells_length]
    exact (List.getElem?_eq_some_iff.1 hj).1
  obtain ⟨b, off, e, c0, c1, c2, c3⟩ := h.at_ (j := j / 4) (by omega)
  cases e
  obtain ⟨d0, d1, d2, d3⟩ := jc_at ts [] (j / 4) (by omega)
  rw [List.append_nil] at d0 d1 d2 d3
  rw [add_plain]
  rcases (by omega : j = j / 4 * 4 ∨ j = j / 4 * 4 + 1 ∨ j = j / 4 * 4 + 2 ∨ j = j / 4 * 4 + 3) with e | e | e | e
  · rw [e] at hj ⊢
    rw [d0] at hj
    rw [← hj]
    exact c0
  · rw [e] at hj ⊢
    rw [d1] at hj
    rw [← hj]
    exact c1
  · rw [e] at hj ⊢
    rw [d2] at hj
    rw [← hj]
    exact c2
  · rw [e] at hj ⊢
    rw [d3] at hj
    rw [← hj]
    exact c3
theorem ownsRow.jrow {w : World} {B g n cap : Nat} {ts : List J} {more : List Value} (h : w.ownsRow B 66 4 (.slice (some ⟨g, 0, none⟩) n cap) n (jCells ts ++ more)) (hn : ts.length ≤ n) : JRow w (.slice (some ⟨g, 0, none⟩) ts.length cap) ts := by
  have hc := (ownsRow_zero h).cells (g := g) rfl
  obtain ⟨hb1, hb2⟩ : n ≤ cap ∧ cap ≤ maxLen := by
    rcases h.2 with ⟨e, _⟩ | ⟨b, cap', cur, e, _, _, h3, h4, _⟩
    · cases e
    · cases e
      exact ⟨h3, h4⟩
  refine ⟨some ⟨g, 0, none⟩, cap, rfl, by omega, by unfold maxLen at hb2; omega, fun _ => ⟨g, 0, rfl, fun j hj => ?_⟩⟩
  obtain ⟨d0, d1, d2, d3⟩ := jc_at ts more j hj
  have f0 := hc _ _ d0
  have f1 := hc _ _ d1
  have f2 := hc _ _ d2
  have f3 := hc _ _ d3
  rw [add_plain] at f0 f1 f2 f3
  rw [Nat.zero_add] at *
  exact ⟨f0, f1, f2, f3⟩
theorem new_cells (w : World) (arr : Array Value) (t : TypeId) : ∀ (j : Nat) u, arr.toList[j]? = some u → (w.alloc (.cells arr t)).cell? ((⟨w.heap.size, 0, none⟩ : Addr).add j) = some u := by
  intro j u h
  rw [add_plain, Nat.zero_add, cell_of_row _ _ j _ _ (0, 0) (heap_alloc_new w (.cells arr t))]
  rwa [Array.getElem?_toList] at h
theorem sl_tok (g N cap n : Nat) (h : n ≤ cap) (W : World) : (Instr.sliceAt 26 (.slice (some ⟨g, 0, none⟩) N cap) none (some (.int .i64 n)) none).run Tryd.prog W = .ok (.slice (some ⟨g, 0, none⟩) n cap) W := by
  have he : Tryd.prog.elem 26 = 66 := by kernel_rfl
  have hu : Tryd.prog.underlying 26 = some (.slice (Tryd.prog.elem 26)) := by rw [he]; exact sliceTok
  have h1 : (0 : Int) ≤ n := by omega
  have h2 : (n : Int) ≤ cap := by omega
  rw [run_sliceAt_slice (h := hu), run_slice_h (ht := hu) (h0 := h1) (h2 := h2), he]
  clear hu he
  go_simp
theorem JRow.drewN {w : World} {v : Value} {ts : List J} (h : JRow w v ts) (n : Nat) : JRow (w.drewN n) v ts := h
end Go.Proofs.YtjbalgjdcdmjjaaDoor
