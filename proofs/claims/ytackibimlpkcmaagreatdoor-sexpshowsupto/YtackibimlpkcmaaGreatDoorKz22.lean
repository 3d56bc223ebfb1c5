/- Laid together of: Join1, Join2. -/
import Derived.Test.YtackibimlpkcmaaGreatDoorKz21
import Derived.Test.YtackibimlpkcmaaGreatDoorKz10
import Derived.Shelf.Strings.BuilderK
/- ==== Join1 ==== -/
namespace Go.Proofs.YtackibimlpkcmaaGreatDoor
open Go.RowKit
set_option linter.unusedVariables false
theorem oneOf_yes {k : Int} {x : List UInt8} {ts : List S.Tok} {e p : Nat} {t : S.Tok} (h : S.run resv .idle x 0 = (ts, e, p)) (h1 : ts = [t]) (h2 : e = 0) (h3 : (t.kind : Int) = k) (h4 : t.text = x) : S.oneOf resv k x = true := by
  unfold S.oneOf
  rw [h, h1, h2]
  simp [h3, h4]
theorem oneOf_err {k : Int} {x : List UInt8} {ts : List S.Tok} {e p : Nat} (h : S.run resv .idle x 0 = (ts, e, p)) (h2 : e ≠ 0) : S.oneOf resv k x = false := by
  unfold S.oneOf
  rw [h]
  simp only
  split
  · omega
  · rfl
theorem oneOf_many {k : Int} {x : List UInt8} {ts : List S.Tok} {e p : Nat} (h : S.run resv .idle x 0 = (ts, e, p)) (h2 : ts.length ≠ 1) : S.oneOf resv k x = false := by
  unfold S.oneOf
  rw [h]
  simp only
  split
  · exact absurd rfl h2
  · rfl
theorem oneOf_not {k : Int} {x : List UInt8} {ts : List S.Tok} {e p : Nat} {t : S.Tok} (h : S.run resv .idle x 0 = (ts, e, p)) (h1 : ts = [t]) (h3 : ¬ ((t.kind : Int) = k ∧ t.text = x)) : S.oneOf resv k x = false := by
  unfold S.oneOf
  rw [h, h1]
  simp only
  split
  · rename_i t' e1
    cases e1
    rw [Bool.eq_false_iff]
    intro hh
    simp at hh
    exact h3 hh
  · rfl
set_option maxRecDepth 100000 in
set_option maxHeartbeats 4000000 in
theorem spelling_calls (w : World) (hc : Cls w) (hm : Mx w) (k a b : Int) (s : ByteArray) (l : List UInt8) (hs : s.data.toList = l) (hl : l.length ≤ 1073741822) :
    Calls Tryz.prog 30 #[.agg #[.int .i64 k, .int .i64 a, .int .i64 b, .string s]] w fun e w' => e = .returned (.tuple #[qv (S.spl resv k l), .int .i64 (qe (S.spl resv k l))]) ∧ Below w.heap.size w w' := by
  have hn := size_of s l hs
  obtain ⟨W0, hW0⟩ : ∃ W, w.alloc (.cells #[.int .i64 k, .int .i64 a, .int .i64 b, .string s] 61) = W := ⟨_, rfl⟩
  have B0 : Hid (Below w.heap.size w W0) := by rw [← hW0]; exact (Below.refl _ w).alloc (Nat.le_refl _) _
  have c0 : Cls W0 := cls_below hc B0.out
  have m0 : Mx W0 := hm.below B0.out
  have A0 : W0.heap[w.heap.size]? = some (.cells #[.int .i64 k, .int .i64 a, .int .i64 b, .string s] 61 (0, 0)) := by rw [← hW0]; exact heap_alloc_new w _
  have z0 : W0.cell? ⟨w.heap.size, 0, none⟩ = some (.int .i64 k) := cell_of_row _ _ 0 _ _ (0, 0) A0
  have z3 : W0.cell? ⟨w.heap.size, 3, none⟩ = some (.string s) := cell_of_row _ _ 3 _ _ (0, 0) A0
  have hz0 : w.heap.size < W0.heap.size := (Array.getElem?_eq_some_iff.1 A0).1
  have q3 := hide (quote_calls W0 c0 s l hs (by omega))
  have q9 := hide (literal_calls W0 c0 m0 s l hs (by omega))
  have q10 := hide (simple_calls W0 c0 s l hs (by omega))
  have qt := hide (tokens_calls W0 c0 s l hs (by omega))
  have m1 : s.size ≤ 1073741824 := by omega
  clear c0 m0
  by_cases h3 : k = 3
  · subst h3
    rw [show S.spl resv 3 l = S.quo resv l from rfl]
    generalize S.quo resv l = o at q3
    unfold qv at q3
    go_enter Tryz.func30, Tryz.ntmps30
    go_wp2_with (go_at_call 39; refine q3.out.mono ?_; rintro e w1 ⟨rfl, b1⟩; replace b1 := hide b1)
    go_ret2
    exact ⟨rfl, B0.out.then_below b1.out⟩
  · have i3 : ¬ k = 3 := h3
    by_cases h9 : k = 9
    · subst h9
      rw [show S.spl resv 9 l = S.lit l from rfl]
      generalize S.lit l = o at q9
      unfold qv at q9
      go_enter Tryz.func30, Tryz.ntmps30
      go_wp2_with (go_at_call 40; refine q9.out.mono ?_; rintro e w1 ⟨rfl, b1⟩; replace b1 := hide b1)
      go_ret2
      exact ⟨rfl, B0.out.then_below b1.out⟩
    · have i9 : ¬ k = 9 := h9
      by_cases h10 : k = 10
      · subst h10
        have e10 : S.spl resv 10 l = if S.smp l then some (58 :: l) else none := rfl
        rw [e10]
        have hs' := hide hs
        cases hsm : S.smp l with
        | true =>
          rw [hsm] at q10
          clear e10 hsm hs hn
          go_enter Tryz.func30, Tryz.ntmps30
          go_wp2_with (go_at_call 41; refine q10.out.mono ?_; rintro e w1 ⟨rfl, rfl⟩)
          go_ret2
          exact ⟨ret_qv (by simp [hs'.out]) rfl, B0.out⟩
        | false =>
          rw [hsm] at q10
          clear e10 hsm hs hn
          go_enter Tryz.func30, Tryz.ntmps30
          go_wp2_with (go_at_call 41; refine q10.out.mono ?_; rintro e w1 ⟨rfl, rfl⟩)
          go_ret2
          exact ⟨ret_qv rfl rfl, B0.out⟩
      · have i10 : ¬ k = 10 := h10
        have eo : S.spl resv k l = if S.oneOf resv k l then some l else none := by
          unfold S.spl
          rw [if_neg h3, if_neg h9, if_neg h10]
        rw [eo]
        obtain ⟨O, hO⟩ : ∃ O, S.run resv .idle l 0 = O := ⟨_, rfl⟩
        rw [hO] at qt
        obtain ⟨ts, e, p⟩ := O
        simp only at qt
        have hs' := hide hs
        have hOh := hide hO
        clear eo hO hs hn q3 q9 q10
        by_cases he : e = 0
        · subst he
          by_cases hts : ts.length = 1
          · obtain ⟨t, rfl⟩ : ∃ t, ts = [t] := List.length_eq_one_iff.1 hts
            by_cases hk : (t.kind : Int) = k
            · by_cases hx : t.text = l
              · have hone := hide (oneOf_yes hOh.out rfl rfl hk hx)
                rw [hone.out]
                have hsx : (⟨t.text.toArray⟩ : ByteArray) = s := bytes_eq (by rw [hs'.out]; exact hx)
                subst hk
                clear hone hx hts
                go_enter Tryz.func30, Tryz.ntmps30
                go_wp2_with (go_at_call 13; refine qt.out.mono ?_; rintro x w1 ⟨v1, rfl, u1, b1⟩; have T1 := ownsRow.trow u1; obtain ⟨a1, cp1, rfl, n1, n1'⟩ := T1.shape; obtain ⟨g1, f1, rfl, x0, x1, x2, x3⟩ := T1.at_ (j := 0) (by simp); simp at x0 x1 x2 x3 n1; rw [hsx] at x3; have y0 := (b1.cell (p := ⟨w.heap.size, 0, none⟩) hz0).trans z0; have y3 := (b1.cell (p := ⟨w.heap.size, 3, none⟩) hz0).trans z3; replace b1 := hide b1; clear u1 T1)
                go_quiet (fail)
                go_wp2
                go_ret2
                exact ⟨ret_qv (by rw [hs'.out]; rfl) rfl, B0.out.then_below (below_drewN b1.out _)⟩
              · have hone := hide (oneOf_not (k := k) hOh.out rfl (fun h => hx h.2))
                rw [hone.out]
                subst hk
                obtain ⟨SX, hSX⟩ : ∃ Y : ByteArray, (⟨t.text.toArray⟩ : ByteArray) = Y := ⟨_, rfl⟩
                have hne : SX ≠ s := by
                  intro e
                  rw [← hSX] at e
                  apply hx
                  have := congrArg (fun z : ByteArray => z.data.toList) e
                  simp only at this
                  rw [hs'.out] at this
                  exact this
                obtain ⟨e1, e2, e3, e4, e5⟩ := str_ne4' hne
                clear hone hx hts hne
                go_enter Tryz.func30, Tryz.ntmps30
                go_wp2_with (go_at_call 13; refine qt.out.mono ?_; rintro x w1 ⟨v1, rfl, u1, b1⟩; have T1 := ownsRow.trow u1; obtain ⟨a1, cp1, rfl, n1, n1'⟩ := T1.shape; obtain ⟨g1, f1, rfl, x0, x1, x2, x3⟩ := T1.at_ (j := 0) (by simp); simp at x0 x1 x2 x3 n1; rw [hSX] at x3; have y0 := (b1.cell (p := ⟨w.heap.size, 0, none⟩) hz0).trans z0; have y3 := (b1.cell (p := ⟨w.heap.size, 3, none⟩) hz0).trans z3; replace b1 := hide b1; clear u1 T1)
                go_quiet (fail)
                go_wp2
                go_ret2
                exact ⟨ret_qv rfl rfl, B0.out.then_below (below_drewN b1.out _)⟩
            · have hone := hide (oneOf_not (k := k) hOh.out rfl (fun h => hk h.1))
              rw [hone.out]
              have hk1 : ((t.kind : Int) == k) = false := by simpa using hk
              clear hone hk hts
              go_enter Tryz.func30, Tryz.ntmps30
              go_wp2_with (go_at_call 13; refine qt.out.mono ?_; rintro x w1 ⟨v1, rfl, u1, b1⟩; have T1 := ownsRow.trow u1; obtain ⟨a1, cp1, rfl, n1, n1'⟩ := T1.shape; obtain ⟨g1, f1, rfl, x0, x1, x2, x3⟩ := T1.at_ (j := 0) (by simp); simp at x0 x1 x2 x3 n1; have y0 := (b1.cell (p := ⟨w.heap.size, 0, none⟩) hz0).trans z0; have y3 := (b1.cell (p := ⟨w.heap.size, 3, none⟩) hz0).trans z3; replace b1 := hide b1; clear u1 T1)
              go_quiet (fail)
              go_wp2
              go_ret2
              exact ⟨ret_qv rfl rfl, B0.out.then_below (below_drewN b1.out _)⟩
          · have hone := hide (oneOf_many (k := k) hOh.out hts)
            rw [hone.out]
            have hts1 : ((ts.length : Int) == 1) = false := by simpa using (show ¬ (ts.length : Int) = 1 by omega)
            clear hone hts
            go_enter Tryz.func30, Tryz.ntmps30
            go_wp2_with (go_at_call 13; refine qt.out.mono ?_; rintro x w1 ⟨v1, rfl, u1, b1⟩; have T1 := ownsRow.trow u1; obtain ⟨a1, cp1, rfl, n1, n1'⟩ := T1.shape; have y0 := (b1.cell (p := ⟨w.heap.size, 0, none⟩) hz0).trans z0; have y3 := (b1.cell (p := ⟨w.heap.size, 3, none⟩) hz0).trans z3; replace b1 := hide b1; clear u1 T1)
            go_quiet (fail)
            go_wp2
            go_ret2
            exact ⟨ret_qv rfl rfl, B0.out.then_below (below_drewN b1.out _)⟩
        · have hone := hide (oneOf_err (k := k) hOh.out he)
          rw [hone.out]
          have he1 : ((e : Int) == 0) = false := by simpa using (show ¬ (e : Int) = 0 by omega)
          clear he hone
          go_enter Tryz.func30, Tryz.ntmps30
          go_wp2_with (go_at_call 13; refine qt.out.mono ?_; rintro x w1 ⟨v1, rfl, u1, b1⟩; obtain ⟨a1, cp1, rfl, n1, n1'⟩ := (ownsRow.trow u1).shape; have y0 := (b1.cell (p := ⟨w.heap.size, 0, none⟩) hz0).trans z0; have y3 := (b1.cell (p := ⟨w.heap.size, 3, none⟩) hz0).trans z3; replace b1 := hide b1; clear u1)
          go_quiet (fail)
          go_wp2
          go_ret2
          exact ⟨ret_qv rfl rfl, B0.out.then_below (below_drewN b1.out _)⟩
end Go.Proofs.YtackibimlpkcmaaGreatDoor
/- ==== Join2 ==== -/
namespace Go.Proofs.YtackibimlpkcmaaGreatDoor
open Go.RowKit Go.Lib
set_option linter.unusedVariables false
def renB : Go.Shelf.Ren := ⟨fun | 167 => 19 | n => Tryz.lays154_ren.f n, Tryz.lays154_ren.t, Tryz.lays154_ren.g⟩
theorem laysB : Lays.n167 Tryz.prog renB := { Tryz.lays154 with f167 := by kernel_rfl, f240 := by kernel_rfl, f276 := by kernel_rfl }
theorem extraB : Builder.Extra Tryz.prog renB := {
  sizeBuilder := by kernel_rfl
  liesBuilder := by kernel_rfl
  t5 := Tryz.underlying5
  a5 := Tryz.isAgg5
  z5 := Tryz.sizeOf5
  v5 := Tryz.zeroValue5
  infoByte := by kernel_rfl
  cellsByte := by kernel_rfl
  sizeByte := by kernel_rfl
  neB5 := by decide }
theorem laysW : Lays.n166 Tryz.prog Tryz.lays154_ren := { Tryz.lays154 with }
theorem writeByte_k (B b : Nat) (bs : List Value) (c : Int) (w : World) (h : Lib.IsBuilderF 46 5 B b bs w) (hlen : bs.length + 1 ≤ 140737488355328) (hBw : B ≤ w.heap.size) :
    Calls Tryz.prog 19 #[.pointer (some ⟨b, 0, none⟩), .int .u8 c] w fun e w' => e = .returned .nilIface ∧ (Lib.BuilderAtF 46 5 B b (.pointer (some ⟨b, 0, none⟩)) (bs ++ [.int .u8 c]) w' ∧ Below B w w' ∧ Lib.OthersKept 5 (some b) w w') :=
  Any.Builder_WriteByte_k laysB extraB B b bs c w h hlen hBw
theorem writeString_k (B b : Nat) (bs : List Value) (s : ByteArray) (w : World) (h : Lib.IsBuilderF 46 5 B b bs w) (hlen : bs.length + s.size ≤ 140737488355328) (hBw : B ≤ w.heap.size) :
    Calls Tryz.prog 18 #[.pointer (some ⟨b, 0, none⟩), .string s] w fun e w' => e = .returned (.tuple #[.int .i64 s.size, .nilIface]) ∧ (Lib.BuilderAtF 46 5 B b (.pointer (some ⟨b, 0, none⟩)) (bs ++ Lib.strCells s) w' ∧ Below B w w' ∧ Lib.OthersKept 5 (some b) w w') :=
  Any.Builder_WriteString_k laysW Tryz.Builder_Extra_154 B b bs s w h hlen hBw
theorem string_k (B b : Nat) (l : List UInt8) (w : World) (h : Lib.IsBuilderF 46 5 B b (Lib.byteCells l) w) (hBw : B ≤ w.heap.size) :
    Calls Tryz.prog 20 #[.pointer (some ⟨b, 0, none⟩)] w fun e w' => e = .returned (.string ⟨l.toArray⟩) ∧ (Lib.IsBuilderF 46 5 B b (Lib.byteCells l) w' ∧ Below B w w' ∧ Lib.OthersKept 5 (some b) w w') :=
  Tryz.Builder_String_any_k B b l w h hBw
/-- A token as it is handed in: any numbers. -/
structure J where
  kind : Int
  beg : Int
  fin : Int
  text : List UInt8
abbrev j0 : J := ⟨0, 0, 0, []⟩
/-- The slice value v holds the tokens ts. -/
def JRow (w : World) (v : Value) (ts : List J) : Prop :=
  ∃ a cap, v = .slice a ts.length cap ∧ ts.length ≤ cap ∧ cap ≤ 9223372036854775807 ∧
    (ts ≠ [] → ∃ b off, a = some ⟨b, off, none⟩ ∧ ∀ j, j < ts.length →
      w.cell? ⟨b, off + j * 4, none⟩ = some (.int .i64 (ts.getD j j0).kind) ∧
      w.cell? ⟨b, off + j * 4 + 1, none⟩ = some (.int .i64 (ts.getD j j0).beg) ∧
      w.cell? ⟨b, off + j * 4 + 2, none⟩ = some (.int .i64 (ts.getD j j0).fin) ∧
      w.cell? ⟨b, off + j * 4 + 3, none⟩ = some (.string ⟨(ts.getD j j0).text.toArray⟩))
theorem JRow.below {w w' : World} {v : Value} {ts : List J} (h : JRow w v ts) (q : Below w.heap.size w w') : JRow w' v ts := by
  obtain ⟨a, cap, rfl, h1, h2, h4⟩ := h
  refine ⟨a, cap, rfl, h1, h2, fun hne => ?_⟩
  obtain ⟨g, off, rfl, hc⟩ := h4 hne
  refine ⟨g, off, rfl, fun j hj => ?_⟩
  obtain ⟨c0, c1, c2, c3⟩ := hc j hj
  have hg : g < w.heap.size := World.block_lt_of_cell? w _ c0
  exact ⟨(q.cell (p := ⟨g, _, none⟩) hg).trans c0, (q.cell (p := ⟨g, _, none⟩) hg).trans c1, (q.cell (p := ⟨g, _, none⟩) hg).trans c2, (q.cell (p := ⟨g, _, none⟩) hg).trans c3⟩
theorem JRow.shape {w : World} {v : Value} {ts : List J} (h : JRow w v ts) : ∃ a cap, v = .slice a ts.length cap ∧ ts.length ≤ cap ∧ cap ≤ 9223372036854775807 := by
  obtain ⟨a, cap, rfl, h1, h2, h4⟩ := h
  exact ⟨a, cap, rfl, h1, h2⟩
theorem JRow.at_ {w : World} {a : Option Addr} {n cap : Nat} {ts : List J} (h : JRow w (.slice a n cap) ts) {j : Nat} (hj : j < ts.length) :
    ∃ b off, a = some ⟨b, off, none⟩ ∧ w.cell? ⟨b, off + j * 4, none⟩ = some (.int .i64 (ts.getD j j0).kind) ∧
      w.cell? ⟨b, off + j * 4 + 1, none⟩ = some (.int .i64 (ts.getD j j0).beg) ∧
      w.cell? ⟨b, off + j * 4 + 2, none⟩ = some (.int .i64 (ts.getD j j0).fin) ∧
      w.cell? ⟨b, off + j * 4 + 3, none⟩ = some (.string ⟨(ts.getD j j0).text.toArray⟩) := by
  obtain ⟨a', cap', e, h1, h2, h4⟩ := h
  cases e
  obtain ⟨b, off, rfl, hc⟩ := h4 (by intro e; rw [e] at hj; simp at hj)
  exact ⟨b, off, rfl, hc j hj⟩
def jk (ts : List J) : List (Int × List UInt8) := ts.map fun t => (t.kind, t.text)
/-- How long it can become. -/
def jtot : List J → Nat
  | [] => 0
  | t :: r => 2 * t.text.length + 3 + jtot r
theorem jtot_append (a b : List J) : jtot (a ++ b) = jtot a + jtot b := by
  induction a with
  | nil => simp [jtot]
  | cons t r ih => simp only [List.cons_append, jtot, ih]; omega
theorem quo_len (l : List UInt8) : ((S.quo resv l).getD []).length ≤ 2 * l.length + 2 := by
  unfold S.quo
  repeat' split
  all_goals simp
  all_goals omega
theorem lit_len (l : List UInt8) : ((S.lit l).getD []).length ≤ 2 * l.length + 2 := by
  unfold S.lit
  have := S.dbl_len l
  split
  all_goals simp
  all_goals omega
theorem spl_len (k : Int) (l : List UInt8) : ((S.spl resv k l).getD []).length ≤ 2 * l.length + 2 := by
  unfold S.spl
  have h1 := quo_len l
  have h2 := lit_len l
  repeat' split
  all_goals first | exact h1 | exact h2 | (simp; done) | (simp; omega)
end Go.Proofs.YtackibimlpkcmaaGreatDoor
