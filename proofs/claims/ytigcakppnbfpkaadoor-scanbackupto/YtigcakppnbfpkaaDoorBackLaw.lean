/-
  The law ScanBack.
-/
import Derived.Test.YtigcakppnbfpkaaDoorJoin3
import Derived.Test.YtigcakppnbfpkaaDoorBackMath
import Derived.Test.YtigcakppnbfpkaaDoorScanStands
namespace Go.Proofs.YtigcakppnbfpkaaDoor
open Go.RowKit
set_option linter.unusedVariables false
def four : List J := [⟨1, 0, 0, [40]⟩, ⟨3, 0, 0, [108, 101, 116]⟩, ⟨9, 0, 0, [97, 34, 98]⟩, ⟨2, 0, 0, [41]⟩]
theorem wr_let : S.wr [108, 101, 116] = true := by
  rw [S.wr_on (by decide) (by decide)]
  show S.wr [101, 116] = true
  rw [S.wr_on (by decide) (by decide)]
  show S.wr [116] = true
  rw [S.wr_on (by decide) (by decide)]
  exact S.wr_nil
theorem wr_aqb : S.wr [97, 34, 98] = true := by
  rw [S.wr_on (by decide) (by decide)]
  show S.wr [34, 98] = true
  rw [S.wr_on (by decide) (by decide)]
  show S.wr [98] = true
  rw [S.wr_on (by decide) (by decide)]
  exact S.wr_nil
theorem jn_four : S.jn resv none (jk four) = some [40, 124, 108, 101, 116, 124, 32, 34, 97, 34, 34, 98, 34, 41] := by
  have h1 : S.spl resv 1 [40] = some [40] := by decide +kernel
  have h2 : S.spl resv 2 [41] = some [41] := by decide +kernel
  have h3 : S.spl resv 3 [108, 101, 116] = some [124, 108, 101, 116, 124] := by
    show S.quo resv [108, 101, 116] = _
    unfold S.quo
    rw [if_neg (by decide +kernel), wr_let, if_pos (by decide)]
    rfl
  have h4 : S.spl resv 9 [97, 34, 98] = some [34, 97, 34, 34, 98, 34] := by
    show S.lit [97, 34, 98] = _
    unfold S.lit
    rw [wr_aqb, if_pos rfl]
    rfl
  show S.jn resv none [(1, [40]), (3, [108, 101, 116]), (9, [97, 34, 98]), (2, [41])] = _
  simp only [S.jn, h1, h2, h3, h4]
  rfl
theorem four_row (w W : World) (h : w.alloc (.cells #[.int .i64 1, .int .i64 0, .int .i64 0, .string ⟨#[40]⟩, .int .i64 3, .int .i64 0, .int .i64 0, .string ⟨#[108, 101, 116]⟩, .int .i64 9, .int .i64 0, .int .i64 0, .string ⟨#[97, 34, 98]⟩, .int .i64 2, .int .i64 0, .int .i64 0, .string ⟨#[41]⟩] 28) = W) :
    JRow W (.slice (some ⟨w.heap.size, 0, none⟩) 4 4) four := by
  have A : W.heap[w.heap.size]? = some (.cells #[.int .i64 1, .int .i64 0, .int .i64 0, .string ⟨#[40]⟩, .int .i64 3, .int .i64 0, .int .i64 0, .string ⟨#[108, 101, 116]⟩, .int .i64 9, .int .i64 0, .int .i64 0, .string ⟨#[97, 34, 98]⟩, .int .i64 2, .int .i64 0, .int .i64 0, .string ⟨#[41]⟩] 28 (0, 0)) := by rw [← h]; exact heap_alloc_new w _
  refine ⟨some ⟨w.heap.size, 0, none⟩, 4, rfl, Nat.le_refl _, by decide, fun _ => ⟨w.heap.size, 0, rfl, fun j hj => ?_⟩⟩
  have hj' : j < 4 := hj
  rcases (by omega : j = 0 ∨ j = 1 ∨ j = 2 ∨ j = 3) with rfl | rfl | rfl | rfl
  · exact ⟨cell_of_row _ _ 0 _ _ (0, 0) A, cell_of_row _ _ 1 _ _ (0, 0) A, cell_of_row _ _ 2 _ _ (0, 0) A, cell_of_row _ _ 3 _ _ (0, 0) A⟩
  · exact ⟨cell_of_row _ _ 4 _ _ (0, 0) A, cell_of_row _ _ 5 _ _ (0, 0) A, cell_of_row _ _ 6 _ _ (0, 0) A, cell_of_row _ _ 7 _ _ (0, 0) A⟩
  · exact ⟨cell_of_row _ _ 8 _ _ (0, 0) A, cell_of_row _ _ 9 _ _ (0, 0) A, cell_of_row _ _ 10 _ _ (0, 0) A, cell_of_row _ _ 11 _ _ (0, 0) A⟩
  · exact ⟨cell_of_row _ _ 12 _ _ (0, 0) A, cell_of_row _ _ 13 _ _ (0, 0) A, cell_of_row _ _ 14 _ _ (0, 0) A, cell_of_row _ _ 15 _ _ (0, 0) A⟩
theorem map_at {ms : List S.Tok} {ts : List J} (h : ms.map (fun t => ((t.kind : Int), t.text)) = jk ts) {k : Nat} (hk : k < ts.length) : ((ms.getD k tk0).kind : Int) = (ts.getD k j0).kind ∧ (ms.getD k tk0).text = (ts.getD k j0).text := by
  have hl : ms.length = ts.length := by
    have := congrArg List.length h
    simpa [jk] using this
  have := congrArg (fun z => z[k]?) h
  simp only [jk, List.getElem?_map] at this
  rw [List.getElem?_eq_getElem (by omega), List.getElem?_eq_getElem hk] at this
  simp only [Option.map_some, Option.some.injEq, Prod.mk.injEq] at this
  rw [List.getD_eq_getElem?_getD, List.getD_eq_getElem?_getD, List.getElem?_eq_getElem (by omega), List.getElem?_eq_getElem hk]
  exact this
theorem jn_len : ∀ (ts : List J) (p : Option Int) (s : List UInt8), S.jn resv p (jk ts) = some s → s.length ≤ jtot ts
  | [], p, s, h => by
    have : s = [] := by
      have h : some [] = some s := h
      exact (Option.some.inj h).symm
    subst this
    exact Nat.zero_le _
  | t :: r, p, s, h => by
    have h : S.jn resv p ((t.kind, t.text) :: jk r) = some s := h
    rw [S.jn] at h
    have hsl := spl_len t.kind t.text
    cases hs : S.spl resv t.kind t.text with
    | none => rw [hs] at h; cases h
    | some a =>
      rw [hs] at h hsl
      simp only at h
      cases hj : S.jn resv (some t.kind) (jk r) with
      | none => rw [hj] at h; cases h
      | some u =>
        rw [hj] at h
        have h := (Option.some.inj h).symm
        have ih := jn_len r _ u hj
        have hsep : (S.sep p t.kind).length ≤ 1 := by
          unfold S.sep
          cases p with
          | none => simp
          | some q => simp only; split <;> simp
        have hsl : a.length ≤ 2 * t.text.length + 2 := hsl
        rw [h]
        simp only [List.length_append, jtot]
        omega
theorem join_four (w W : World) (hc : Cls w) (hm : Mx w) (h : w.alloc (.cells #[.int .i64 1, .int .i64 0, .int .i64 0, .string ⟨#[40]⟩, .int .i64 3, .int .i64 0, .int .i64 0, .string ⟨#[108, 101, 116]⟩, .int .i64 9, .int .i64 0, .int .i64 0, .string ⟨#[97, 34, 98]⟩, .int .i64 2, .int .i64 0, .int .i64 0, .string ⟨#[41]⟩] 28) = W) :
    (Calls Tryd.prog 7 #[.slice (some ⟨w.heap.size, 0, none⟩) 4 4] W fun e w' => e = .returned (.tuple #[.string ⟨#[40, 124, 108, 101, 116, 124, 32, 34, 97, 34, 34, 98, 34, 41]⟩, .int .i64 0]) ∧ Below W.heap.size W w') ∧ Below w.heap.size w W := by
  have b : Below w.heap.size w W := by rw [← h]; exact (Below.refl _ w).alloc (Nat.le_refl _) _
  have q := join_calls W (cls_below hc b) (hm.below b) _ four (four_row w W h) (by decide)
  rw [jn_four] at q
  exact ⟨q, b⟩
set_option maxRecDepth 100000 in
set_option maxHeartbeats 4000000 in
theorem scanBack_calls (w : World) (hc : Cls w) (hm : Mx w) (v : Value) (ts : List J) (hv : JRow w v ts) (hl : jtot ts ≤ 268435456) :
    Calls Tryd.prog 3 #[v] w fun e w' => e = .returned (.bool true) ∧ Below w.heap.size w w' := by
  have q0 := hide (live_calls w hc)
  have qj := hide (fun W (h : Cls W) (h' : Mx W) (h'' : JRow W v ts) => join_calls W h h' v ts h'' (by omega))
  have hlen := hide (fun s (h : S.jn resv none (jk ts) = some s) => jn_len ts none s h)
  have hrd := hide (fun s (h : S.jn resv none (jk ts) = some s) => S.jn_read resv (jk ts) none s 0 h)
  obtain ⟨R, hR⟩ : ∃ R, S.jn resv none (jk ts) = R := ⟨_, rfl⟩
  rw [hR] at qj hlen hrd
  obtain ⟨LL, hLL⟩ : ∃ n, ts.length = n := ⟨_, rfl⟩
  obtain ⟨a1, cp1, rfl, n1, n1'⟩ := hv.shape
  have t1 := hide hv
  rw [hLL] at n1 t1 qj ⊢
  have hLh := hide hLL
  have hcH := hide hc
  have hmH := hide hm
  clear hv hLL hR hc hm
  cases R with
  | none =>
    have qn : Hid (∀ W, Cls W → Mx W → JRow W (.slice a1 LL cp1) ts → Calls Tryd.prog 7 #[.slice a1 LL cp1] W fun e w' => e = .returned (.tuple #[.string ⟨#[]⟩, .int .i64 17]) ∧ Below W.heap.size W w') := qj
    clear qj hlen hrd
    go_enter Tryd.func3, Tryd.ntmps3
    go_wp2_with (first
      | (go_at_call 6; refine q0.out.mono ?_; rintro e w0 ⟨rfl, b0⟩; obtain ⟨W1, hW1⟩ : ∃ W, w0.alloc (.cells #[.int .i64 1, .int .i64 0, .int .i64 0, .string ⟨#[40]⟩, .int .i64 3, .int .i64 0, .int .i64 0, .string ⟨#[108, 101, 116]⟩, .int .i64 9, .int .i64 0, .int .i64 0, .string ⟨#[97, 34, 98]⟩, .int .i64 2, .int .i64 0, .int .i64 0, .string ⟨#[41]⟩] 28) = W := ⟨_, rfl⟩; obtain ⟨qf, bf⟩ := join_four w0 W1 (cls_below hcH.out b0) (hmH.out.below b0) hW1; have B1 := hide (b0.then_below bf); replace qf := hide qf; clear b0 bf q0)
      | (have y := qf; clear y; go_at_call 7; refine qf.out.mono ?_; rintro e w2 ⟨rfl, b2⟩; have B2 := hide (B1.out.then_below b2); have q3 := hide (qn.out w2 (cls_below hcH.out B2.out) (hmH.out.below B2.out) (t1.out.below B2.out)); clear b2 qf qn)
      | (have y := q3; clear y; go_at_call 7; refine q3.out.mono ?_; rintro e w3 ⟨rfl, b3⟩; replace b3 := hide b3; clear q3))
    go_ret
    exact ⟨rfl, B2.out.then_below b3.out⟩
  | some s =>
    obtain ⟨ms, hms, hmap⟩ := hrd.out s rfl
    have hsl := hlen.out s rfl
    have hml : ms.length = ts.length := by
      have := congrArg List.length hmap
      simpa [jk] using this
    obtain ⟨S2, hS2⟩ : ∃ s' : ByteArray, (⟨s.toArray⟩ : ByteArray) = s' := ⟨_, rfl⟩
    have hS2l : S2.data.toList = s := by rw [← hS2]
    have qn : ∀ W, Cls W → Mx W → JRow W (.slice a1 LL cp1) ts → Calls Tryd.prog 7 #[.slice a1 LL cp1] W fun e w' => e = .returned (.tuple #[.string ⟨s.toArray⟩, .int .i64 0]) ∧ Below W.heap.size W w' := qj.out
    rw [hS2] at qn
    replace qn := hide qn
    have qt := fun W (h : Cls W) => tokens_calls W h S2 s hS2l (by omega)
    rw [hms] at qt
    simp only at qt
    replace qt := hide qt
    rw [hLh.out] at hml
    have hmapH := hide hmap
    have hmlH := hide hml
    clear qj hlen hrd hms hmap hS2 hS2l hsl hml
    go_enter Tryd.func3, Tryd.ntmps3
    go_wp2_with (first
      | (go_at_call 6; refine q0.out.mono ?_; rintro e w0 ⟨rfl, b0⟩; obtain ⟨W1, hW1⟩ : ∃ W, w0.alloc (.cells #[.int .i64 1, .int .i64 0, .int .i64 0, .string ⟨#[40]⟩, .int .i64 3, .int .i64 0, .int .i64 0, .string ⟨#[108, 101, 116]⟩, .int .i64 9, .int .i64 0, .int .i64 0, .string ⟨#[97, 34, 98]⟩, .int .i64 2, .int .i64 0, .int .i64 0, .string ⟨#[41]⟩] 28) = W := ⟨_, rfl⟩; obtain ⟨qf, bf⟩ := join_four w0 W1 (cls_below hcH.out b0) (hmH.out.below b0) hW1; have B1 := hide (b0.then_below bf); replace qf := hide qf; clear b0 bf q0)
      | (have y := qf; clear y; go_at_call 7; refine qf.out.mono ?_; rintro e w2 ⟨rfl, b2⟩; have B2 := hide (B1.out.then_below b2); have q3 := hide (qn.out w2 (cls_below hcH.out B2.out) (hmH.out.below B2.out) (t1.out.below B2.out)); clear b2 qf qn)
      | (have y := q3; clear y; go_at_call 7; refine q3.out.mono ?_; rintro e w3 ⟨rfl, b3⟩; have B3 := hide (B2.out.then_below b3); have q4 := hide (qt.out w3 (cls_below hcH.out B3.out)); clear b3 q3 qt)
      | (go_at_call 8; refine q4.out.mono ?_; rintro x w4 ⟨v4, rfl, u4, b4⟩; have T4 := hide (ownsRow.trow u4); obtain ⟨a4, cp4, rfl, n4, n4'⟩ := T4.out.shape; rw [hmlH.out] at T4 n4 ⊢; have B4 := hide (B3.out.then_below b4); clear u4 b4 q4))
    go_loopw [10] (fun j wr => ∃ k : Nat, k ≤ LL ∧ j = .int .i64 k ∧ Hid (Below w4.heap.size w4 wr)) (fun j _ => LL - (intOf j).toNat)
    case atStart => exact ⟨0, Nat.zero_le _, rfl, Below.refl _ _⟩
    case round =>
      obtain ⟨k, hk, rfl, hB⟩ := hrel
      by_cases hlt : k < LL
      · have hkl : k < ts.length := by rw [hLh.out]; exact hlt
        have X1 := (t1.out.below B4.out).below hB.out
        have X2 := T4.out.below hB.out
        obtain ⟨g1, f1, rfl, x0, x1, x2, x3⟩ := X1.at_ (j := k) hkl
        obtain ⟨g2, f2, rfl, y0, y1, y2, y3⟩ := X2.at_ (j := k) (by rw [hmlH.out]; exact hlt)
        obtain ⟨m1, m2⟩ := map_at hmapH.out hkl
        rw [m1] at y0
        rw [m2] at y3
        generalize ts.getD k j0 = t at x0 x1 x2 x3 y0 y3
        have i1 : (k : Int) < LL := by omega
        clear X1 X2 m1 m2 y1 y2 x1 x2
        go_wp2
        go_quiet (fail)
        go_wp2
        go_roundw
        case rel => exact ⟨k + 1, by omega, by go_num, below_drewN hB.out _⟩
        case measure => simp [intOf]; omega
      · have i1 : ¬ (k : Int) < LL := by omega
        go_wp2
        go_ret
        exact ⟨rfl, B4.out.then_below hB.out⟩
end Go.Proofs.YtigcakppnbfpkaaDoor
