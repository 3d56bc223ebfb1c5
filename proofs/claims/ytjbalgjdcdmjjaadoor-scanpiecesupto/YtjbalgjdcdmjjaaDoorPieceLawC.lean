/-
  The law ScanPieces.
-/
import Derived.Test.YtjbalgjdcdmjjaaDoorPieceAll
import Derived.Deep.RegionHeld3
import Derived.Deep.DeepCutAuto
/- ==== PieceLaw ==== -/
namespace Go.Proofs.YtjbalgjdcdmjjaaDoor
open Go.RowKit
set_option linter.unusedVariables false
theorem cat_data (a b : ByteArray) : (a ++ b).data.toList = a.data.toList ++ b.data.toList := by simp
theorem size_list (s : ByteArray) : s.size = s.data.toList.length := by simp
/-- What is to be fed in all, as far as it has been put together. -/
def FullAt (w wr : World) (ps : List Pc) (i : Nat) : Prop :=
  ∃ f0 f1 : ByteArray, f0.data.toList = catP false (ps.take i) ∧ f1.data.toList = catP true (ps.take i) ∧ wr.heap[w.heap.size]? = some (.cells #[.string f0, .string f1] 23 (0, 0)) ∧ Below w.heap.size w wr
/-- How the second loop stands behind i pieces. -/
def LS (w wr : World) (ps : List Pc) (bW ga gb : Nat) (F0 F1 : ByteArray) (v0 v1 : Value) (ts0 ts1 : List S.Tok) (hv : Value) (i : Nat) : Prop :=
  ∃ (t0 t1 : ByteArray) (T0 T1 : Nat) (es : List HE) (ta tb : Value), es.length = i ∧ t0.data.toList = catP false (ps.take i) ∧ t1.data.toList = catP true (ps.take i) ∧ T0 = (S.feed resv .idle (catP false (ps.take i)) 0).1.length ∧ T1 = (S.feed resv .idle (catP true (ps.take i)) 0).1.length ∧
    PS w wr bW ga gb F0 F1 t0 t1 T0 T1 v0 v1 ts0 ts1 hv es ta tb (catP false (ps.take i)) (catP true (ps.take i))
set_option maxRecDepth 100000 in
set_option maxHeartbeats 16000000 in
theorem scanPieces_calls (w : World) (hc : Cls w) (hr : Rsv w) (v : Value) (ps : List Pc) (h : PRow w v ps) (hbk : pcw ps + ps.length ≤ 1048576) :
    Calls Tryd.prog 3 #[v] w fun e w' => e = .returned (.bool true) ∧ Below w.heap.size w w' := by
  obtain ⟨j0, hi0, hz0, hz1, hz2⟩ := info_parts infoHeld
  have hcH := hide hc
  have hrH := hide hr
  have hcl := hc.lt
  obtain ⟨va, vc, rfl, n1, n2⟩ := h.shape
  obtain ⟨N, hN⟩ : ∃ N, ps.length = N := ⟨_, rfl⟩
  have len : Hid (∀ b i, (catP b (ps.take i)).length ≤ 1048576 ∧ (catP b ps).length ≤ 1048576) := fun b i => by
    have h1 := catP_le b ps
    have h2 := (catP_take b ps i).2
    omega
  have tsz : Hid (∀ i, i < N → (ps.getD i Pc.z).text.size ≤ 1048576) := fun i hi => by
    rw [← hN] at hi
    have h1 := catP_next (ps.getD i Pc.z).sec ps i hi
    have h2 := (len.out (ps.getD i Pc.z).sec (i + 1)).1
    rw [h1, if_pos rfl, List.length_append, ← size_list] at h2
    omega
  rw [hN] at n1 hbk h ⊢
  have hN1 : N ≤ 1048576 := by omega
  have hNh := hide hN
  have hP := hide h
  have X0 : Hid (FullAt w (w.alloc (.cells #[.string ⟨#[]⟩, .string ⟨#[]⟩] 23)) ps 0) := ⟨⟨#[]⟩, ⟨#[]⟩, by rw [List.take_zero]; rfl, by rw [List.take_zero]; rfl, heap_alloc_new w _, (Below.refl _ w).alloc (Nat.le_refl _) _⟩
  clear hc hr h hN hbk
  go_enter Tryd.func3, Tryd.ntmps3
  go_wp2
  go_loopw [4] (fun j wr => ∃ i : Nat, i ≤ N ∧ j = .int .i64 i ∧ Hid (FullAt w wr ps i)) (fun j _ => N - (intOf j).toNat)
  case atStart => exact ⟨0, Nat.zero_le _, rfl, X0⟩
  case round =>
    clear X0
    obtain ⟨i, hi, rfl, hF⟩ := hrel
    by_cases hlt : i < N
    · obtain ⟨f0, f1, e0, e1, X, hB⟩ := hF.out
      obtain ⟨b, off, rfl, c0, c1⟩ := (hP.out.below hB).at_ (j := i) (by rw [hNh.out]; exact hlt)
      have cn := fun b => catP_next b ps i (by rw [hNh.out]; exact hlt)
      have tz := tsz.out i hlt
      have z0 : f0.size ≤ 1048576 := by rw [size_list, e0]; exact (len.out false i).1
      have z1 : f1.size ≤ 1048576 := by rw [size_list, e1]; exact (len.out true i).1
      generalize ps.getD i Pc.z = x at c0 c1 cn tz
      obtain ⟨sec, tx⟩ := x
      simp only at c0 c1 cn tz
      have y0 : wr.cell? ⟨w.heap.size, 0, none⟩ = some (.string f0) := by rw [cell_of_row wr _ _ _ _ (0, 0) X]; rfl
      have y1 : wr.cell? ⟨w.heap.size, 1, none⟩ = some (.string f1) := by rw [cell_of_row wr _ _ _ _ (0, 0) X]; rfl
      have fz := fun j => frozen_of_row wr w.heap.size j _ _ X
      have i1 : (i : Int) < N := by omega
      have nx : ∀ (k : Nat) (g0 g1 : ByteArray), g0.data.toList = catP false (ps.take (i + 1)) → g1.data.toList = catP true (ps.take (i + 1)) → (#[.string f0, .string f1] : Array Value).setIfInBounds k (if k = 0 then .string g0 else .string g1) = #[.string g0, .string g1] → FullAt w (wr.setCell ⟨w.heap.size, k, none⟩ (if k = 0 then .string g0 else .string g1)).drew ps (i + 1) := fun k g0 g1 a b e =>
        ⟨g0, g1, a, b, by show (wr.setCell ⟨w.heap.size, k, none⟩ _).heap[w.heap.size]? = _; rw [heap_setCell_same wr _ k _ _ _ X, e], (hB.setCell (Nat.le_refl _) _).drew⟩
      have r0 : sec = false → Hid (FullAt w (wr.setCell ⟨w.heap.size, 0, none⟩ (.string (f0 ++ tx))).drew ps (i + 1)) := fun hs => nx 0 (f0 ++ tx) f1 (by rw [cn, cat_data, e0, if_pos hs]) (by rw [cn, e1, if_neg (by rw [hs]; decide), List.append_nil]) rfl
      have r1 : sec = true → Hid (FullAt w (wr.setCell ⟨w.heap.size, 1, none⟩ (.string (f1 ++ tx))).drew ps (i + 1)) := fun hs => nx 1 f0 (f1 ++ tx) (by rw [cn, e0, if_neg (by rw [hs]; decide), List.append_nil]) (by rw [cn, cat_data, e1, if_pos hs]) rfl
      clear e0 e1 X hB hF cn nx
      cases sec
      · replace r0 := r0 rfl
        clear r1
        go_wp2_with fail
        go_region
        go_wp2
        go_roundw
        case rel => exact ⟨i + 1, by omega, by go_num, r0⟩
        case measure => simp [intOf]; omega
      · replace r1 := r1 rfl
        clear r0
        go_wp2_with fail
        go_region
        go_wp2
        go_roundw
        case rel => exact ⟨i + 1, by omega, by go_num, r1⟩
        case measure => simp [intOf]; omega
    · obtain rfl : N = i := by omega
      obtain ⟨F0, F1, e0, e1, X, hB⟩ := hF.out
      have hps : ps.take N = ps := List.take_of_length_le (by rw [hNh.out]; exact Nat.le_refl _)
      rw [hps] at e0 e1
      have y0 : wr.cell? ⟨w.heap.size, 0, none⟩ = some (.string F0) := by rw [cell_of_row wr _ _ _ _ (0, 0) X]; rfl
      have y1 : wr.cell? ⟨w.heap.size, 1, none⟩ = some (.string F1) := by rw [cell_of_row wr _ _ _ _ (0, 0) X]; rfl
      have i1 : ¬ (N : Int) < N := by omega
      have q0 := hide (fun W (q : Below w.heap.size w W) => rtokens_calls W (hrH.out.below q) F0 _ e0 (by have := (len.out false 0).2; omega))
      have q1 := hide (fun W (q : Below w.heap.size w W) => rtokens_calls W (hrH.out.below q) F1 _ e1 (by have := (len.out true 0).2; omega))
      have hX := hide X
      have hBr := hide hB
      have zr := hB.size
      have zX := (Array.getElem?_eq_some_iff.1 X).1
      have e0' := hide e0
      have e1' := hide e1
      clear X hB hF e0 e1
      go_wp2_with fail
      refine (q0.out wr hBr.out).mono ?_
      rintro x w1 ⟨v0, rfl, u0, b1⟩
      have z1 := b1.size
      have B1 := hide (hBr.out.then_below b1)
      have X1 := hide ((b1.block _ zX).trans hX.out)
      replace y1 := (b1.cell (p := ⟨w.heap.size, 1, none⟩) zX).trans y1
      have W0 := hide ((Mine.own u0).base zr)
      clear q0 hBr hX b1 u0 y0
      go_wp2_with fail
      refine (q1.out w1 B1.out).mono ?_
      rintro x w2 ⟨v1, rfl, u1, b2⟩
      have z2 := b2.size
      have B2 := hide (B1.out.then_below b2)
      have X2 := hide ((b2.block _ (by omega)).trans X1.out)
      have W1 := hide ((Mine.own u1).base (by omega : w.heap.size ≤ w1.heap.size))
      replace W0 := hide (W0.out.below b2)
      clear q1 B1 X1 b2 u1 y1
      go_wp2_with fail
      refine (scn_new w2 w.heap.size (hcH.out.below B2.out) (by omega)).mono ?_
      rintro x w3 ⟨ga, rfl, Sa, b3, la⟩
      have z3 := b3.size
      have B3 := hide (B2.out.then_below b3)
      have X3 := hide ((b3.block _ (by omega)).trans X2.out)
      replace W0 := hide (W0.out.below b3)
      replace W1 := hide (W1.out.below b3)
      replace Sa := hide Sa
      have lga : ga < w3.heap.size := by obtain ⟨c, acc, q, -⟩ := Sa.out.st; exact q.lt
      clear B2 X2 b3
      go_wp2_with fail
      refine (scn_new w3 w.heap.size (hcH.out.below B3.out) (by omega)).mono ?_
      rintro x w4 ⟨gb, rfl, Sb, b4, lb⟩
      have z4 := b4.size
      have B4 := hide (B3.out.then_below b4)
      have X4 := hide ((b4.block _ (by omega)).trans X3.out)
      replace W0 := hide (W0.out.below b4)
      replace W1 := hide (W1.out.below b4)
      have TW := hide (show Two w4 w.heap.size ga gb (.slice none 0 0) (.slice none 0 0) [] [] from ⟨Sa.out.below b4, Sb, by omega, fun k e => by simp [Value.ownBlock] at e⟩)
      obtain ⟨ts0, hts0⟩ : ∃ t, (S.run resv .idle (catP false ps) 0).1 = t := ⟨_, rfl⟩
      obtain ⟨ts1, hts1⟩ : ∃ t, (S.run resv .idle (catP true ps) 0).1 = t := ⟨_, rfl⟩
      rw [hts0] at W0
      rw [hts1] at W1
      have L0 : Hid (LS w (w4.alloc (.cells #[.string ⟨#[]⟩, .int .i64 0, .string ⟨#[]⟩, .int .i64 0] 33)) ps w4.heap.size ga gb F0 F1 v0 v1 ts0 ts1 (.slice none 0 0) 0) := by
        have ab := (Below.refl w4.heap.size w4).alloc (Nat.le_refl _) (.cells #[.string ⟨#[]⟩, .int .i64 0, .string ⟨#[]⟩, .int .i64 0] 33)
        refine ⟨⟨#[]⟩, ⟨#[]⟩, 0, 0, [], .slice none 0 0, .slice none 0 0, rfl, by rw [List.take_zero]; rfl, by rw [List.take_zero]; rfl, by rw [List.take_zero]; rfl, by rw [List.take_zero]; rfl, ?_⟩
        exact ⟨B4.out.then_below ab, (ab.block _ (by omega)).trans X4.out, heap_alloc_new w4 _, by omega, W0.out.below ab, W1.out.below ab, by rw [List.take_zero]; exact TW.out.below ab, ⟨Mine.own (World.ownsRow_nil _ _ _ _), fun e he => by cases he⟩⟩
      have hts0' := hide hts0
      have hts1' := hide hts1
      have bW0 : w.heap.size ≤ w4.heap.size := by omega
      clear hps B3 B4 X3 X4 W0 W1 Sa Sb b4 TW hts0 hts1 lga la lb
      go_wp2_with fail
      generalize w4.heap.size = bW at L0 bW0 ⊢
      go_loopw [15, 16] (fun u j wx => ∃ i : Nat, i ≤ N ∧ j = .int .i64 i ∧ ∃ hv, hv = u ∧ Hid (LS w wx ps bW ga gb F0 F1 v0 v1 ts0 ts1 hv i)) (fun _ j _ => N - (intOf j).toNat)
      case atStart => exact ⟨0, Nat.zero_le _, rfl, _, rfl, L0⟩
      case round =>
        clear L0
        obtain ⟨i, hi, rfl, hv, hu, hL⟩ := hrel
        subst hu
        by_cases hlt : i < N
        · obtain ⟨t0, t1, T0, T1, es, ta, tb, hes, et0, et1, eT0, eT1, P⟩ := hL.out
          replace hes := hide hes
          replace et0 := hide et0
          replace et1 := hide et1
          replace eT0 := hide eT0
          replace eT1 := hide eT1
          replace P := hide P
          obtain ⟨b, off, rfl, c0, c1⟩ := (hP.out.below P.out.bel).at_ (j := i) (by rw [hNh.out]; exact hlt)
          have cn2 := hide (fun b => catP_next b ps i (by rw [hNh.out]; exact hlt))
          have tz := tsz.out i hlt
          have z0 : t0.size ≤ 1048576 := by rw [size_list, et0.out]; exact (len.out false i).1
          have z1 : t1.size ≤ 1048576 := by rw [size_list, et1.out]; exact (len.out true i).1
          obtain ⟨x, hx⟩ : ∃ x, ps.getD i Pc.z = x := ⟨_, rfl⟩
          rw [hx] at c0 c1 cn2 tz
          replace hx := hide hx
          obtain ⟨sec, tx⟩ := x
          simp only at c0 c1 cn2 tz
          have i2 : (i : Int) < N := by omega
          clear hL
          cases sec
          · replace cn := cn2.out
            have cnk := cn false
            have cno := cn true
            rw [if_pos rfl] at cnk
            rw [if_neg (by decide), List.append_nil] at cno
            replace cnk := hide cnk
            replace cno := hide cno
            have hlen : (catP false (ps.take i) ++ tx.data.toList).length ≤ 1073741824 := by rw [← cnk.out]; have := (len.out false (i + 1)).1; omega
            clear cn cn2
            go_wp2_with fail
            refine (scn_feed wr w.heap.size ga ta _ P.out.two.a P.out.bel.size tx tx.data.toList rfl hlen).mono ?_
            rintro x x1 ⟨v, tv', D, rfl, eD, TT, SA⟩
            rw [← cnk.out] at eD SA
            obtain ⟨Q1, fr⟩ := P.out.fedA hcl TT SA
            have M1 := TT.row
            obtain ⟨av, cv, rfl, -, -⟩ := TT.trow.shape
            obtain ⟨R, s1, s2, s3⟩ := certain_of false ps (i + 1)
            rw [eD, hts0'.out] at s1
            rw [eD] at s2
            have eT' : (S.feed resv .idle (catP false (ps.take (i + 1))) 0).1.length = T0 + D.length := by rw [eD, List.length_append, eT0.out]
            replace eT' := hide eT'
            have bD : D.length ≤ 1073741824 ∧ T0 ≤ 1073741824 := by
              have h1 := feed_few (catP false (ps.take (i + 1))) .idle 0
              have h2 := (len.out false (i + 1)).1
              rw [eT'.out] at h1
              omega
            obtain ⟨bD1, bD2⟩ := bD
            have q29 : Hid (∀ W : World, Mine 66 4 W w.heap.size (.slice av D.length cv) D.length (tksCells D) → Mine 66 4 W w.heap.size v0 ts0.length (tksCells ts0) → Calls Tryd.prog 8 #[.agg #[.string (t0 ++ tx), .int .i64 T0], .slice av D.length cv, v0, .string F0] W fun e w' => e = .returned (.bool true) ∧ Below W.heap.size W w') := fun W m1 m2 => by
              have r2 := m2.trow
              rw [s1] at r2
              rw [eT0.out]
              refine fed_calls W (t0 ++ tx) (catP false (ps.take (i + 1))) (by rw [cat_data, et0.out]; exact cnk.out.symm) F0 (catP false ps) e0'.out (by have := (len.out false 0).2; omega) (by have := (len.out false (i + 1)).1; omega) _ _ _ D R m1.trow r2 s2 s3 (fun t ht => ?_) ?_
              · rw [← s1, ← hts0'.out] at ht
                exact run_within _ t ht
              · rw [← s1, ← hts0'.out]
                have := run_many (catP false ps)
                have := (len.out false 0).2
                omega
            obtain ⟨K, hK⟩ : ∃ K, D.length = K := ⟨_, rfl⟩
            rw [hK] at bD1 q29 eT' M1 ⊢
            obtain ⟨b', off', eb, -, c1'⟩ := (hP.out.below Q1.bel).at_ (j := i) (by rw [hNh.out]; exact hlt)
            cases eb
            rw [hx.out] at c1'
            simp only at c1'
            have yw := hide Q1.walk
            have y0 : x1.cell? ⟨bW, 0, none⟩ = some (.string t0) := by rw [cell_of_row x1 _ _ _ _ (0, 0) yw.out]; rfl
            have fz := fun j => frozen_of_row x1 bW j _ _ yw.out
            have nw : ∀ T, 33 ≠ T → NotOf T x1 [some bW] := fun T hT => NotOf.one Q1.walk hT
            have M2 := hide (M1.keepT (Ch.set (V := some bW) ⟨rfl, rfl, rfl, Nat.le_refl _, fun _ _ _ => rfl⟩ rfl 0 (.string (t0 ++ tx))) (nw _ (by decide)))
            have Q2 := hide (Q1.setW hcl 0 (.string (t0 ++ tx)) rfl).drew
            replace fr := hide fr
            have M2' := hide (M2.out.below (Below.refl _ _).drew)
            clear M1 Q1 nw TT SA s1 s2 s3 eD c0 c1 P M2
            go_wp2_with fail
            go_region
            generalize (x1.setCell ⟨bW, 0, none⟩ (.string (t0 ++ tx))).drew = x2 at Q2 M2' ⊢
            clear y0 fz c1'
            have y0 : x2.cell? ⟨bW, 0, none⟩ = some (.string (t0 ++ tx)) := by rw [cell_of_row x2 _ _ _ _ (0, 0) Q2.out.walk]; rfl
            have y1 : x2.cell? ⟨bW, 1, none⟩ = some (.int .i64 T0) := by rw [cell_of_row x2 _ _ _ _ (0, 0) Q2.out.walk]; rfl
            have y2 : x2.cell? ⟨w.heap.size, 0, none⟩ = some (.string F0) := by rw [cell_of_row x2 _ _ _ _ (0, 0) Q2.out.full]; rfl
            have g0 : bW < x2.heap.size := (Array.getElem?_eq_some_iff.1 Q2.out.walk).1
            have g1 : w.heap.size < x2.heap.size := (Array.getElem?_eq_some_iff.1 Q2.out.full).1
            have KS : ∀ {W : World}, Below x2.heap.size x2 W → W.cell? ⟨bW, 0, none⟩ = some (.string (t0 ++ tx)) ∧ W.cell? ⟨bW, 1, none⟩ = some (.int .i64 T0) ∧ W.cell? ⟨w.heap.size, 0, none⟩ = some (.string F0) := fun q => ⟨(q.cell (p := ⟨bW, _, none⟩) g0).trans y0, (q.cell (p := ⟨bW, _, none⟩) g0).trans y1, (q.cell (p := ⟨w.heap.size, _, none⟩) g1).trans y2⟩
            have KD : Below x2.heap.size x2 x2.drew := (Below.refl _ x2).drew
            have q3 := hide (q29.out x2.drew (M2'.out.below KD) (Q2.out.w0.below KD))
            go_wp2_with fail
            go_region_held3 (fun W => W.cell? ⟨bW, 0, none⟩ = some (.string (t0 ++ tx)) ∧ W.cell? ⟨bW, 1, none⟩ = some (.int .i64 T0) ∧ W.cell? ⟨w.heap.size, 0, none⟩ = some (.string F0))
              (first
                | with_reducible exact KS (Below.refl _ _)
                | with_reducible exact KS KD
                | with_reducible exact KS b3)
              (first
                | (go_at_call 8; refine q3.out.mono ?_; rintro x x3 ⟨rfl, b3⟩; replace b3 := KD.then_below b3; clear q3))
            have Q3 := hide (Q2.out.below b3)
            have M3 := hide (M2'.out.below b3)
            replace y1 := (b3.cell (p := ⟨bW, 1, none⟩) g0).trans y1
            have fz := fun j => frozen_of_row x3 bW j _ _ Q3.out.walk
            have eK : ((T0 + K : Nat) : Int) = (T0 : Int) + K := by omega
            have Q4 : PS w (x3.setCell ⟨bW, 1, none⟩ (.int .i64 ((T0 : Int) + K))) bW ga gb F0 F1 (t0 ++ tx) t1 (T0 + K) T1 v0 v1 ts0 ts1 hv es _ _ _ _ := Q3.out.setW hcl 1 (.int .i64 ((T0 : Int) + K)) (by rw [eK]; rfl)
            have M4 := hide (M3.out.keepT (Ch.set (V := some bW) ⟨rfl, rfl, rfl, Nat.le_refl _, fun _ _ _ => rfl⟩ rfl 1 (.int .i64 ((T0 : Int) + K))) (NotOf.one Q3.out.walk (by decide)))
            replace Q4 := hide Q4
            clear Q2 M2' KS KD y0 y2 g0 g1 b3 Q3 M3 eK q29
            go_wp2_with fail
            refine (intact_calls _ w.heap.size hv es Q4.out.held (by rw [hes.out]; omega)).mono ?_
            rintro x x5 ⟨rfl, b5⟩
            have Q5 := hide (Q4.out.below b5)
            have M5 := hide (M4.out.below b5)
            clear Q4 M4 b5 y1 fz
            go_wp2_with fail
            refine (hold_calls x5 w.heap.size _ K _ M5.out Q5.out.bel.size (by omega) i (by omega)).mono ?_
            rintro x x6 ⟨⟨u, xs', ys, rfl, N1, N2, N3, N4, N5⟩, c6⟩
            have Q6 := hide (Q5.out.written hcl M5.out (by have := fr.out; rwa [hK] at this) c6)
            obtain ⟨ua, uc, rfl, -, -, -⟩ := N3.shape
            have XI := hide (show HE.Is x6 w.heap.size ⟨.slice av K cv, .slice ua (K + 1) uc, K, i⟩ from ⟨xs', ys, N1, N2, N3, N4, (show K ≤ 4294967298 by omega), (show i ≤ 4294967296 by omega)⟩)
            have z6 := Q6.out.bel.size
            have H6 := hide (show Mine 39 3 x6 w.heap.size hv i (hcells es) by have := Q6.out.held.row; rwa [hes.out] at this)
            clear Q5 M5 c6 N1 N2 N3 N4 N5 fr
            go_wp2_with (at_builtin; (refine wpList_append_kept _ rfl _ _ 34 rfl w.heap.size 39 j0 (.agg #[.slice none 0 0, .slice none 0 0, .int .i64 0]) 3 56 sliceHeld hi0 hz0 hz1 hz2 rfl (by decide) hv i (hcells es) rfl (H6.out.alloc _) ⟨x6.heap.size, 0, none⟩ [.slice av K cv, .slice ua (K + 1) uc, .int .i64 i] rfl rfl (three_new _ _ _ _ _) (by simp [Value.oneCell']) (by unfold maxLen; omega) (by omega) (by simp; omega) ?_; intro gq cap x7 o7 m7 at7 gr7; have Q7 := hide (Q6.out.grown (hv' := .slice (some ⟨gq, 0, none⟩) (i + 1) cap) hcl XI.out (Ch.grown gr7) (by rw [List.length_append, List.length_singleton, hes.out, hcells_snoc]; exact Mine.own o7)); clear o7 m7 at7 gr7))
            go_roundw
            case rel => exact ⟨i + 1, by omega, by go_num, _, rfl, t0 ++ tx, t1, T0 + K, T1, es ++ [⟨.slice av K cv, .slice ua (K + 1) uc, K, i⟩], tv', tb, by rw [List.length_append, List.length_singleton, hes.out], by rw [cat_data, et0.out]; exact cnk.out.symm, by rw [et1.out]; exact cno.out.symm, eT'.out.symm, by rw [cno.out]; exact eT1.out, by rw [cno.out]; exact Q7.out⟩
            case measure => simp [intOf]; omega
          · replace cn := cn2.out
            have cnk := cn true
            have cno := cn false
            rw [if_pos rfl] at cnk
            rw [if_neg (by decide), List.append_nil] at cno
            replace cnk := hide cnk
            replace cno := hide cno
            have hlen : (catP true (ps.take i) ++ tx.data.toList).length ≤ 1073741824 := by rw [← cnk.out]; have := (len.out true (i + 1)).1; omega
            clear cn cn2
            go_wp2_with fail
            refine (scn_feed wr w.heap.size gb tb _ P.out.two.b P.out.bel.size tx tx.data.toList rfl hlen).mono ?_
            rintro x x1 ⟨v, tv', D, rfl, eD, TT, SA⟩
            rw [← cnk.out] at eD SA
            obtain ⟨Q1, fr⟩ := P.out.fedB hcl TT SA
            have M1 := TT.row
            obtain ⟨av, cv, rfl, -, -⟩ := TT.trow.shape
            obtain ⟨R, s1, s2, s3⟩ := certain_of true ps (i + 1)
            rw [eD, hts1'.out] at s1
            rw [eD] at s2
            have eT' : (S.feed resv .idle (catP true (ps.take (i + 1))) 0).1.length = T1 + D.length := by rw [eD, List.length_append, eT1.out]
            replace eT' := hide eT'
            have bD : D.length ≤ 1073741824 ∧ T1 ≤ 1073741824 := by
              have h1 := feed_few (catP true (ps.take (i + 1))) .idle 0
              have h2 := (len.out true (i + 1)).1
              rw [eT'.out] at h1
              omega
            obtain ⟨bD1, bD2⟩ := bD
            have q29 : Hid (∀ W : World, Mine 66 4 W w.heap.size (.slice av D.length cv) D.length (tksCells D) → Mine 66 4 W w.heap.size v1 ts1.length (tksCells ts1) → Calls Tryd.prog 8 #[.agg #[.string (t1 ++ tx), .int .i64 T1], .slice av D.length cv, v1, .string F1] W fun e w' => e = .returned (.bool true) ∧ Below W.heap.size W w') := fun W m1 m2 => by
              have r2 := m2.trow
              rw [s1] at r2
              rw [eT1.out]
              refine fed_calls W (t1 ++ tx) (catP true (ps.take (i + 1))) (by rw [cat_data, et1.out]; exact cnk.out.symm) F1 (catP true ps) e1'.out (by have := (len.out true 0).2; omega) (by have := (len.out true (i + 1)).1; omega) _ _ _ D R m1.trow r2 s2 s3 (fun t ht => ?_) ?_
              · rw [← s1, ← hts1'.out] at ht
                exact run_within _ t ht
              · rw [← s1, ← hts1'.out]
                have := run_many (catP true ps)
                have := (len.out true 0).2
                omega
            obtain ⟨K, hK⟩ : ∃ K, D.length = K := ⟨_, rfl⟩
            rw [hK] at bD1 q29 eT' M1 ⊢
            obtain ⟨b', off', eb, -, c1'⟩ := (hP.out.below Q1.bel).at_ (j := i) (by rw [hNh.out]; exact hlt)
            cases eb
            rw [hx.out] at c1'
            simp only at c1'
            have yw := hide Q1.walk
            have y0 : x1.cell? ⟨bW, 2, none⟩ = some (.string t1) := by rw [cell_of_row x1 _ _ _ _ (0, 0) yw.out]; rfl
            have fz := fun j => frozen_of_row x1 bW j _ _ yw.out
            have nw : ∀ T, 33 ≠ T → NotOf T x1 [some bW] := fun T hT => NotOf.one Q1.walk hT
            have M2 := hide (M1.keepT (Ch.set (V := some bW) ⟨rfl, rfl, rfl, Nat.le_refl _, fun _ _ _ => rfl⟩ rfl 2 (.string (t1 ++ tx))) (nw _ (by decide)))
            have Q2 := hide (Q1.setW hcl 2 (.string (t1 ++ tx)) rfl).drew
            replace fr := hide fr
            have M2' := hide (M2.out.below (Below.refl _ _).drew)
            clear M1 Q1 nw TT SA s1 s2 s3 eD c0 c1 P M2
            go_wp2_with fail
            go_region
            generalize (x1.setCell ⟨bW, 2, none⟩ (.string (t1 ++ tx))).drew = x2 at Q2 M2' ⊢
            clear y0 fz c1'
            have y0 : x2.cell? ⟨bW, 2, none⟩ = some (.string (t1 ++ tx)) := by rw [cell_of_row x2 _ _ _ _ (0, 0) Q2.out.walk]; rfl
            have y1 : x2.cell? ⟨bW, 3, none⟩ = some (.int .i64 T1) := by rw [cell_of_row x2 _ _ _ _ (0, 0) Q2.out.walk]; rfl
            have y2 : x2.cell? ⟨w.heap.size, 1, none⟩ = some (.string F1) := by rw [cell_of_row x2 _ _ _ _ (0, 0) Q2.out.full]; rfl
            have g0 : bW < x2.heap.size := (Array.getElem?_eq_some_iff.1 Q2.out.walk).1
            have g1 : w.heap.size < x2.heap.size := (Array.getElem?_eq_some_iff.1 Q2.out.full).1
            have KS : ∀ {W : World}, Below x2.heap.size x2 W → W.cell? ⟨bW, 2, none⟩ = some (.string (t1 ++ tx)) ∧ W.cell? ⟨bW, 3, none⟩ = some (.int .i64 T1) ∧ W.cell? ⟨w.heap.size, 1, none⟩ = some (.string F1) := fun q => ⟨(q.cell (p := ⟨bW, _, none⟩) g0).trans y0, (q.cell (p := ⟨bW, _, none⟩) g0).trans y1, (q.cell (p := ⟨w.heap.size, _, none⟩) g1).trans y2⟩
            have KD : Below x2.heap.size x2 x2.drew := (Below.refl _ x2).drew
            have q3 := hide (q29.out x2.drew (M2'.out.below KD) (Q2.out.w1.below KD))
            go_wp2_with fail
            go_region_held3 (fun W => W.cell? ⟨bW, 2, none⟩ = some (.string (t1 ++ tx)) ∧ W.cell? ⟨bW, 3, none⟩ = some (.int .i64 T1) ∧ W.cell? ⟨w.heap.size, 1, none⟩ = some (.string F1))
              (first
                | with_reducible exact KS (Below.refl _ _)
                | with_reducible exact KS KD
                | with_reducible exact KS b3)
              (first
                | (go_at_call 8; refine q3.out.mono ?_; rintro x x3 ⟨rfl, b3⟩; replace b3 := KD.then_below b3; clear q3))
            have Q3 := hide (Q2.out.below b3)
            have M3 := hide (M2'.out.below b3)
            replace y1 := (b3.cell (p := ⟨bW, 3, none⟩) g0).trans y1
            have fz := fun j => frozen_of_row x3 bW j _ _ Q3.out.walk
            have eK : ((T1 + K : Nat) : Int) = (T1 : Int) + K := by omega
            have Q4 : PS w (x3.setCell ⟨bW, 3, none⟩ (.int .i64 ((T1 : Int) + K))) bW ga gb F0 F1 t0 (t1 ++ tx) T0 (T1 + K) v0 v1 ts0 ts1 hv es _ _ _ _ := Q3.out.setW hcl 3 (.int .i64 ((T1 : Int) + K)) (by rw [eK]; rfl)
            have M4 := hide (M3.out.keepT (Ch.set (V := some bW) ⟨rfl, rfl, rfl, Nat.le_refl _, fun _ _ _ => rfl⟩ rfl 3 (.int .i64 ((T1 : Int) + K))) (NotOf.one Q3.out.walk (by decide)))
            replace Q4 := hide Q4
            clear Q2 M2' KS KD y0 y2 g0 g1 b3 Q3 M3 eK q29
            go_wp2_with fail
            refine (intact_calls _ w.heap.size hv es Q4.out.held (by rw [hes.out]; omega)).mono ?_
            rintro x x5 ⟨rfl, b5⟩
            have Q5 := hide (Q4.out.below b5)
            have M5 := hide (M4.out.below b5)
            clear Q4 M4 b5 y1 fz
            go_wp2_with fail
            refine (hold_calls x5 w.heap.size _ K _ M5.out Q5.out.bel.size (by omega) i (by omega)).mono ?_
            rintro x x6 ⟨⟨u, xs', ys, rfl, N1, N2, N3, N4, N5⟩, c6⟩
            have Q6 := hide (Q5.out.written hcl M5.out (by have := fr.out; rwa [hK] at this) c6)
            obtain ⟨ua, uc, rfl, -, -, -⟩ := N3.shape
            have XI := hide (show HE.Is x6 w.heap.size ⟨.slice av K cv, .slice ua (K + 1) uc, K, i⟩ from ⟨xs', ys, N1, N2, N3, N4, (show K ≤ 4294967298 by omega), (show i ≤ 4294967296 by omega)⟩)
            have z6 := Q6.out.bel.size
            have H6 := hide (show Mine 39 3 x6 w.heap.size hv i (hcells es) by have := Q6.out.held.row; rwa [hes.out] at this)
            clear Q5 M5 c6 N1 N2 N3 N4 N5 fr
            go_wp2_with (at_builtin; (refine wpList_append_kept _ rfl _ _ 34 rfl w.heap.size 39 j0 (.agg #[.slice none 0 0, .slice none 0 0, .int .i64 0]) 3 56 sliceHeld hi0 hz0 hz1 hz2 rfl (by decide) hv i (hcells es) rfl (H6.out.alloc _) ⟨x6.heap.size, 0, none⟩ [.slice av K cv, .slice ua (K + 1) uc, .int .i64 i] rfl rfl (three_new _ _ _ _ _) (by simp [Value.oneCell']) (by unfold maxLen; omega) (by omega) (by simp; omega) ?_; intro gq cap x7 o7 m7 at7 gr7; have Q7 := hide (Q6.out.grown (hv' := .slice (some ⟨gq, 0, none⟩) (i + 1) cap) hcl XI.out (Ch.grown gr7) (by rw [List.length_append, List.length_singleton, hes.out, hcells_snoc]; exact Mine.own o7)); clear o7 m7 at7 gr7))
            go_roundw
            case rel => exact ⟨i + 1, by omega, by go_num, _, rfl, t0, t1 ++ tx, T0, T1 + K, es ++ [⟨.slice av K cv, .slice ua (K + 1) uc, K, i⟩], ta, tv', by rw [List.length_append, List.length_singleton, hes.out], by rw [et0.out]; exact cno.out.symm, by rw [cat_data, et1.out]; exact cnk.out.symm, by rw [cno.out]; exact eT0.out, eT'.out.symm, by rw [cno.out]; exact Q7.out⟩
            case measure => simp [intOf]; omega
        · obtain rfl : N = i := by omega
          obtain ⟨t0, t1, T0, T1, es, ta, tb, hes, et0, et1, eT0, eT1, P⟩ := hL.out
          have i2 : ¬ (N : Int) < N := by omega
          have y0 : wr.cell? ⟨bW, 0, none⟩ = some (.string t0) := by rw [cell_of_row wr _ _ _ _ (0, 0) P.walk]; rfl
          have y1 : wr.cell? ⟨bW, 1, none⟩ = some (.int .i64 T0) := by rw [cell_of_row wr _ _ _ _ (0, 0) P.walk]; rfl
          have qa := hide (ended_calls wr (hrH.out.below P.bel) w.heap.size ga ta _ P.two.a P.bel.size hcl t0 et0 (by have := (len.out false N).1; omega) hv es P.held (by rw [hes]; omega))
          rw [← eT0] at qa
          have P' := hide P
          have hes' := hide hes
          have et1' := hide et1
          have eT1' := hide eT1
          clear P hes et0 et1 eT0 eT1 hL
          go_wp2_with fail
          refine qa.out.mono ?_
          rintro x wy ⟨rfl, Hy, cy⟩
          have lo : ∀ k, some k ∈ [some ga] ++ [ta.ownBlock] ++ [hv.ownBlock] → w.heap.size ≤ k := fun k hk => by
            simp only [List.mem_append, List.mem_singleton] at hk
            rcases hk with (e | e) | e
            · have := P'.out.two.a.lo
              have := Option.some.inj e
              omega
            · exact P'.out.two.a.tlo k e.symm
            · exact (P'.out.held.row.block k e.symm).1
          have By := hide (P'.out.bel.trans (cy.below P'.out.bel.size (fun x hx k e => lo k (e ▸ hx))))
          have Wy := cy.at_ ((P'.out.two.a.notOf (T := 33) (by decide) (by decide)).both (NotOf.own P'.out.held.row (by decide))) P'.out.walk
          have y2 : wy.cell? ⟨bW, 2, none⟩ = some (.string t1) := by rw [cell_of_row wy _ _ _ _ (0, 0) Wy]; rfl
          have y3 : wy.cell? ⟨bW, 3, none⟩ = some (.int .i64 T1) := by rw [cell_of_row wy _ _ _ _ (0, 0) Wy]; rfl
          have Sy : Scn wy w.heap.size gb tb (catP true (ps.take N)) := by
            obtain ⟨a1, a2, a3⟩ := P'.out.two.apart hcl
            obtain ⟨cb, ab, Sb, -⟩ := P'.out.two.b.st
            obtain ⟨d1, d2, d3⟩ := Sb.off P'.out.held.row (by decide) (by decide) hcl
            refine P'.out.two.b.keep cy (fun h => ?_) (fun k hk h => ?_) (fun h => ?_)
            · rcases List.mem_append.1 h with h | h
              · exact a1 h
              · exact d1 h
            · rcases List.mem_append.1 h with h | h
              · exact a2 k hk h
              · exact d2 k hk h
            · rcases List.mem_append.1 h with h | h
              · exact a3 h
              · exact d3 h
          have qb := hide (ended_calls wy (hrH.out.below By.out) w.heap.size gb tb _ Sy By.out.size hcl t1 et1'.out (by have := (len.out true N).1; omega) hv es Hy (by rw [hes'.out]; omega))
          rw [← eT1'.out] at qb
          have hB2 := hide (fun (W : World) (c : Ch ([some gb] ++ [tb.ownBlock] ++ [hv.ownBlock]) wy W) => By.out.trans (c.below By.out.size (fun x hx k e => by
            subst e
            simp only [List.mem_append, List.mem_singleton] at hx
            rcases hx with (e | e) | e
            · have := P'.out.two.b.lo
              have := Option.some.inj e
              omega
            · exact P'.out.two.b.tlo k e.symm
            · exact (P'.out.held.row.block k e.symm).1)))
          clear qa Hy cy lo Wy Sy y0 y1 P'
          go_wp2_with fail
          refine qb.out.mono ?_
          rintro x wz ⟨rfl, -, cz⟩
          go_wp2
          go_ret
          exact ⟨rfl, hB2.out wz cz⟩
end Go.Proofs.YtjbalgjdcdmjjaaDoor
