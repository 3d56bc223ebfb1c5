/-
  The law SexpKept.
-/
import Derived.Test.YtjbalgjdcdmjjaaDoorKeptAll
import Derived.Test.YtjbalgjdcdmjjaaDoorHeadsC
import Derived.Test.YtjbalgjdcdmjjaaDoorBackAll
/- ==== KeptLaw ==== -/
namespace Go.Proofs.YtjbalgjdcdmjjaaDoor
open Go.RowKit
set_option linter.unusedVariables false
set_option maxRecDepth 100000 in
set_option maxHeartbeats 8000000 in
theorem sexpKept_calls (w : World) (hc : Cls w) (hm : Mx w) (s : ByteArray) (l : List UInt8) (hs : s.data.toList = l) (hl : l.length ≤ 1048576) (i : Int) (v : Value) (ns : List Nd) (h : Nds w.heap.size w v ns) (hlen : ns.length ≤ 1048576) (hwt : wt ns ≤ 33554432) :
    Calls Tryd.prog 4 #[.string s, v, .int .i64 i] w fun e w' => e = .returned (.bool true) ∧ Below w.heap.size w w' := by
  obtain ⟨i0, hi, hz0, hz1, hz2⟩ := info_parts infoNodeC
  obtain ⟨j1, hj, hy0, hy1, hy2⟩ := info_parts ndInfoInt
  have qH := hide (heads_calls w hc hm)
  have hcH := hide hc
  have hmH := hide hm
  have hNs := hide h
  have hT := hide (fun k (hk : k < ns.length) => Nat.le_trans (lnt_tot ns k) hwt)
  obtain ⟨fn, L, eN, pN, hL1, hL2, qR⟩ : ∃ (fn : List Nd) (L : Nat) (eN pN : Int), Hid (fn.length = L) ∧ L ≤ 2097153 ∧ Hid (∀ W, Below w.heap.size w W → Calls Tryd.prog 15 #[.string s] W fun e w' => ∃ v, e = .returned (.tuple #[v, .int .i64 eN, .int .i64 pN]) ∧ Mine 47 5 w' W.heap.size v L (flatN fn) ∧ Below W.heap.size W w') := by
    have many := run_many l
    have olen := X.out_len (S.run resv .idle l 0).1 (S.run resv .idle l 0).2.1 (S.run resv .idle l 0).2.2
    obtain ⟨O, hO⟩ : ∃ O, X.out (S.run resv .idle l 0).1 (S.run resv .idle l 0).2.1 (S.run resv .idle l 0).2.2 = O := ⟨_, rfl⟩
    rw [hO] at olen
    refine ⟨O.1.map toNd, O.1.length, O.2.1, O.2.2, by rw [Hid, List.length_map], by omega, fun W q => ?_⟩
    refine (sexpReadO_calls W (cls_below hcH.out q) s l hs (by omega) O hO.symm).mono ?_
    rintro e w' ⟨u, e1, e2, e3⟩
    exact ⟨u, e1, by rw [← nsCells_flat]; exact e2, e3⟩
  obtain ⟨ks, K, kc, hK1, hK2, qK⟩ : ∃ (ks : List Int) (K : Nat) (kc : Int), Hid (ks.length = K) ∧ K ≤ 1048576 ∧ Hid (∀ W u, Nds W.heap.size W u ns → Calls Tryd.prog 16 #[u, .int .i64 i] W fun e w' => (∃ r, e = .returned (.tuple #[r, .int .i64 kc]) ∧ OwnS w' W.heap.size r ks) ∧ Below W.heap.size W w') :=
    ⟨kidsX ns i, _, kidsC ns i, rfl, Nat.le_trans (kidsX_len ns i) hlen, fun W u hu => kidsO_calls W W.heap.size u ns hu (Nat.le_refl _) i⟩
  have qS := hide (fun W (q : Below w.heap.size w W) u (hu : Nds W.heap.size W u ns) => show_calls W (cls_below hcH.out q) (hmH.out.below q) W.heap.size u ns hu (Nat.le_refl _) hlen hT.out)
  have qC := hide (fun W (q : Below w.heap.size w W) => copiedO_calls W w.heap.size v ns (hNs.out.below q) q.size)
  obtain ⟨N, hN⟩ : ∃ N, ns.length = N := ⟨_, rfl⟩
  obtain ⟨va, vc, rfl, n1, ⟨n2, n2'⟩, -, -⟩ := h
  rw [hN] at hlen qC n1 hNs ⊢
  have hN1 := hide hN
  clear hc hm hs hl hwt hN n2'
  have okR : Hid (∀ (W : World) (u : Value), Mine 47 5 W 0 u L (flatN fn) → Nds W.heap.size W u fn) := fun W u q => by
    have e := hL1.out
    subst e
    exact q.nds (by omega)
  go_enter Tryd.func4, Tryd.ntmps4
  go_wp2_with fail
  refine qH.out.mono ?_
  rintro x w1 ⟨rfl, b1⟩
  replace b1 := hide b1
  go_wp2_with fail
  refine (qC.out w1 b1.out).mono ?_
  rintro x w2 ⟨⟨r2, rfl, M2⟩, b2⟩
  have z2 := b2.size
  replace b2 := hide (b1.out.then_below b2)
  replace M2 := hide M2
  go_wp2_with (at_builtin; (refine wpList_append_kept _ rfl _ _ 43 rfl w1.heap.size 47 i0 (.agg #[.int .i64 0, .int .i64 0, .int .i64 0, .int .i64 0, .string ⟨#[]⟩]) 5 48 sliceNodeC hi hz0 hz1 hz2 rfl (by decide) _ N (flatN ns) rfl (M2.out.keep (Ch.of_grown (World.grownBy_alloc w2 _ none)) (fun _ _ => by simp)) ⟨w2.heap.size, 0, none⟩ [.int .i64 (-7), .int .i64 77, .int .i64 0, .int .i64 0, .string ⟨#[98, 101, 104, 105, 110, 100]⟩] rfl rfl (five_new _ _ _ _ _ _ _) (by simp [Value.oneCell']) (by unfold maxLen; omega) (by omega) (by simp; omega) ?_; intro g cap w3 o3 m3 at3 gr3; obtain ⟨N3, c1, c2, g3, T3⟩ := full_of o3 hN1.out (by omega); have b3 := hide ((b2.out.alloc (by have := b1.out.size; omega) _).grown gr3 (by have := b1.out.size; simp; omega) (fun k hk => by have := (M2.out.block k hk).1; have := b1.out.size; omega)); replace N3 := hide N3; replace T3 := hide T3; have sl := fun W => sl_kept g (N + 1) cap N (by omega) W; have hcap1 : (N : Int) ≤ cap := (by omega); clear o3 m3 at3 gr3 M2 qH b2 b1))
  have qM := hide (fun W (q : Below w3.heap.size w3 W) => (N3.out.below q).mono q.size)
  have toW := hide (fun W (q : Below w3.heap.size w3 W) => b3.out.then_below q)
  refine (qS.out w3 b3.out _ N3.out).mono ?_
  rintro x w4 ⟨rfl, b4⟩
  have z4 := b4.size
  have B4 := hide b4
  clear b4 qS sl hcap1
  go_wp2_with fail
  refine (qR.out w4 (toW.out _ B4.out)).mono ?_
  rintro x w5 ⟨vf, rfl, F, b5⟩
  have z5 := b5.size
  have lf := hide (F.lies (Nat.le_refl _))
  have B5 := hide (B4.out.then_below b5)
  replace F := hide F
  clear b5 B4
  go_wp2_with fail
  refine (qR.out w5 (toW.out _ B5.out)).mono ?_
  rintro x w6 ⟨vg, rfl, G, b6⟩
  have z6 := b6.size
  have lg := hide (G.lies (Nat.le_refl _))
  have B6 := hide (B5.out.then_below b6)
  replace F := hide (F.out.below b6)
  replace G := hide G
  clear b6 B5
  go_wp2_with fail
  refine (qK.out w6 _ (qM.out _ B6.out)).mono ?_
  rintro x w7 ⟨⟨vl, rfl, A⟩, b7⟩
  have z7 := b7.size
  have eA := A.row.shape
  replace A := OwnS.mine A
  rw [hK1.out] at eA A
  obtain ⟨la, lc, rfl, -, -⟩ := eA
  have ll := hide (A.lies (Nat.le_refl _))
  have B7 := hide (B6.out.then_below b7)
  replace F := hide (F.out.below b7)
  replace G := hide (G.out.below b7)
  replace A := hide A
  clear b7 B6
  go_wp2_with fail
  refine (qK.out w7 _ (qM.out _ B7.out)).mono ?_
  rintro x w8 ⟨⟨vm, rfl, M⟩, b8⟩
  have z8 := b8.size
  have RM := M.row
  have eM := RM.shape
  replace M := OwnS.mine M
  rw [hK1.out] at eM M
  obtain ⟨ma, mc, rfl, -, -⟩ := eM
  have lm := hide (M.lies (Nat.le_refl _))
  have B8 := hide (B7.out.then_below b8)
  replace F := hide (F.out.below b8)
  replace G := hide (G.out.below b8)
  replace A := hide (A.out.below b8)
  replace M := hide M
  replace RM := hide RM
  clear b8 B7
  go_wp2_with fail
  refine (sameNd_calls w8 w8.heap.size w8.heap.size vf vg fn (okR.out _ _ (F.out.base (Nat.zero_le _))) (okR.out _ _ (G.out.base (Nat.zero_le _))) (Nat.le_refl _) (Nat.le_refl _)).mono ?_
  rintro x w9 ⟨rfl, b9⟩
  have z9 := b9.size
  have B9 := hide (B8.out.then_below b9)
  replace F := hide (F.out.below b9)
  replace G := hide (G.out.below b9)
  replace A := hide (A.out.below b9)
  replace M := hide (M.out.below b9)
  replace RM := hide (RM.out.below b9)
  clear b9 B8
  go_wp2_with fail
  refine (copiedO_calls w9 w9.heap.size vf fn (okR.out _ _ (F.out.base (Nat.zero_le _))) (Nat.le_refl _)).mono ?_
  rintro x w10 ⟨⟨vr, rfl, R⟩, b10⟩
  rw [hL1.out] at R
  have z10 := b10.size
  have lr := hide (R.lies (Nat.le_refl _))
  have B10 := hide (B9.out.then_below b10)
  replace F := hide (F.out.below b10)
  replace G := hide (G.out.below b10)
  replace A := hide (A.out.below b10)
  replace M := hide (M.out.below b10)
  replace RM := hide (RM.out.below b10)
  replace R := hide R
  clear b10 B9
  go_wp2_with (at_make; refine wpList_make_own _ rfl _ _ 53 rfl w10.heap.size 3 j1 _ 1 ndSliceInt hj hy0 hy1 .i64 .i64 _ K rfl rfl rfl (by rw [hy2]; omega) (by unfold maxLen; omega) (Nat.le_refl _) ?_; intro w11 hown0 hgrow0)
  have b11 : Hid (Below w10.heap.size w10 w11) := (Below.refl _ w10).grown hgrow0 (Nat.le_refl _) (by simp)
  have K11 : Hid (OwnS w11 w10.heap.size _ []) := hown0
  clear hown0 hgrow0
  go_loopw [20, 21] (fun u j wr => ∃ q : Nat, q ≤ K ∧ j = .int .i64 q ∧ Hid (OwnS wr w10.heap.size u (ks.take q)) ∧ Hid (Below w10.heap.size w10 wr)) (fun _ j _ => K - (intOf j).toNat)
  case atStart => exact ⟨0, Nat.zero_le _, rfl, K11, b11⟩
  case round =>
    obtain ⟨q, hq, rfl, hO, hB⟩ := hrel
    clear K11 b11
    have zr := hB.out.size
    by_cases hlt : q < K
    · obtain ⟨b, off, rfl, cx⟩ := (RM.out.below hB.out).cellAt (j := q) (by rw [hK1.out]; exact hlt)
      have eT : ks.take (q + 1) = ks.take q ++ [ks.getD q 0] := by
        have := hK1.out
        rw [List.take_add_one, List.getElem?_eq_getElem (by omega), List.getD_eq_getElem?_getD, List.getElem?_eq_getElem (by omega)]; rfl
      have eL : (ks.take q).length = q := by
        have := hK1.out
        rw [List.length_take]; omega
      have hO2 := hO.out
      unfold OwnS at hO2
      rw [eL] at hO2
      replace hO2 := hide hO2
      replace eT := hide eT
      replace eL := hide eL
      generalize ks.getD q 0 = x at cx eT
      have i1 : (q : Int) < K := by omega
      go_wp2_with (at_builtin; (refine wpList_append_own _ rfl _ _ 53 rfl w10.heap.size 3 j1 (.int .i64 0) 1 8 ndSliceInt hj hy0 hy1 hy2 rfl (by decide) _ q _ rfl (hO2.out.alloc _) ⟨wr.heap.size, 0, none⟩ 1 1 [.int .i64 x] rfl rfl (cell_one_new _ _ _) (by simp [Value.oneCell']) (by unfold maxLen; omega) (by omega) (by simp; omega) ?_; intro u3 w3' o3 g3' _; replace o3 := hide o3; replace g3' := hide g3'))
      go_roundw
      case rel => exact ⟨q + 1, by omega, by go_num, by rw [eT.out]; exact OwnS.snoc (by rw [eL.out]; exact o3.out), (hB.out.alloc zr _).grown g3'.out (by simp; omega) (fun k hk => (hO2.out.lt k hk).1)⟩
      case measure => simp [intOf]; omega
    · obtain rfl : K = q := by omega
      have eT : ks.take K = ks := List.take_of_length_le (by rw [hK1.out]; exact Nat.le_refl _)
      rw [eT] at hO
      have eu := hO.out.row.shape
      have MK := OwnS.mine hO.out
      rw [hK1.out] at eu MK
      obtain ⟨ka, kcp, rfl, -, -⟩ := eu
      have lk := hide (MK.lies (Nat.le_refl _))
      have BX := hide (B10.out.then_below hB.out)
      replace F := hide (F.out.below hB.out)
      replace G := hide (G.out.below hB.out)
      replace A := hide (A.out.below hB.out)
      replace M := hide (M.out.below hB.out)
      replace R := hide (R.out.below hB.out)
      replace MK := hide MK
      have i1 : ¬ (K : Int) < K := by omega
      clear RM B10 hB hO eT
      go_wp2_with fail
      refine (marked_calls wr _ _ L _ F.out (by omega) (by omega) 1000000 (by decide)).mono ?_
      rintro x w12 ⟨⟨uSA, rfl, SF, SA, pa⟩, c⟩
      have z12 := c.size
      replace BX := hide (BX.out.trans (c.above lf.out (by omega) (by omega)))
      replace G := hide (G.out.keep c (off1 (lg.out.off lf.out (by omega))))
      replace A := hide (A.out.keep c (off1 (ll.out.off lf.out (by omega))))
      replace M := hide (M.out.keep c (off1 (lm.out.off lf.out (by omega))))
      replace R := hide (R.out.keep c (off1 (lr.out.off lf.out (by omega))))
      replace MK := hide (MK.out.keep c (off1 (lk.out.off lf.out (by omega))))
      replace SF := hide SF
      replace SA := hide SA
      replace pa := hide pa
      clear c F
      go_wp2_with fail
      refine (numbers_calls w12 _ _ K _ A.out (by omega) (by omega) 1000000 (by decide)).mono ?_
      rintro x w13 ⟨⟨uSP, rfl, SL, SP, pp⟩, c⟩
      have z13 := c.size
      replace BX := hide (BX.out.trans (c.above ll.out (by omega) (by omega)))
      replace G := hide (G.out.keep c (off1 (lg.out.off ll.out (by omega))))
      replace M := hide (M.out.keep c (off1 (lm.out.off ll.out (by omega))))
      replace R := hide (R.out.keep c (off1 (lr.out.off ll.out (by omega))))
      replace MK := hide (MK.out.keep c (off1 (lk.out.off ll.out (by omega))))
      replace SF := hide (SF.out.keep c (off1 (lf.out.off ll.out (by omega))))
      replace SA := hide (SA.out.keep c (off1 (off_of pa.out (lf.out.off ll.out (by omega)) ll.out (by omega))))
      replace SL := hide SL
      replace SP := hide SP
      replace pp := hide pp
      clear c A
      go_wp2_with fail
      refine (sameNd_calls w13 w13.heap.size w13.heap.size _ _ fn (okR.out _ _ (G.out.base (Nat.zero_le _))) (okR.out _ _ (R.out.base (Nat.zero_le _))) (Nat.le_refl _) (Nat.le_refl _)).mono ?_
      rintro x w14 ⟨rfl, b⟩
      have z14 := b.size
      replace G := hide (G.out.below b)
      replace M := hide (M.out.below b)
      replace R := hide (R.out.below b)
      replace MK := hide (MK.out.below b)
      replace SF := hide (SF.out.below b)
      replace SA := hide (SA.out.below b)
      replace SL := hide (SL.out.below b)
      replace SP := hide (SP.out.below b)
      replace BX := hide (BX.out.then_below b)
      clear b
      go_wp2_with fail
      refine (sameNd_calls w14 w14.heap.size w.heap.size _ _ ns (qM.out _ BX.out) (hNs.out.below (toW.out _ BX.out)) (Nat.le_refl _) (toW.out _ BX.out).size).mono ?_
      rintro x w15 ⟨rfl, b⟩
      have z15 := b.size
      replace G := hide (G.out.below b)
      replace M := hide (M.out.below b)
      replace R := hide (R.out.below b)
      replace MK := hide (MK.out.below b)
      replace SF := hide (SF.out.below b)
      replace SA := hide (SA.out.below b)
      replace SL := hide (SL.out.below b)
      replace SP := hide (SP.out.below b)
      replace BX := hide (BX.out.then_below b)
      clear b
      go_wp2_with fail
      refine (marked_calls w15 _ _ L _ G.out (by omega) (by omega) 3000000 (by decide)).mono ?_
      rintro x w16 ⟨⟨uSB, rfl, SG, SB, pb⟩, c⟩
      have z16 := c.size
      replace BX := hide (BX.out.trans (c.above lg.out (by omega) (by omega)))
      replace M := hide (M.out.keep c (off1 (lm.out.off lg.out (by omega))))
      replace R := hide (R.out.keep c (off1 (lr.out.off lg.out (by omega))))
      replace MK := hide (MK.out.keep c (off1 (lk.out.off lg.out (by omega))))
      replace SF := hide (SF.out.keep c (off1 (lf.out.off lg.out (by omega))))
      replace SA := hide (SA.out.keep c (off1 (off_of pa.out (lf.out.off lg.out (by omega)) lg.out (by omega))))
      replace SL := hide (SL.out.keep c (off1 (ll.out.off lg.out (by omega))))
      replace SP := hide (SP.out.keep c (off1 (off_of pp.out (ll.out.off lg.out (by omega)) lg.out (by omega))))
      replace SG := hide SG
      replace SB := hide SB
      replace pb := hide pb
      clear c G
      go_wp2_with fail
      refine (numbers_calls w16 _ _ K _ M.out (by omega) (by omega) 3000000 (by decide)).mono ?_
      rintro x w17 ⟨⟨uSQ, rfl, SM, SQ, pq⟩, c⟩
      have z17 := c.size
      replace BX := hide (BX.out.trans (c.above lm.out (by omega) (by omega)))
      replace R := hide (R.out.keep c (off1 (lr.out.off lm.out (by omega))))
      replace MK := hide (MK.out.keep c (off1 (lk.out.off lm.out (by omega))))
      replace SF := hide (SF.out.keep c (off1 (lf.out.off lm.out (by omega))))
      replace SA := hide (SA.out.keep c (off1 (off_of pa.out (lf.out.off lm.out (by omega)) lm.out (by omega))))
      replace SL := hide (SL.out.keep c (off1 (ll.out.off lm.out (by omega))))
      replace SP := hide (SP.out.keep c (off1 (off_of pp.out (ll.out.off lm.out (by omega)) lm.out (by omega))))
      replace SG := hide (SG.out.keep c (off1 (lg.out.off lm.out (by omega))))
      replace SB := hide (SB.out.keep c (off1 (off_of pb.out (lg.out.off lm.out (by omega)) lm.out (by omega))))
      replace SM := hide SM
      replace SQ := hide SQ
      replace pq := hide pq
      clear c M
      go_wp2_with fail
      refine (stands_calls w17 _ (L + 1) 1000000 SA.out (by omega) (by decide)).mono ?_
      rintro x w18 ⟨rfl, b⟩
      have z18 := b.size
      replace R := hide (R.out.below b)
      replace MK := hide (MK.out.below b)
      replace SF := hide (SF.out.below b)
      replace SL := hide (SL.out.below b)
      replace SP := hide (SP.out.below b)
      replace SG := hide (SG.out.below b)
      replace SB := hide (SB.out.below b)
      replace SM := hide (SM.out.below b)
      replace SQ := hide (SQ.out.below b)
      replace BX := hide (BX.out.then_below b)
      clear b SA
      go_wp2_with fail
      refine (stands_calls w18 _ (L + 1) 3000000 SB.out (by omega) (by decide)).mono ?_
      rintro x w19 ⟨rfl, b⟩
      have z19 := b.size
      replace R := hide (R.out.below b)
      replace MK := hide (MK.out.below b)
      replace SF := hide (SF.out.below b)
      replace SL := hide (SL.out.below b)
      replace SP := hide (SP.out.below b)
      replace SG := hide (SG.out.below b)
      replace SM := hide (SM.out.below b)
      replace SQ := hide (SQ.out.below b)
      replace BX := hide (BX.out.then_below b)
      clear b SB
      go_wp2_with fail
      refine (counted_calls w19 _ (K + 1) 1000000 SP.out (by omega) (by decide)).mono ?_
      rintro x w20 ⟨rfl, b⟩
      have z20 := b.size
      replace R := hide (R.out.below b)
      replace MK := hide (MK.out.below b)
      replace SF := hide (SF.out.below b)
      replace SL := hide (SL.out.below b)
      replace SG := hide (SG.out.below b)
      replace SM := hide (SM.out.below b)
      replace SQ := hide (SQ.out.below b)
      replace BX := hide (BX.out.then_below b)
      clear b SP
      go_wp2_with fail
      refine (counted_calls w20 _ (K + 1) 3000000 SQ.out (by omega) (by decide)).mono ?_
      rintro x w21 ⟨rfl, b⟩
      have z21 := b.size
      replace R := hide (R.out.below b)
      replace MK := hide (MK.out.below b)
      replace SF := hide (SF.out.below b)
      replace SL := hide (SL.out.below b)
      replace SG := hide (SG.out.below b)
      replace SM := hide (SM.out.below b)
      replace BX := hide (BX.out.then_below b)
      clear b SQ
      go_wp2_with fail
      refine (stands_calls w21 _ (L) 1000000 SF.out (by omega) (by decide)).mono ?_
      rintro x w22 ⟨rfl, b⟩
      have z22 := b.size
      replace R := hide (R.out.below b)
      replace MK := hide (MK.out.below b)
      replace SL := hide (SL.out.below b)
      replace SG := hide (SG.out.below b)
      replace SM := hide (SM.out.below b)
      replace BX := hide (BX.out.then_below b)
      clear b SF
      go_wp2_with fail
      refine (stands_calls w22 _ (L) 3000000 SG.out (by omega) (by decide)).mono ?_
      rintro x w23 ⟨rfl, b⟩
      have z23 := b.size
      replace R := hide (R.out.below b)
      replace MK := hide (MK.out.below b)
      replace SL := hide (SL.out.below b)
      replace SM := hide (SM.out.below b)
      replace BX := hide (BX.out.then_below b)
      clear b SG
      go_wp2_with fail
      refine (counted_calls w23 _ (K) 1000000 SL.out (by omega) (by decide)).mono ?_
      rintro x w24 ⟨rfl, b⟩
      have z24 := b.size
      replace R := hide (R.out.below b)
      replace MK := hide (MK.out.below b)
      replace SM := hide (SM.out.below b)
      replace BX := hide (BX.out.then_below b)
      clear b SL
      go_wp2_with fail
      refine (counted_calls w24 _ (K) 3000000 SM.out (by omega) (by decide)).mono ?_
      rintro x w25 ⟨rfl, b⟩
      have z25 := b.size
      replace R := hide (R.out.below b)
      replace MK := hide (MK.out.below b)
      replace BX := hide (BX.out.then_below b)
      clear b SM
      go_wp2_with fail
      refine (qR.out w25 (toW.out _ BX.out)).mono ?_
      rintro x w26 ⟨vh, rfl, H, b⟩
      have z26 := b.size
      replace R := hide (R.out.below b)
      replace MK := hide (MK.out.below b)
      replace BX := hide (BX.out.then_below b)
      replace H := hide H
      clear b
      go_wp2_with fail
      refine (qK.out w26 _ (qM.out _ BX.out)).mono ?_
      rintro x w27 ⟨⟨vt, rfl, T⟩, b⟩
      have z27 := b.size
      replace R := hide (R.out.below b)
      replace MK := hide (MK.out.below b)
      replace H := hide (H.out.below b)
      have eT := T.row.shape
      replace T := OwnS.mine T
      rw [hK1.out] at eT T
      obtain ⟨ta, tc, rfl, -, -⟩ := eT
      replace BX := hide (BX.out.then_below b)
      replace T := hide T
      clear b
      go_wp2_with (go_at_call 22; refine (no_calls _ _).mono ?_; rintro x w0 ⟨rfl, hw0⟩; subst w0)
      refine (sameNd_calls w27 w27.heap.size w27.heap.size _ _ fn (okR.out _ _ (H.out.base (Nat.zero_le _))) (okR.out _ _ (R.out.base (Nat.zero_le _))) (Nat.le_refl _) (Nat.le_refl _)).mono ?_
      rintro x w28 ⟨rfl, b⟩
      have z28 := b.size
      replace R := hide (R.out.below b)
      replace MK := hide (MK.out.below b)
      replace H := hide (H.out.below b)
      replace T := hide (T.out.below b)
      replace BX := hide (BX.out.then_below b)
      clear b
      go_wp2_with fail
      refine (sameNd_calls w28 w28.heap.size w.heap.size _ _ ns (qM.out _ BX.out) (hNs.out.below (toW.out _ BX.out)) (Nat.le_refl _) (toW.out _ BX.out).size).mono ?_
      rintro x w29 ⟨rfl, b⟩
      have z29 := b.size
      replace R := hide (R.out.below b)
      replace MK := hide (MK.out.below b)
      replace H := hide (H.out.below b)
      replace T := hide (T.out.below b)
      replace BX := hide (BX.out.then_below b)
      clear b
      have RT := hide (T.out.rowK hK1.out)
      have RK := hide (MK.out.rowK hK1.out)
      obtain ⟨t0, t1, t2, t3, t4⟩ := T3.out
      clear T MK H R
      go_wp2_with fail
      go_loopw [31] (fun j wx => ∃ q : Nat, q ≤ K ∧ j = .int .i64 q ∧ Hid (Below w29.heap.size w29 wx)) (fun j _ => K - (intOf j).toNat)
      case atStart => exact ⟨0, Nat.zero_le _, rfl, Below.refl _ _⟩
      case round =>
        obtain ⟨q, hq, rfl, hB⟩ := hrel
        by_cases hlt : q < K
        · obtain ⟨b1, o1, rfl, cx⟩ := (RT.out.below hB.out).cellAt (j := q) (by rw [hK1.out]; exact hlt)
          obtain ⟨b2, o2, rfl, cy⟩ := (RK.out.below hB.out).cellAt (j := q) (by rw [hK1.out]; exact hlt)
          generalize ks.getD q 0 = x at cx cy
          have i2 : (q : Int) < K := by omega
          go_wp2
          go_quiet (fail)
          go_wp2
          go_roundw
          case rel => exact ⟨q + 1, by omega, by go_num, below_drewN hB.out _⟩
          case measure => simp [intOf]; omega
        · have i2 : ¬ (q : Int) < K := by omega
          have BE := BX.out.then_below hB.out
          have d0 := (BE.cell (p := ⟨g, _, none⟩) g3).trans t0
          have d1 := (BE.cell (p := ⟨g, _, none⟩) g3).trans t1
          have d2 := (BE.cell (p := ⟨g, _, none⟩) g3).trans t2
          have d3 := (BE.cell (p := ⟨g, _, none⟩) g3).trans t3
          have d4 := (BE.cell (p := ⟨g, _, none⟩) g3).trans t4
          replace BE := hide (toW.out _ BE)
          have i3 : (N : Int) < N + 1 := by omega
          clear t0 t1 t2 t3 t4 T3
          go_wp2
          go_ret
          exact ⟨rfl, BE.out.alloc BE.out.size _⟩
end Go.Proofs.YtjbalgjdcdmjjaaDoor
