/-
  Hold.nodes: nodes are copied, each with its list, and two marks behind them.
-/
import Derived.Test.YtcpmeehchmdljaaHoldList
import Derived.Deep.AppendLies
namespace Go.Proofs.Ytcpmeehchmdljaa
open Go.RowKit
set_option linter.unusedVariables false
/-- What the first k nodes are copied to. -/
def FP (w : World) (fs : List E.Fl) (k : Nat) (ps : List (List Value)) : Prop :=
  ps.length = k ∧ ∀ j, j < k → ∃ m, DI w m (fs.getD j E.f0).args ∧ ps[j]? = some [.int .i64 (fs.getD j E.f0).fn, cutV m (fs.getD j E.f0).args.length]
theorem FP.keeps {B : Nat} {w w' : World} {fs : List E.Fl} {k : Nat} {ps : List (List Value)} (h : FP w fs k ps) (q : Hk B w w') : FP w' fs k ps :=
  ⟨h.1, fun j hj => by obtain ⟨m, a, b⟩ := h.2 j hj; exact ⟨m, a.keeps q, b⟩⟩
theorem FP.grown {base n size : Nat} {e : TypeId} {u : Value} {ys : List Value} {w w' : World} {fs : List E.Fl} {k : Nat} {ps : List (List Value)} (h : FP w fs k ps) (ho : w.ownsRow base e size u n ys) (he : (e == 3) = false) (hg : w.grownBy w' u.ownBlock) : FP w' fs k ps :=
  ⟨h.1, fun j hj => by obtain ⟨m, a, b⟩ := h.2 j hj; exact ⟨m, a.grown ho he hg, b⟩⟩
theorem FP.two {w : World} {fs : List E.Fl} {k : Nat} {ps : List (List Value)} (h : FP w fs k ps) : ∀ p ∈ ps, p.length = 2 := by
  intro p hp
  obtain ⟨j, hj, rfl⟩ := List.getElem_of_mem hp
  obtain ⟨m, -, b⟩ := h.2 j (by rw [← h.1]; exact hj)
  rw [List.getElem?_eq_getElem hj, Option.some.injEq] at b
  rw [b]
  rfl
theorem FP.next {w : World} {fs : List E.Fl} {k : Nat} {ps : List (List Value)} (h : FP w fs k ps) {m : Value} (hd : DI w m (fs.getD k E.f0).args) : FP w fs (k + 1) (ps ++ [[.int .i64 (fs.getD k E.f0).fn, cutV m (fs.getD k E.f0).args.length]]) := by
  refine ⟨by rw [List.length_append, h.1]; rfl, fun j hj => ?_⟩
  rcases Nat.lt_or_ge j k with c | c
  · obtain ⟨m', a, b⟩ := h.2 j c
    exact ⟨m', a, by rw [List.getElem?_append_left (by rw [h.1]; exact c)]; exact b⟩
  · obtain rfl : j = k := by omega
    exact ⟨m, hd, by rw [List.getElem?_append_right (by rw [h.1]; exact Nat.le_refl _), h.1, Nat.sub_self]; rfl⟩
theorem df_of_row {w : World} {base : Nat} {v : Value} {fs : List E.Fl} {ps : List (List Value)} (hp : FP w fs fs.length ps) (h : w.ownsRow base 31 2 v (fs.length + 2) (ps.flatten ++ [.int .i64 73, .slice none 0 0, .int .i64 74, .slice none 0 0])) : DF w v fs := by
  rcases h.2 with ⟨-, q⟩ | ⟨g, cap, cur, rfl, hB, hg, hn, hm, hs, ht⟩
  · omega
  · have key : ∀ j u, (ps.flatten ++ [.int .i64 73, .slice none 0 0, .int .i64 74, .slice none 0 0])[j]? = some u → w.cell? ⟨g, j, none⟩ = some u := by
      intro j u hu
      have := h.cells (g := g) rfl j u hu
      rw [Addr.add_lit, Nat.zero_add] at this
      exact this
    have fl := flat_len ps hp.two
    rw [hp.1] at fl
    have at_ : ∀ j, j < fs.length → ∀ i p, i < 2 → ps[j]? = some p → (ps.flatten ++ [.int .i64 73, .slice none 0 0, .int .i64 74, .slice none 0 0])[j * 2 + i]? = p[i]? := by
      intro j hj i p hi hq
      rw [List.getElem?_append_left (by rw [fl]; omega)]
      exact flat_at ps hp.two j i p hq hi
    refine ⟨g, cap, rfl, hn, ⟨cur, _, hg⟩, fun j hj => ?_, key _ _ ?_, key _ _ ?_⟩
    · obtain ⟨m, a, b⟩ := hp.2 j hj
      exact ⟨key (j * 2) _ (at_ j hj 0 _ (by decide) b), m, a, key (j * 2 + 1) _ (at_ j hj 1 _ (by decide) b)⟩
    · rw [List.getElem?_append_right (by omega), fl, Nat.sub_self]
      rfl
    · rw [List.getElem?_append_right (by omega), fl, show (fs.length + 1) * 2 - fs.length * 2 = 2 by omega]
      rfl
set_option maxRecDepth 100000 in
set_option maxHeartbeats 4000000 in
theorem nodes_calls (w : World) (B hb : Nat) (v : Value) (fs : List E.Fl) (ns : List NE) (fss : List FE) (lss : List LE') (h : HG B hb w ns fss lss) (hv : Flats B w v fs) (hB : B ≤ hb) (n0 : fs.length ≤ 274877906944) (n1 : ns.length ≤ 274877906944) (n2 : ∀ j, j < fs.length → (fs.getD j E.f0).args.length ≤ 1099511627776) (n3 : fss.length ≤ 1048576) :
    Calls Try.prog 9 #[.pointer (some ⟨hb, 0, none⟩), v] w fun e w' => ∃ g cap ns', e = .returned (.slice (some ⟨g, 0, none⟩) fs.length cap) ∧ HG B hb w' ns' (fss ++ [(.slice (some ⟨g, 0, none⟩) (fs.length + 2) cap, v, fs)]) lss ∧ ns'.length = ns.length + fs.length ∧ Hk hb w w' := by
  obtain ⟨i0, hi, hz0, hz1, hz2⟩ := info_parts hInfoFlat
  obtain ⟨i1, ki, kz0, kz1, kz2⟩ := info_parts hInfoFlats
  obtain ⟨av, cv, rfl, -⟩ := hv.shape
  have hlt := h.lt
  replace hv := hide hv
  replace n2 := hide n2
  have I0 : Hid (∃ ps ns', (w.alloc (.cells #[] 31)).ownsRow w.heap.size 31 2 (.slice (some ⟨w.heap.size, 0, none⟩) 0 0) 0 ps.flatten ∧ FP (w.alloc (.cells #[] 31)) fs 0 ps ∧ HN B hb (w.alloc (.cells #[] 31)) ns' fss lss ∧ ns'.length = ns.length + 0 ∧ Hk hb w (w.alloc (.cells #[] 31))) :=
    ⟨[], ns, World.ownsRow_made w #[] 0 (Nat.le_refl _) (by decide) rfl, ⟨rfl, fun j hj => by omega⟩, h.hn.below hB ((Below.refl _ w).alloc (Nat.le_refl _) _), rfl, (Hk.refl _ _).alloc (Nat.le_of_lt hlt) _⟩
  replace h := hide h
  go_enter Try.func9, Try.ntmps9
  go_wp2_with fail
  go_loopw [5, 6] (fun m x wr => ∃ k : Nat, x = .int .i64 (k : Int) ∧ k ≤ fs.length ∧ Hid (∃ ps ns', wr.ownsRow w.heap.size 31 2 m k ps.flatten ∧ FP wr fs k ps ∧ HN B hb wr ns' fss lss ∧ ns'.length = ns.length + k ∧ Hk hb w wr)) (fun _ x _ => fs.length - (intOf x).toNat)
  case atStart => exact ⟨0, rfl, Nat.zero_le _, I0⟩
  case round =>
    clear I0
    obtain ⟨k, rfl, hk, II⟩ := hrel
    obtain ⟨ps, ns', OO, PP, GG, hns, KK⟩ := II
    have hsz := KK.bel.size
    obtain ⟨a5, c5, rfl⟩ := ownsRow_slice OO
    by_cases hkl : k < fs.length
    · obtain ⟨b, off, rfl, hb', c0, u, c1, R⟩ := (hv.out.below (KK.bel.mono hB)).at_ hkl
      obtain ⟨ua, uc, rfl, un⟩ := R.shape
      have kl : (k : Int) < (fs.length : Int) := by omega
      have k0 : (0 : Int) ≤ (k : Int) := by omega
      have q2 := n2.out k hkl
      have FN := hide (fun m (W : World) (P : FP W fs k ps) (D : DI W m (fs.getD k E.f0).args) => P.next D)
      obtain ⟨xs, hxs⟩ : ∃ xs, (fs.getD k E.f0).args = xs := ⟨_, rfl⟩
      obtain ⟨fn, hfn⟩ : ∃ fn, (fs.getD k E.f0).fn = fn := ⟨_, rfl⟩
      rw [hxs] at R un c1 q2 FN
      rw [hfn] at c0 FN
      have q := hide (list_hn wr.drew B hb (.slice ua xs.length uc) xs ns' fss lss (GG.below hB ((Below.refl _ _).drew)) (R.below ((Below.refl _ _).drew)) hB q2 (by omega))
      have OD : Hid (wr.drew.ownsRow w.heap.size 31 2 (.slice a5 k c5) k ps.flatten) := OO
      have KS : ∀ {W : World}, Below hb wr W → W.cell? ⟨b, off + k * 2, none⟩ = some (.int .i64 fn) ∧ W.cell? ⟨b, off + k * 2 + 1, none⟩ = some (.slice ua xs.length uc) := fun q => ⟨(q.cell (p := ⟨b, _, none⟩) (show b < hb by omega)).trans c0, (q.cell (p := ⟨b, _, none⟩) (show b < hb by omega)).trans c1⟩
      have KD : Hid (Hk hb wr wr.drew) := (Hk.refl _ _).drew
      have PPh := hide PP
      have KKh := hide KK
      clear hxs hfn R GG OO PP KK
      have hbr : hb ≤ wr.heap.size := by omega
      go_wp2_with fail
      go_region_held3 (fun W => W.cell? ⟨b, off + k * 2, none⟩ = some (.int .i64 fn) ∧ W.cell? ⟨b, off + k * 2 + 1, none⟩ = some (.slice ua xs.length uc))
        (first
          | with_reducible exact KS (Below.refl _ _)
          | with_reducible exact KS KD.out.bel
          | with_reducible exact KS K1.bel
          | with_reducible exact KS (K1.alloc hbr _).bel
          | with_reducible exact KS B6.out)
        (first
          | ((go_at_call 15; refine q.out.mono ?_; rintro e wq ⟨g1, cap1, rfl, D1, G1, K1⟩; replace K1 := KD.out.trans K1; have sQ := K1.bel.size; have OQ := K1.row (B := hb) OD.out (by decide)))
          | ((refine step_append_lies _ (by rfl) _ _ _ (by rfl) w.heap.size 31 i0 _ 2 32 hSliceFlat hi hz0 hz1 hz2 rfl (by omega) (.slice a5 k c5) k ps.flatten (by rfl) (OQ.alloc _) ⟨wq.heap.size, 0, none⟩ 1 1 [.int .i64 fn, .slice (some ⟨g1, 0, none⟩) xs.length cap1] (by rfl) (by rfl) (World.news_of_block (cs := #[.int .i64 fn, .slice (some ⟨g1, 0, none⟩) xs.length cap1]) (t := 31) (fr := (0, 0)) (heap_alloc_new wq _)) (by simp [Value.oneCell']) (by omega) (by unfold maxLen; omega) (by omega) (by simp; omega) (wq.heap.size + 1) (by simp) ?_; intro gg cap6 w6 hown6 hgrow6 hat hlt6; have K6 := hide (((KKh.out.trans K1).alloc (Nat.le_of_lt hlt) _).grown_new (Nat.le_of_lt hlt) (OQ.alloc _) (Nat.le_refl _) hgrow6); have B6 := hide ((K1.alloc hbr _).bel.grown hgrow6 (Nat.le_trans hbr (K1.alloc hbr _).bel.size) (fun k hk => Nat.le_trans (Nat.le_of_lt hlt) (OQ.lt k hk).1)); replace hown6 := hide hown6; replace hgrow6 := hide hgrow6; clear hat hlt6))
        )
      go_wp2_with fail
      go_roundw
      case rel =>
        refine ⟨k + 1, by go_num, by omega, ps ++ [[.int .i64 fn, .slice (some ⟨g1, 0, none⟩) xs.length cap1]], ns' ++ [(.slice (some ⟨g1, 0, none⟩) (xs.length + 2) cap1, .slice ua xs.length uc, xs)], ?_, ?_, ?_, ?_, K6.out⟩
        · rw [List.flatten_append]
          exact hown6.out
        · exact FN.out _ _ (((PPh.out.keeps K1).keeps ((Hk.refl _ _).alloc (Nat.zero_le _) _)).grown (OQ.alloc _) (by decide) hgrow6.out) ((D1.keeps ((Hk.refl _ _).alloc (Nat.zero_le _) _)).grown (OQ.alloc _) (by decide) hgrow6.out)
        · exact (G1.below hB ((Below.refl _ _).alloc (Nat.le_refl _) _)).grown (OQ.alloc _) (by decide) (by decide) (by omega) (by simp; omega) hgrow6.out
        · rw [List.length_append, hns]
          rfl
      case measure => simp [intOf]; omega
    · obtain rfl : k = fs.length := by omega
      replace OO := hide OO
      replace PP := hide PP
      replace GG := hide GG
      replace KK := hide KK
      clear hk hkl
      go_upto_region 7 with (at_builtin; (refine wpList_append_own _ rfl _ _ 22 rfl w.heap.size 31 i0 (.agg #[.int .i64 0, .slice none 0 0]) 2 32 hSliceFlat hi hz0 hz1 hz2 rfl (by decide) _ _ _ rfl (World.ownsRow.alloc OO.out _) ⟨wr.heap.size, 0, none⟩ 2 2 [.int .i64 73, .slice none 0 0, .int .i64 74, .slice none 0 0] rfl rfl (cells_new _ _ _) (by simp [Value.oneCell']) (by unfold maxLen; omega) (by omega) (by simp; omega) ?_; intro v5 w5 hown5 hgrow5 _; replace hown5 := hide hown5; replace hgrow5 := hide hgrow5))
      have D5 := hide (df_of_row ((PP.out.keeps ((Hk.refl _ _).alloc (Nat.zero_le _) _)).grown (OO.out.alloc _) (by decide) hgrow5.out) hown5.out)
      have G5 := (GG.out.below hB ((Below.refl _ _).alloc (Nat.le_refl _) _)).grown (OO.out.alloc _) (by decide) (by decide) (by omega) (by simp; omega) hgrow5.out
      have K5 := hide ((KK.out.alloc (Nat.le_of_lt hlt) _).grown_new (Nat.le_of_lt hlt) (World.ownsRow.alloc OO.out _) (Nat.le_refl _) hgrow5.out)
      have A5 := hide (G5.hg h.out hB K5.out)
      have V5 := hide (hv.out.below (K5.out.bel.mono hB))
      obtain ⟨⟨vs, H5⟩, -⟩ := G5
      have lx2 : (rowsH ns' fss lss 2).length ≤ 1048576 := by show (List.map _ fss).length ≤ _; rw [List.length_map]; exact n3
      have lx3 : (rowsH ns' fss lss 3).length ≤ 1048576 := by show (List.map _ fss).length ≤ _; rw [List.length_map]; exact n3
      obtain ⟨xs, hXX⟩ : ∃ xs, rowsH ns' fss lss = xs := ⟨_, rfl⟩
      rw [hXX] at H5 lx2 lx3
      replace hXX := hide hXX
      have lt5 := H5.lt
      obtain ⟨c0, z0⟩ := H5.cell (i := 2) (by decide)
      have P5 : w5.ownsRow (hb + 1) 22 1 (vs 2) (xs 2).length (xs 2) := H5.2.1 2 (by decide)
      obtain ⟨a0, k0, e0⟩ := ownsRow_slice P5
      rw [e0] at c0 P5
      replace P5 := hide P5
      replace H5 := hide H5
      replace e0 := hide e0
      obtain ⟨g5, cap5, rfl, hc5, -⟩ := id D5.out
      clear OO hown5 hgrow5 GG PP KK hsz h hv
      go_upto_region 8 with (at_builtin; (refine wpList_append_own_at _ rfl _ _ 38 rfl (hb + 1) 22 i1 (.slice none 0 0) 1 24 hSliceFlats ki kz0 kz1 kz2 rfl (by decide) _ _ _ rfl (World.ownsRow.alloc P5.out _) ⟨w5.heap.size, 0, none⟩ 1 1 [.slice (some ⟨g5, 0, none⟩) (fs.length + 2) cap5] rfl rfl (cell_one_new _ _ _) (by simp [Value.oneCell']) (by unfold maxLen; omega) (by omega) (by simp; omega) ?_; intro v6 w6 hown6 hgrow6 _ hv6; obtain ⟨a6, k6, rfl⟩ := ownsRow_slice hown6; obtain ⟨H6, K6, c6, z6⟩ := HR.put' e0.out H5.out (i := 2) (by decide) hown6 hgrow6 hv6; replace H6 := hide H6; replace K6 := hide K6; clear hown6 hgrow6 hv6))
      have H6' := H6.out
      have lt6 := H6'.lt
      obtain ⟨c1, z1⟩ := H6'.cell (i := 3) (by decide)
      have P6 : (w6.setCell ⟨hb, 2, none⟩ (.slice a6 ((xs 2).length + 1) k6)).ownsRow (hb + 1) 22 1 (upd vs 2 (.slice a6 ((xs 2).length + 1) k6) 3) (xs 3).length (xs 3) := by
        have := H6'.2.1 3 (by decide)
        rw [upd_other xs 2 _ (by decide)] at this
        exact this
      obtain ⟨a1, k1, e1⟩ := ownsRow_slice P6
      rw [e1] at c1 P6
      have D6 := hide (D5.out.keeps K6.out)
      replace P6 := hide P6
      replace e1 := hide e1
      clear H6' c6 z6 D5 H5 P5 c0 z0 e0
      generalize (w6.setCell ⟨hb, 2, none⟩ (.slice a6 ((xs 2).length + 1) k6)) = w7 at *
      generalize upd vs 2 (.slice a6 ((xs 2).length + 1) k6) = vs1 at *
      go_upto_region 9 with (at_builtin; (refine wpList_append_own_at _ rfl _ _ 38 rfl (hb + 1) 22 i1 (.slice none 0 0) 1 24 hSliceFlats ki kz0 kz1 kz2 rfl (by decide) _ _ _ rfl (World.ownsRow.alloc P6.out _) ⟨w7.heap.size, 0, none⟩ 1 1 [.slice av fs.length cv] rfl rfl (cell_one_new _ _ _) (by simp [Value.oneCell']) (by unfold maxLen; omega) (by omega) (by simp; omega) ?_; intro v8 w8 hown8 hgrow8 _ hv8; obtain ⟨a8, k8, rfl⟩ := ownsRow_slice hown8; obtain ⟨H8, K8, c8, z8⟩ := HR.put' e1.out H6.out (i := 3) (by decide) hown8 hgrow8 hv8; replace H8 := hide H8; replace K8 := hide K8; clear hown8 hgrow8 hv8))
      have D8 := hide (D6.out.keeps K8.out)
      have K68 := hide (K6.out.trans K8.out)
      clear c8 z8 K8 K6 D6 c1 z1 H6 P6 e1
      generalize (w8.setCell ⟨hb, 3, none⟩ (.slice a8 ((xs 3).length + 1) k8)) = w9 at *
      go_wp2_with fail
      go_ret
      have hx := hXX.out
      subst hx
      exact ⟨g5, cap5, ns', rfl, A5.out.flat hB K68.out D8.out V5.out ⟨_, H8.out⟩, hns, K5.out.trans K68.out⟩
end Go.Proofs.Ytcpmeehchmdljaa
