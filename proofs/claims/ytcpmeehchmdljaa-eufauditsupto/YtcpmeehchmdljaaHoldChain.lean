/-
  Hold.chain: links are copied, each with its list, and two marks behind them.
-/
import Derived.Test.YtcpmeehchmdljaaHoldList
namespace Go.Proofs.Ytcpmeehchmdljaa
open Go.RowKit
set_option linter.unusedVariables false
/-- What the first k links are copied to. -/
def LP (w : World) (ls : List E.Lk) (k : Nat) (ps : List (List Value)) : Prop :=
  ps.length = k ∧ ∀ j, j < k → ∃ m, DI w m (ls.getD j E.l0).kids ∧ ps[j]? = some [.int .i64 (ls.getD j E.l0).kind, .int .i64 (ls.getD j E.l0).a, .int .i64 (ls.getD j E.l0).b, .int .i64 (ls.getD j E.l0).tag, cutV m (ls.getD j E.l0).kids.length]
theorem LP.keeps {B : Nat} {w w' : World} {ls : List E.Lk} {k : Nat} {ps : List (List Value)} (h : LP w ls k ps) (q : Hk B w w') : LP w' ls k ps :=
  ⟨h.1, fun j hj => by obtain ⟨m, a, b⟩ := h.2 j hj; exact ⟨m, a.keeps q, b⟩⟩
theorem LP.grown {base n size : Nat} {e : TypeId} {u : Value} {ys : List Value} {w w' : World} {ls : List E.Lk} {k : Nat} {ps : List (List Value)} (h : LP w ls k ps) (ho : w.ownsRow base e size u n ys) (he : (e == 3) = false) (hg : w.grownBy w' u.ownBlock) : LP w' ls k ps :=
  ⟨h.1, fun j hj => by obtain ⟨m, a, b⟩ := h.2 j hj; exact ⟨m, a.grown ho he hg, b⟩⟩
theorem LP.five {w : World} {ls : List E.Lk} {k : Nat} {ps : List (List Value)} (h : LP w ls k ps) : ∀ p ∈ ps, p.length = 5 := by
  intro p hp
  obtain ⟨j, hj, rfl⟩ := List.getElem_of_mem hp
  obtain ⟨m, -, b⟩ := h.2 j (by rw [← h.1]; exact hj)
  rw [List.getElem?_eq_getElem hj, Option.some.injEq] at b
  rw [b]
  rfl
theorem LP.next {w : World} {ls : List E.Lk} {k : Nat} {ps : List (List Value)} (h : LP w ls k ps) {m : Value} (hd : DI w m (ls.getD k E.l0).kids) : LP w ls (k + 1) (ps ++ [[.int .i64 (ls.getD k E.l0).kind, .int .i64 (ls.getD k E.l0).a, .int .i64 (ls.getD k E.l0).b, .int .i64 (ls.getD k E.l0).tag, cutV m (ls.getD k E.l0).kids.length]]) := by
  refine ⟨by rw [List.length_append, h.1]; rfl, fun j hj => ?_⟩
  rcases Nat.lt_or_ge j k with c | c
  · obtain ⟨m', a, b⟩ := h.2 j c
    exact ⟨m', a, by rw [List.getElem?_append_left (by rw [h.1]; exact c)]; exact b⟩
  · obtain rfl : j = k := by omega
    exact ⟨m, hd, by rw [List.getElem?_append_right (by rw [h.1]; exact Nat.le_refl _), h.1, Nat.sub_self]; rfl⟩
theorem dl_of_row {w : World} {base : Nat} {v : Value} {ls : List E.Lk} {ps : List (List Value)} (hp : LP w ls ls.length ps) (h : w.ownsRow base 26 5 v (ls.length + 2) (ps.flatten ++ [.int .i64 75, .int .i64 0, .int .i64 0, .int .i64 0, .slice none 0 0, .int .i64 76, .int .i64 0, .int .i64 0, .int .i64 0, .slice none 0 0])) : DL w v ls := by
  rcases h.2 with ⟨-, q⟩ | ⟨g, cap, cur, rfl, hB, hg, hn, hm, hs, ht⟩
  · omega
  · have key : ∀ j u, (ps.flatten ++ [.int .i64 75, .int .i64 0, .int .i64 0, .int .i64 0, .slice none 0 0, .int .i64 76, .int .i64 0, .int .i64 0, .int .i64 0, .slice none 0 0])[j]? = some u → w.cell? ⟨g, j, none⟩ = some u := by
      intro j u hu
      have := h.cells (g := g) rfl j u hu
      rw [Addr.add_lit, Nat.zero_add] at this
      exact this
    have fl := flat_len ps hp.five
    rw [hp.1] at fl
    have at_ : ∀ j, j < ls.length → ∀ i p, i < 5 → ps[j]? = some p → (ps.flatten ++ [.int .i64 75, .int .i64 0, .int .i64 0, .int .i64 0, .slice none 0 0, .int .i64 76, .int .i64 0, .int .i64 0, .int .i64 0, .slice none 0 0])[j * 5 + i]? = p[i]? := by
      intro j hj i p hi hq
      rw [List.getElem?_append_left (by rw [fl]; omega)]
      exact flat_at ps hp.five j i p hq hi
    refine ⟨g, cap, rfl, hn, ⟨cur, _, hg⟩, fun j hj => ?_, key _ _ ?_, key _ _ ?_⟩
    · obtain ⟨m, a, b⟩ := hp.2 j hj
      exact ⟨key (j * 5) _ (at_ j hj 0 _ (by decide) b), key (j * 5 + 1) _ (at_ j hj 1 _ (by decide) b), key (j * 5 + 2) _ (at_ j hj 2 _ (by decide) b), key (j * 5 + 3) _ (at_ j hj 3 _ (by decide) b), m, a, key (j * 5 + 4) _ (at_ j hj 4 _ (by decide) b)⟩
    · rw [List.getElem?_append_right (by omega), fl, Nat.sub_self]
      rfl
    · rw [List.getElem?_append_right (by omega), fl, show (ls.length + 1) * 5 - ls.length * 5 = 5 by omega]
      rfl
theorem box_owns {w : World} {bx base : Nat} {cs : Array Value} {t : TypeId} (h : w.heap[bx]? = some (.cells cs t (0, 0))) (hb : base ≤ bx) : w.ownsRow base t cs.size (.slice (some ⟨bx, 0, none⟩) 1 1) 1 cs.toList :=
  ⟨by simp, .inr ⟨bx, 1, cs, rfl, hb, h, Nat.le_refl _, by decide, by simp, by rw [Nat.one_mul, ← Array.length_toList, List.take_length]⟩⟩
theorem set_grown (w : World) (bx i : Nat) (v : Value) : w.grownBy (w.setCell ⟨bx, i, none⟩ v) (some bx) :=
  ⟨rfl, rfl, rfl, by simp [World.setCell], fun k _ hk => heap_setCell_other w ⟨bx, i, none⟩ k v (fun c => hk (by rw [c]))⟩
theorem five_box {w : World} {bx : Nat} {a b c d e : Value} {t : TypeId} (h : w.heap[bx]? = some (.cells #[a, b, c, d, e] t (0, 0))) :
    (w.cell? ⟨bx, 0, none⟩ = some a ∧ w.cell? ⟨bx, 1, none⟩ = some b ∧ w.cell? ⟨bx, 2, none⟩ = some c ∧ w.cell? ⟨bx, 3, none⟩ = some d ∧ w.cell? ⟨bx, 4, none⟩ = some e) ∧ w.frozen? ⟨bx, 4, none⟩ = false := by
  refine ⟨⟨?_, ?_, ?_, ?_, ?_⟩, frozen_of_row _ _ _ _ _ h⟩ <;> rw [cell_of_row _ _ _ _ _ _ h] <;> rfl
set_option maxRecDepth 100000 in
set_option maxHeartbeats 4000000 in
theorem chain_calls (w : World) (B hb : Nat) (v : Value) (fs : List E.Lk) (ns : List NE) (fss : List FE) (lss : List LE') (h : HG B hb w ns fss lss) (hv : Links B w v fs) (hB : B ≤ hb) (n0 : fs.length ≤ 274877906944) (n1 : ns.length ≤ 274877906944) (n2 : ∀ j, j < fs.length → (fs.getD j E.l0).kids.length ≤ 1099511627776) (n3 : lss.length ≤ 1048576) :
    Calls Try.prog 10 #[.pointer (some ⟨hb, 0, none⟩), v] w fun e w' => ∃ g cap ns', e = .returned (.slice (some ⟨g, 0, none⟩) fs.length cap) ∧ HG B hb w' ns' fss (lss ++ [(.slice (some ⟨g, 0, none⟩) (fs.length + 2) cap, v, fs)]) ∧ ns'.length = ns.length + fs.length ∧ Hk hb w w' := by
  obtain ⟨i0, hi, hz0, hz1, hz2⟩ := info_parts hInfoLink
  obtain ⟨i1, ki, kz0, kz1, kz2⟩ := info_parts hInfoLinks
  obtain ⟨av, cv, rfl, -⟩ := hv.shape
  have hlt := h.lt
  replace hv := hide hv
  replace n2 := hide n2
  have I0 : Hid (∃ ps ns', (w.alloc (.cells #[] 26)).ownsRow w.heap.size 26 5 (.slice (some ⟨w.heap.size, 0, none⟩) 0 0) 0 ps.flatten ∧ LP (w.alloc (.cells #[] 26)) fs 0 ps ∧ HN B hb (w.alloc (.cells #[] 26)) ns' fss lss ∧ ns'.length = ns.length + 0 ∧ Hk hb w (w.alloc (.cells #[] 26))) :=
    ⟨[], ns, World.ownsRow_made w #[] 0 (Nat.le_refl _) (by decide) rfl, ⟨rfl, fun j hj => by omega⟩, h.hn.below hB ((Below.refl _ w).alloc (Nat.le_refl _) _), rfl, (Hk.refl _ _).alloc (Nat.le_of_lt hlt) _⟩
  replace h := hide h
  go_enter Try.func10, Try.ntmps10
  go_wp2_with fail
  go_loopw [5, 6] (fun m x wr => ∃ k : Nat, x = .int .i64 (k : Int) ∧ k ≤ fs.length ∧ Hid (∃ ps ns', wr.ownsRow w.heap.size 26 5 m k ps.flatten ∧ LP wr fs k ps ∧ HN B hb wr ns' fss lss ∧ ns'.length = ns.length + k ∧ Hk hb w wr)) (fun _ x _ => fs.length - (intOf x).toNat)
  case atStart => exact ⟨0, rfl, Nat.zero_le _, I0⟩
  case round =>
    clear I0
    obtain ⟨k, rfl, hk, II⟩ := hrel
    obtain ⟨ps, ns', OO, PP, GG, hns, KK⟩ := II
    have hsz := KK.bel.size
    obtain ⟨a5, c5, rfl⟩ := ownsRow_slice OO
    by_cases hkl : k < fs.length
    · obtain ⟨b, off, rfl, hb', c0, c1, c2, c3, ⟨u, c4, R⟩, -⟩ := (hv.out.below (KK.bel.mono hB)).at_ hkl
      obtain ⟨ua, uc, rfl, un⟩ := R.shape
      have kl : (k : Int) < (fs.length : Int) := by omega
      have k0 : (0 : Int) ≤ (k : Int) := by omega
      have q2 := n2.out k hkl
      have FN := hide (fun m (W : World) (P : LP W fs k ps) (D : DI W m (fs.getD k E.l0).kids) => P.next D)
      obtain ⟨xs, hxs⟩ : ∃ xs, (fs.getD k E.l0).kids = xs := ⟨_, rfl⟩
      obtain ⟨kd, hkd⟩ : ∃ kd, (fs.getD k E.l0).kind = kd := ⟨_, rfl⟩
      obtain ⟨la, hla⟩ : ∃ la, (fs.getD k E.l0).a = la := ⟨_, rfl⟩
      obtain ⟨lb, hlb⟩ : ∃ lb, (fs.getD k E.l0).b = lb := ⟨_, rfl⟩
      obtain ⟨tg, htg⟩ : ∃ tg, (fs.getD k E.l0).tag = tg := ⟨_, rfl⟩
      rw [hxs] at R un c4 q2 FN
      rw [hkd] at c0 FN
      rw [hla] at c1 FN
      rw [hlb] at c2 FN
      rw [htg] at c3 FN
      have X0 := hide (heap_alloc_new wr (.cells #[.int .i64 kd, .int .i64 la, .int .i64 lb, .int .i64 tg, .slice ua xs.length uc] 26))
      have B0 := hide ((Below.refl _ wr).alloc (Nat.le_refl _) (.cells #[.int .i64 kd, .int .i64 la, .int .i64 lb, .int .i64 tg, .slice ua xs.length uc] 26))
      have P0 := hide (PP.keeps ((Hk.refl 0 wr).alloc (Nat.zero_le _) (.cells #[.int .i64 kd, .int .i64 la, .int .i64 lb, .int .i64 tg, .slice ua xs.length uc] 26)))
      have K0 := hide (KK.alloc (Nat.le_of_lt hlt) (.cells #[.int .i64 kd, .int .i64 la, .int .i64 lb, .int .i64 tg, .slice ua xs.length uc] 26))
      have O0 := hide (World.ownsRow.alloc OO (.cells #[.int .i64 kd, .int .i64 la, .int .i64 lb, .int .i64 tg, .slice ua xs.length uc] 26))
      have AP : Hid ((Value.slice a5 k c5).ownBlock = none ∨ (Value.slice a5 k c5).ownBlock ≠ some wr.heap.size) := .inr (fun c => by have := (OO.lt _ c).2; omega)
      go_upto_region 6 with fail
      have q := hide (list_hn _ B hb (.slice ua xs.length uc) xs ns' fss lss (GG.below hB B0.out) (R.below (B0.out.mono (by omega))) hB q2 (by omega))
      have s1 : wr.heap.size < (wr.alloc (.cells #[.int .i64 kd, .int .i64 la, .int .i64 lb, .int .i64 tg, .slice ua xs.length uc] 26)).heap.size := (Array.getElem?_eq_some_iff.1 X0.out).1
      clear hxs hkd hla hlb htg R GG OO PP KK c0 c1 c2 c3 c4
      obtain ⟨W1, hW1⟩ : ∃ W1, wr.alloc (.cells #[.int .i64 kd, .int .i64 la, .int .i64 lb, .int .i64 tg, .slice ua xs.length uc] 26) = W1 := ⟨_, rfl⟩
      rw [hW1] at X0 B0 P0 K0 O0 q s1 ⊢
      clear hW1
      obtain ⟨bx, hbx⟩ : ∃ bx, wr.heap.size = bx := ⟨_, rfl⟩
      rw [hbx] at X0 AP s1 hsz ⊢
      replace B0 := B0.out
      rw [hbx] at B0
      clear B0 hbx
      obtain ⟨⟨i0, i1, i2, i3, i4⟩, -⟩ := five_box X0.out
      go_upto_region 7 with (go_at_call 15; refine q.out.mono ?_; rintro e wq ⟨g1, cap1, rfl, D1, G1, K1⟩; have X1 := hide (K1.block bx _ _ _ X0.out (by decide)); obtain ⟨⟨j0, j1, j2, j3, j4⟩, j5⟩ := five_box X1.out; replace D1 := hide D1; replace G1 := hide G1; replace K1 := hide K1)
      have X2 := hide (heap_setCell_same wq bx 4 _ _ (.slice (some ⟨g1, 0, none⟩) xs.length cap1) X1.out)
      have gb := hide (set_grown wq bx 4 (.slice (some ⟨g1, 0, none⟩) xs.length cap1))
      have BO := hide (box_owns (base := w.heap.size) X1.out (by omega))
      have D3 := hide (D1.out.grown BO.out (by decide) gb.out)
      have sq := K1.out.bel.size
      have G3 := hide (G1.out.grown BO.out (by decide) (by decide) (by omega) (by omega) gb.out)
      have P3 := hide ((P0.out.keeps K1.out).grown BO.out (by decide) gb.out)
      have O3 := hide ((K1.out.row (B := hb) O0.out (by decide)).kept gb.out AP.out)
      have K3 := hide ((K0.out.trans K1.out).grown_new (Nat.le_of_lt hlt) BO.out (Nat.le_refl _) gb.out)
      obtain ⟨⟨l0, l1, l2, l3, l4⟩, -⟩ := five_box (e := .slice (some ⟨g1, 0, none⟩) xs.length cap1) X2.out
      clear i0 i1 i2 i3 i4 j0 j1 j2 j3 j4 j5 D1 G1 P0 O0 K0 K1 X1 X2 BO q AP gb X0
      have sz3 := K3.out.bel.size
      generalize wq.setCell ⟨bx, 4, none⟩ (.slice (some ⟨g1, 0, none⟩) xs.length cap1) = W3 at *
      go_wp2_with (at_builtin; (refine wpList_append_own _ rfl _ _ 23 rfl w.heap.size 26 i0 (.agg #[.int .i64 0, .int .i64 0, .int .i64 0, .int .i64 0, .slice none 0 0]) 5 56 hSliceLink hi hz0 hz1 hz2 rfl (by decide) _ _ _ rfl (World.ownsRow.alloc O3.out _) ⟨W3.heap.size, 0, none⟩ 1 1 [.int .i64 kd, .int .i64 la, .int .i64 lb, .int .i64 tg, .slice (some ⟨g1, 0, none⟩) xs.length cap1] rfl rfl (cells_new _ _ _) (by simp [Value.oneCell']) (by unfold maxLen; omega) (by omega) (by simp; omega) ?_; intro v6 w6 hown6 hgrow6 _; replace hown6 := hide hown6; replace hgrow6 := hide hgrow6))
      go_roundw
      case rel =>
        refine ⟨k + 1, by go_num, by omega, ps ++ [[.int .i64 kd, .int .i64 la, .int .i64 lb, .int .i64 tg, .slice (some ⟨g1, 0, none⟩) xs.length cap1]], ns' ++ [(.slice (some ⟨g1, 0, none⟩) (xs.length + 2) cap1, .slice ua xs.length uc, xs)], ?_, ?_, ?_, ?_, ?_⟩
        · rw [List.flatten_append]
          exact hown6.out
        · exact FN.out _ _ ((P3.out.keeps ((Hk.refl _ _).alloc (Nat.zero_le _) _)).grown (O3.out.alloc _) (by decide) hgrow6.out) ((D3.out.keeps ((Hk.refl _ _).alloc (Nat.zero_le _) _)).grown (O3.out.alloc _) (by decide) hgrow6.out)
        · exact (G3.out.below hB ((Below.refl _ _).alloc (Nat.le_refl _) _)).grown (O3.out.alloc _) (by decide) (by decide) (by omega) (by simp; omega) hgrow6.out
        · rw [List.length_append, hns]
          rfl
        · exact (K3.out.alloc (Nat.le_of_lt hlt) _).grown_new (Nat.le_of_lt hlt) (O3.out.alloc _) (Nat.le_refl _) hgrow6.out
      case measure => simp [intOf]; omega
    · obtain rfl : k = fs.length := by omega
      replace OO := hide OO
      replace PP := hide PP
      replace GG := hide GG
      replace KK := hide KK
      clear hk hkl
      go_upto_region 9 with (at_builtin; (refine wpList_append_own _ rfl _ _ 23 rfl w.heap.size 26 i0 (.agg #[.int .i64 0, .int .i64 0, .int .i64 0, .int .i64 0, .slice none 0 0]) 5 56 hSliceLink hi hz0 hz1 hz2 rfl (by decide) _ _ _ rfl (World.ownsRow.alloc OO.out _) ⟨wr.heap.size, 0, none⟩ 2 2 [.int .i64 75, .int .i64 0, .int .i64 0, .int .i64 0, .slice none 0 0, .int .i64 76, .int .i64 0, .int .i64 0, .int .i64 0, .slice none 0 0] rfl rfl (cells_new _ _ _) (by simp [Value.oneCell']) (by unfold maxLen; omega) (by omega) (by simp; omega) ?_; intro v5 w5 hown5 hgrow5 _; replace hown5 := hide hown5; replace hgrow5 := hide hgrow5))
      have D5 := hide (dl_of_row ((PP.out.keeps ((Hk.refl _ _).alloc (Nat.zero_le _) _)).grown (OO.out.alloc _) (by decide) hgrow5.out) hown5.out)
      have G5 := (GG.out.below hB ((Below.refl _ _).alloc (Nat.le_refl _) _)).grown (OO.out.alloc _) (by decide) (by decide) (by omega) (by simp; omega) hgrow5.out
      have K5 := hide ((KK.out.alloc (Nat.le_of_lt hlt) _).grown_new (Nat.le_of_lt hlt) (World.ownsRow.alloc OO.out _) (Nat.le_refl _) hgrow5.out)
      have A5 := hide (G5.hg h.out hB K5.out)
      have V5 := hide (hv.out.below (K5.out.bel.mono hB))
      obtain ⟨⟨vs, H5⟩, -⟩ := G5
      have lx2 : (rowsH ns' fss lss 4).length ≤ 1048576 := by show (List.map _ lss).length ≤ _; rw [List.length_map]; exact n3
      have lx3 : (rowsH ns' fss lss 5).length ≤ 1048576 := by show (List.map _ lss).length ≤ _; rw [List.length_map]; exact n3
      obtain ⟨xs, hXX⟩ : ∃ xs, rowsH ns' fss lss = xs := ⟨_, rfl⟩
      rw [hXX] at H5 lx2 lx3
      replace hXX := hide hXX
      have lt5 := H5.lt
      obtain ⟨c0, z0⟩ := H5.cell (i := 4) (by decide)
      have P5 : w5.ownsRow (hb + 1) 23 1 (vs 4) (xs 4).length (xs 4) := H5.2.1 4 (by decide)
      obtain ⟨a0, k0, e0⟩ := ownsRow_slice P5
      rw [e0] at c0 P5
      replace P5 := hide P5
      replace H5 := hide H5
      replace e0 := hide e0
      obtain ⟨g5, cap5, rfl, hc5, -⟩ := id D5.out
      clear OO hown5 hgrow5 GG PP KK hsz h hv
      go_upto_region 10 with (at_builtin; (refine wpList_append_own_at _ rfl _ _ 39 rfl (hb + 1) 23 i1 (.slice none 0 0) 1 24 hSliceLinks ki kz0 kz1 kz2 rfl (by decide) _ _ _ rfl (World.ownsRow.alloc P5.out _) ⟨w5.heap.size, 0, none⟩ 1 1 [.slice (some ⟨g5, 0, none⟩) (fs.length + 2) cap5] rfl rfl (cell_one_new _ _ _) (by simp [Value.oneCell']) (by unfold maxLen; omega) (by omega) (by simp; omega) ?_; intro v6 w6 hown6 hgrow6 _ hv6; obtain ⟨a6, k6, rfl⟩ := ownsRow_slice hown6; obtain ⟨H6, K6, c6, z6⟩ := HR.put' e0.out H5.out (i := 4) (by decide) hown6 hgrow6 hv6; replace H6 := hide H6; replace K6 := hide K6; clear hown6 hgrow6 hv6))
      have H6' := H6.out
      have lt6 := H6'.lt
      obtain ⟨c1, z1⟩ := H6'.cell (i := 5) (by decide)
      have P6 : (w6.setCell ⟨hb, 4, none⟩ (.slice a6 ((xs 4).length + 1) k6)).ownsRow (hb + 1) 23 1 (upd vs 4 (.slice a6 ((xs 4).length + 1) k6) 5) (xs 5).length (xs 5) := by
        have := H6'.2.1 5 (by decide)
        rw [upd_other xs 4 _ (by decide)] at this
        exact this
      obtain ⟨a1, k1, e1⟩ := ownsRow_slice P6
      rw [e1] at c1 P6
      have D6 := hide (D5.out.keeps K6.out)
      replace P6 := hide P6
      replace e1 := hide e1
      clear H6' c6 z6 D5 H5 P5 c0 z0 e0
      generalize (w6.setCell ⟨hb, 4, none⟩ (.slice a6 ((xs 4).length + 1) k6)) = w7 at *
      generalize upd vs 4 (.slice a6 ((xs 4).length + 1) k6) = vs1 at *
      go_upto_region 11 with (at_builtin; (refine wpList_append_own_at _ rfl _ _ 39 rfl (hb + 1) 23 i1 (.slice none 0 0) 1 24 hSliceLinks ki kz0 kz1 kz2 rfl (by decide) _ _ _ rfl (World.ownsRow.alloc P6.out _) ⟨w7.heap.size, 0, none⟩ 1 1 [.slice av fs.length cv] rfl rfl (cell_one_new _ _ _) (by simp [Value.oneCell']) (by unfold maxLen; omega) (by omega) (by simp; omega) ?_; intro v8 w8 hown8 hgrow8 _ hv8; obtain ⟨a8, k8, rfl⟩ := ownsRow_slice hown8; obtain ⟨H8, K8, c8, z8⟩ := HR.put' e1.out H6.out (i := 5) (by decide) hown8 hgrow8 hv8; replace H8 := hide H8; replace K8 := hide K8; clear hown8 hgrow8 hv8))
      have D8 := hide (D6.out.keeps K8.out)
      have K68 := hide (K6.out.trans K8.out)
      clear c8 z8 K8 K6 D6 c1 z1 H6 P6 e1
      generalize (w8.setCell ⟨hb, 5, none⟩ (.slice a8 ((xs 5).length + 1) k8)) = w9 at *
      go_wp2_with fail
      go_ret
      have hx := hXX.out
      subst hx
      exact ⟨g5, cap5, ns', rfl, A5.out.link hB K68.out D8.out V5.out ⟨_, H8.out⟩, hns, K5.out.trans K68.out⟩
end Go.Proofs.Ytcpmeehchmdljaa
