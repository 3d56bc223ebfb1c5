/-
  The document's side of sexp: nodes.
-/
import Derived.Test.YtackibimlpkcmaaGreatDoorKz37
import Derived.Test.YtackibimlpkcmaaGreatDoorKz31
/- ==== RefNodes ==== -/
namespace Go.Proofs.YtackibimlpkcmaaGreatDoor
open Go.RowKit
set_option linter.unusedVariables false
/-- How many closing ones stand ahead. -/
def cn (ts : List S.Tok) (j : Nat) : Int := (j : Int) - X.nb ts j
theorem nb_self (ts : List S.Tok) : ∀ j, j ≤ ts.length → X.nb ts j ≤ j
  | 0, _ => by rw [X.nb_zero]; exact Nat.le_refl _
  | j + 1, h => by
    have := nb_self ts j (by omega)
    have e := X.nb_succ ts j (by omega)
    split at e <;> omega
theorem cn_succ (ts : List S.Tok) (j : Nat) (h : j < ts.length) : cn ts (j + 1) = cn ts j + if (ts.getD j tk0).kind = 2 then 1 else 0 := by
  have e := X.nb_succ ts j h
  have hh : (ts.getD j X.t0) = ts.getD j tk0 := rfl
  rw [hh] at e
  unfold cn
  by_cases hk : (ts.getD j tk0).kind = 2
  · rw [if_pos hk] at e ⊢
    omega
  · rw [if_neg hk] at e ⊢
    omega
def CnAt (ts : List S.Tok) (hi k : Nat) (xs : List Int) : Prop := xs.length = hi + 1 ∧ ∀ j, j ≤ k → xs.getD j 0 = cn ts j
theorem CnAt.next {ts : List S.Tok} {hi k : Nat} {xs : List Int} (h : CnAt ts hi k xs) (hk : k < hi) (x : Int) (hx : x = cn ts (k + 1)) : CnAt ts hi (k + 1) (xs.set (k + 1) x) := by
  obtain ⟨h1, h2⟩ := h
  refine ⟨by simpa using h1, fun j hj => ?_⟩
  by_cases hjk : j = k + 1
  · subst hjk
    rw [X.getD_set _ _ _ (by omega), hx]
  · rw [X.getD_set_ne _ _ _ (by omega)]
    exact h2 j (by omega)
theorem own_apartI {B B' : Nat} {w : World} {v u : Value} {ns : List X.N} {xs : List Int} (h : OwnN B w v ns) (k : OwnI B' w u xs) : (u.ownBlock = none ∨ u.ownBlock ≠ v.ownBlock) ∧ (v.ownBlock = none ∨ v.ownBlock ≠ u.ownBlock) := by
  rcases k.2 with ⟨rfl, _⟩ | ⟨g, cap, cur, rfl, _, hb, _⟩
  · refine ⟨.inl rfl, ?_⟩
    cases hv : v.ownBlock with
    | none => exact .inl rfl
    | some x => exact .inr (by simp [Value.ownBlock])
  · rcases h.2 with ⟨rfl, _⟩ | ⟨g', cap', cur', rfl, _, hb', _⟩
    · exact ⟨.inr (by simp [Value.ownBlock]), .inl rfl⟩
    · have hne : g ≠ g' := by
        rintro rfl
        have := hb.symm.trans hb'
        simp at this
      exact ⟨.inr (by simpa [Value.ownBlock] using hne), .inr (by simpa [Value.ownBlock] using hne.symm)⟩
set_option maxRecDepth 100000 in
set_option maxHeartbeats 1000000 in
theorem nodes_calls (w : World) (v u : Value) (ts : List S.Tok) (tz : List Int) (hi : Nat) (B : Nat) (hv : TRow w v ts) (hu : OwnI B w u tz) (hz : tz.length = ts.length) (hn0 : ts.length ≤ 4294967298) (hhi : hi ≤ ts.length)
    (hto : ∀ j, j < hi → ∃ m : Nat, tz.getD j 0 = m ∧ j ≤ m ∧ m < hi) :
    Calls Tryz.prog 26 #[v, u, .int .i64 0, .int .i64 hi] w fun e w' => ∃ r, e = .returned r ∧ NRow w' r (X.nds ts tz hi) ∧ Below w.heap.size w w' := by
  obtain ⟨i0, hi0, hz0, hz1, hz2⟩ := info_parts infoNode
  obtain ⟨n, hn⟩ : ∃ n, ts.length = n := ⟨_, rfl⟩
  obtain ⟨a1, cp1, rfl, n1, n1'⟩ := hv.shape
  obtain ⟨ua, uc, hua⟩ := own_shape (ownsRow_zero hu)
  subst hua
  have t1 := hide hv
  have u1 := hide hu
  have htoH := hide hto
  rw [hn] at n1 hn0 t1 hhi hz ⊢
  rw [hz] at u1 ⊢
  have hzH := hide hz
  have hnH := hide hn
  clear hv hn hu hz hto
  go_enter Tryz.func26, Tryz.ntmps26
  go_wp2_with (first
    | (at_make; refine wpList_make_own _ rfl _ _ 22 rfl w.heap.size 42 i0 _ 5 sliceNode hi0 hz0 hz1 .i64 .i64 _ 0 rfl rfl rfl (by rw [hz2]; omega) (by unfold maxLen; omega) (Nat.le_refl _) ?_; intro w1 o1 g1; have z1 := g1.size; have N1 : Hid (OwnN w.heap.size w1 _ []) := o1; have B1 : Hid (Below w.heap.size w w1) := (Below.refl _ w).grown g1 (Nat.le_refl _) (by simp); clear o1 g1)
    | (at_make; refine wpList_make_ints _ rfl _ _ 59 rfl .i64 3 8 sliceInt infoInt .i64 .i64 _ _ (hi + 1) rfl rfl (by omega) (by omega) (by decide) (by omega) ?_; intro w2 o2 g2 z2; replace o2 := hide o2; replace g2 := hide g2))
  have N2 : Hid (OwnN w.heap.size w2 (.slice (some ⟨w.heap.size, 0, none⟩) 0 0) []) := World.ownsRow.kept N1.out g2.out (.inr (by simp [Value.ownBlock]))
  have B2 : Hid (Below w.heap.size w w2) := B1.out.grown g2.out z1 (by simp)
  have I2 : OwnI w.heap.size w2 (.slice (some ⟨w1.heap.size, 0, none⟩) (hi + 1) (hi + 1)) (List.replicate (hi + 1) 0) := by
    unfold OwnI
    rw [List.length_replicate]
    exact ownsRow_base (ownsRow_zero o2.out) (fun k hk => by have := (o2.out.lt k hk).1; omega)
  replace I2 := hide I2
  have C2 : Hid (CnAt ts hi 0 (List.replicate (hi + 1) 0)) := ⟨by simp, fun j hj => by
    obtain rfl : j = 0 := by omega
    simp [cn, X.nb_zero]⟩
  clear o2 g2 N1 B1
  go_loopw [11] (fun j wr => ∃ (k : Nat) (xs : List Int), k ≤ hi ∧ j = .int .i64 k ∧ Hid (CnAt ts hi k xs) ∧ Hid (OwnN w.heap.size wr (.slice (some ⟨w.heap.size, 0, none⟩) 0 0) []) ∧ Hid (OwnI w.heap.size wr (.slice (some ⟨w1.heap.size, 0, none⟩) (hi + 1) (hi + 1)) xs) ∧ Hid (Below w.heap.size w wr)) (fun j _ => hi - (intOf j).toNat)
  case atStart => exact ⟨0, _, Nat.zero_le _, rfl, C2, N2, I2, B2⟩
  case round =>
    clear C2 N2 I2 B2 z2
    obtain ⟨k, xs, hk, rfl, hC, hN, hI, hB⟩ := hrel
    have hxl := hC.out.1
    obtain ⟨Z, cz, eZ, _, _, _, hZl, fz, hcell, hset⟩ := hI.out.at_ (j := k) (by omega)
    rw [hxl] at eZ hcell
    cases eZ
    by_cases hlt : k < hi
    · have hkl : k < ts.length := by rw [hnH.out]; omega
      obtain ⟨b, off, rfl, x0, x1, x2, x3⟩ := (t1.out.below hB.out).at_ hkl
      obtain ⟨b', off', eb, y0, _, _, _⟩ := t1.out.at_ hkl
      cases eb
      have hbG : b < w.heap.size := World.block_lt_of_cell? w _ y0
      have hb1 : ¬ b = w1.heap.size := by omega
      have hb2 : ¬ w1.heap.size = b := by omega
      have hcs := cn_succ ts k hkl
      have hck := hC.out.2 k (Nat.le_refl _)
      have hnk := nb_self ts k (by omega)
      have hc0 : 0 ≤ cn ts k := by unfold cn; omega
      have hc1 : cn ts k ≤ k := by unfold cn; omega
      generalize ts.getD k tk0 = t at x0 hcs
      obtain ⟨tk, tb, tf, tx⟩ := t
      simp only at x0 hcs
      have ck := hcell k (by omega)
      have ck1 := hcell (k + 1) (by omega)
      have fk := fz (k + 1)
      rw [hck] at ck
      obtain ⟨c, hcc⟩ : ∃ c, cn ts k = c := ⟨_, rfl⟩
      rw [hcc] at ck hcs hc0 hc1
      have ik : (k : Int) < hi := by omega
      have iz : (k : Int) < (hi : Int) + 1 := by omega
      have iz1 : (k : Int) + 1 < (hi : Int) + 1 := by omega
      clear y0 x1 x2 x3 hck hcc hnk
      by_cases h2 : tk = 2
      · subst h2
        rw [if_pos rfl] at hcs
        have I3 : Hid (OwnI w.heap.size ((wr.setCell ⟨w1.heap.size, k + 1, none⟩ (.int .i64 c)).setCell ⟨w1.heap.size, k + 1, none⟩ (.int .i64 (c + 1))) (.slice (some ⟨w1.heap.size, 0, none⟩) (hi + 1) (hi + 1)) (xs.set (k + 1) (c + 1))) := by
          have s1 := hset (k + 1) c
          obtain ⟨Z2, cz2, eZ2, _, _, _, _, _, _, hset2⟩ := s1.at_ (j := k) (by simp; omega)
          simp only [Value.slice.injEq, Option.some.injEq, Addr.mk.injEq] at eZ2
          have s2 := hset2 (k + 1) (c + 1)
          rw [← eZ2.1.1, List.set_set] at s2
          exact s2
        have C3 : Hid (CnAt ts hi (k + 1) (xs.set (k + 1) (c + 1))) := hC.out.next hlt _ hcs.symm
        have hne : (Value.slice (some ⟨w.heap.size, 0, none⟩) 0 0).ownBlock ≠ some w1.heap.size := fun e => by
          have := (own_apartI hN.out hI.out).2
          simp [Value.ownBlock] at this e
          exact this e
        have N3 : Hid (OwnN w.heap.size ((wr.setCell ⟨w1.heap.size, k + 1, none⟩ (.int .i64 c)).setCell ⟨w1.heap.size, k + 1, none⟩ (.int .i64 (c + 1))) (.slice (some ⟨w.heap.size, 0, none⟩) 0 0) []) := World.ownsRow.kept (World.ownsRow.kept hN.out (set_grown _ _ _ _) (.inr hne)) (set_grown _ _ _ _) (.inr hne)
        clear hset hcell fz hcs hC hne
        go_wp2
        refine ⟨⟨k + 1, _, by omega, by go_num, C3, N3, I3, (hB.out.setCell z1 _).setCell z1 _⟩, by simp [intOf]; omega⟩
      · rw [if_neg h2, Int.add_zero] at hcs
        have I3 : Hid (OwnI w.heap.size (wr.setCell ⟨w1.heap.size, k + 1, none⟩ (.int .i64 c)) (.slice (some ⟨w1.heap.size, 0, none⟩) (hi + 1) (hi + 1)) (xs.set (k + 1) c)) := hset (k + 1) c
        have C3 : Hid (CnAt ts hi (k + 1) (xs.set (k + 1) c)) := hC.out.next hlt _ hcs.symm
        have hne : (Value.slice (some ⟨w.heap.size, 0, none⟩) 0 0).ownBlock ≠ some w1.heap.size := fun e => by
          have := (own_apartI hN.out hI.out).2
          simp [Value.ownBlock] at this e
          exact this e
        have N3 : Hid (OwnN w.heap.size (wr.setCell ⟨w1.heap.size, k + 1, none⟩ (.int .i64 c)) (.slice (some ⟨w.heap.size, 0, none⟩) 0 0) []) := World.ownsRow.kept hN.out (set_grown _ _ _ _) (.inr hne)
        have k2 : ¬ (tk : Int) = 2 := by omega
        clear hset hcell fz hcs hC hne h2
        go_wp2
        refine ⟨⟨k + 1, _, by omega, by go_num, C3, N3, I3, hB.out.setCell z1 _⟩, by simp [intOf]; omega⟩
    · have ik : ¬ (k : Int) < hi := by omega
      have hkh : hi = k := by omega
      subst hkh
      clear hset fz hcell hlt hk
      have N5 : Hid (OwnN w.heap.size wr (.slice (some ⟨w.heap.size, 0, none⟩) 0 0) (X.nds ts tz 0)) := hN.out
      go_wp2
      go_loopw [9, 12] (fun v j wq => ∃ k : Nat, k ≤ hi ∧ j = .int .i64 k ∧ Hid (OwnN w.heap.size wq v (X.nds ts tz k) ∧ (X.nds ts tz k).length ≤ k) ∧ Hid (OwnI w.heap.size wq (.slice (some ⟨w1.heap.size, 0, none⟩) (hi + 1) (hi + 1)) xs) ∧ Hid (Below w.heap.size w wq)) (fun _ j _ => hi - (intOf j).toNat)
      case atStart => exact ⟨0, Nat.zero_le _, rfl, ⟨N5.out, Nat.zero_le _⟩, hI, hB⟩
      case round =>
        clear N5 hN hI hB ik
        obtain ⟨k, hk, rfl, hN, hI, hB⟩ := hrel
        have hNl := hN.out.2
        replace hN := hide hN.out.1
        have hwz : w.heap.size ≤ wr.heap.size := hB.out.size
        obtain ⟨va, vc, hv⟩ := own_shape (ownsRow_zero hN.out)
        subst hv
        obtain ⟨L, hL⟩ : ∃ L, (X.nds ts tz k).length = L := ⟨_, rfl⟩
        have hN2 := hN.out
        unfold OwnN at hN2
        rw [hL] at hN2 hN hNl ⊢
        replace hN2 := hide hN2
        have hLh := hide hL
        clear hL
        by_cases hlt : k < hi
        · have hkl : k < ts.length := by rw [hnH.out]; omega
          obtain ⟨Z, cz, eZ, _, _, _, hZl, fz, hcell, hset⟩ := hI.out.at_ (j := k) (by omega)
          rw [hxl] at eZ hcell
          cases eZ
          obtain ⟨b, off, rfl, x0, x1, x2, x3⟩ := (t1.out.below hB.out).at_ hkl
          have hap := own_apartI hN.out hI.out
          have hapH := hide hap
          have ik : (k : Int) < hi := by omega
          have ikn : (k : Int) < n := by omega
          have hS : X.nds ts tz (k + 1) = if (ts.getD k tk0).kind = 2 then X.nds ts tz k else X.nds ts tz k ++ [X.nd ts tz k] := rfl
          have hD : X.nd ts tz k = if (ts.getD k tk0).kind = 1 then ⟨1, (ts.getD k tk0).beg, (ts.getD (tz.getD k 0).toNat tk0).fin, X.nb ts ((tz.getD k 0).toNat + 1) - X.nb ts k, []⟩ else X.atom (ts.getD k tk0) := rfl
          clear hset hap
          generalize ts.getD k tk0 = t at x0 x1 x2 x3 hS hD
          obtain ⟨tk, tb, tf, tx⟩ := t
          simp only at x0 x1 x2 x3 hS hD
          by_cases h2 : tk = 2
          · subst h2
            rw [if_pos rfl] at hS
            have B4 := hide ((hB.out).alloc hwz (.cells #[.int .i64 2, .int .i64 (tb : Int), .int .i64 (tf : Int), .string ⟨tx.toArray⟩] 61))
            have N4 : Hid (OwnN w.heap.size (wr.alloc (.cells #[.int .i64 2, .int .i64 (tb : Int), .int .i64 (tf : Int), .string ⟨tx.toArray⟩] 61)) (.slice va L vc) (X.nds ts tz (k + 1)) ∧ (X.nds ts tz (k + 1)).length ≤ k + 1) := by
              rw [hS]
              exact ⟨World.ownsRow.alloc hN.out _, by rw [hLh.out]; omega⟩
            clear hS hD hcell fz
            go_wp2
            refine ⟨⟨k + 1, by omega, by go_num, N4, World.ownsRow.alloc hI.out _, B4.out⟩, by simp [intOf]; omega⟩
          · rw [if_neg h2] at hS
            have k2 : ¬ (tk : Int) = 2 := by omega
            by_cases h1 : tk = 1
            · subst h1
              rw [if_pos rfl] at hD
              obtain ⟨m, hm1, hm2, hm3⟩ := htoH.out k hlt
              have hml : m < ts.length := by rw [hnH.out]; omega
              rw [hm1, Int.toNat_natCast] at hD
              obtain ⟨G, cg, eG, _, _, _, hGl, _, hcellG, _⟩ := u1.out.at_ (j := k) (by rw [hzH.out]; omega)
              rw [hzH.out] at eG hcellG
              cases eG
              have cG := hcellG k (by omega)
              rw [hm1] at cG
              replace cG := (hB.out.cell (p := ⟨G, k, none⟩) hGl).trans cG
              obtain ⟨b', off', eb, _, _, xm, _⟩ := (t1.out.below hB.out).at_ hml
              cases eb
              have ck := hcell k (by omega)
              have cm := hcell (m + 1) (by omega)
              rw [hC.out.2 k (by omega)] at ck
              rw [hC.out.2 (m + 1) (by omega)] at cm
              generalize (ts.getD m tk0).fin = mf at xm hD
              have B4 := (Below.refl _ wr).alloc (Nat.le_refl _) (.cells #[.int .i64 1, .int .i64 (tb : Int), .int .i64 (tf : Int), .string ⟨tx.toArray⟩] 61)
              have hGr : G < wr.heap.size := by omega
              have hbr : b < wr.heap.size := World.block_lt_of_cell? wr _ x0
              have cGa := (B4.cell (p := ⟨G, k, none⟩) hGr).trans cG
              have cka := (B4.cell (p := ⟨w1.heap.size, k, none⟩) hZl).trans ck
              have cma := (B4.cell (p := ⟨w1.heap.size, m + 1, none⟩) hZl).trans cm
              have xma := (B4.cell (p := ⟨b, off + m * 4 + 2, none⟩) hbr).trans xm
              have hsz : Hid ((m : Int) - k + 1 - (cn ts (m + 1) - cn ts k) = ((X.nb ts (m + 1) - X.nb ts k : Nat) : Int)) := by
                have := X.nb_le (l := ts) (a := k) (b := m + 1) (by omega) (by omega)
                show _ = _
                unfold cn
                omega
              have b1 : 0 ≤ cn ts k ∧ cn ts k ≤ k := by have := nb_self ts k (by omega); unfold cn; omega
              have b2 : 0 ≤ cn ts (m + 1) ∧ cn ts (m + 1) ≤ m + 1 := by have := nb_self ts (m + 1) (by omega); unfold cn; omega
              obtain ⟨b1, b1'⟩ := b1
              obtain ⟨b2, b2'⟩ := b2
              generalize cn ts k = c1 at ck cka hsz b1 b1'
              generalize cn ts (m + 1) = c2 at cm cma hsz b2 b2'
              have im : (m : Int) < n := by omega
              have iz : (k : Int) < (hi : Int) + 1 := by omega
              have iz1 : (m : Int) + 1 < (hi : Int) + 1 := by omega
              have B4H := hide B4
              clear hcell fz hcellG hm1 B4
              go_wp2
              go_quiet (fail)
              go_wp2
              rw [hsz.out]
              have B5 : Below wr.heap.size wr ((wr.alloc (.cells #[.int .i64 1, .int .i64 (tb : Int), .int .i64 (tf : Int), .string ⟨tx.toArray⟩] 61)).drewN nq) := below_drewN B4H.out _
              have y1 : ((wr.alloc (.cells #[.int .i64 1, .int .i64 (tb : Int), .int .i64 (tf : Int), .string ⟨tx.toArray⟩] 61)).drewN nq).cell? ⟨wr.heap.size, 1, none⟩ = some (.int .i64 (tb : Int)) := cell_of_row _ _ 1 _ _ (0, 0) (heap_alloc_new wr _)
              clear cGa cka cma xma ck cm hsz b1 b1' b2 b2' x0 x1 x2 x3 k2
              generalize (wr.alloc (.cells #[.int .i64 1, .int .i64 (tb : Int), .int .i64 (tf : Int), .string ⟨tx.toArray⟩] 61)).drewN nq = w5 at B5 y1 ⊢
              generalize X.nb ts (m + 1) - X.nb ts k = sz at hD ⊢
              have y2 := (B5.cell (p := ⟨G, k, none⟩) hGr).trans cG
              have y3 := (B5.cell (p := ⟨b, off + m * 4 + 2, none⟩) hbr).trans xm
              have hw5 : wr.heap.size ≤ w5.heap.size := B5.size
              have N5 : Hid (OwnN w.heap.size w5 (.slice va L vc) (X.nds ts tz k)) := ownsRow_kept hN.out B5
              have I5 : Hid (OwnI w.heap.size w5 (.slice (some ⟨w1.heap.size, 0, none⟩) (hi + 1) (hi + 1)) xs) := ownsRow_kept hI.out B5
              have B6 : Hid (Below w.heap.size w w5) := hB.out.trans (B5.mono hwz)
              have HT : Hid ((w5.alloc (.cells #[.int .i64 1, .int .i64 (tb : Int), .int .i64 (mf : Int), .int .i64 (sz : Int), .string ⟨#[]⟩] 42)).drew.ownsRow w.heap.size 42 5 (.slice va L vc) L (nsCells (X.nds ts tz k))) := by
                have := World.ownsRow.alloc N5.out (.cells #[.int .i64 1, .int .i64 (tb : Int), .int .i64 (mf : Int), .int .i64 (sz : Int), .string ⟨#[]⟩] 42)
                rw [hLh.out] at this
                exact this
              have HN : Hid (∀ j u, ([.int .i64 1, .int .i64 (tb : Int), .int .i64 (mf : Int), .int .i64 (sz : Int), .string ⟨#[]⟩] : List Value)[j]? = some u → (w5.alloc (.cells #[.int .i64 1, .int .i64 (tb : Int), .int .i64 (mf : Int), .int .i64 (sz : Int), .string ⟨#[]⟩] 42)).drew.cell? ((⟨w5.heap.size, 0, none⟩ : Addr).add j) = some u) := five_new w5 _ _ _ _ _ _
              have I6 : Hid ((w5.alloc (.cells #[.int .i64 1, .int .i64 (tb : Int), .int .i64 (mf : Int), .int .i64 (sz : Int), .string ⟨#[]⟩] 42)).drew.ownsRow w.heap.size 3 1 (.slice (some ⟨w1.heap.size, 0, none⟩) (hi + 1) (hi + 1)) xs.length (xs.map (Value.int .i64))) := World.ownsRow.alloc I5.out _
              replace B5 := hide B5
              clear cG xm B4H hN hN2 hI hB
              go_region_law (refine step_append_mine rfl (.tmp 99) (.tmp 112) 22 rfl w.heap.size 42 i0 (.agg #[.int .i64 0, .int .i64 0, .int .i64 0, .int .i64 0, .string ⟨#[]⟩]) 5 48 sliceNode hi0 hz0 hz1 hz2 rfl (by decide) (.slice va L vc) L (nsCells (X.nds ts tz k)) (by simp [Act.eval]) HT.out ⟨w5.heap.size, 0, none⟩ 1 1 [.int .i64 1, .int .i64 (tb : Int), .int .i64 (mf : Int), .int .i64 (sz : Int), .string ⟨#[]⟩] (by simp [Act.eval]) rfl HN.out (by simp [Value.oneCell']) (by unfold maxLen; omega) (by omega) (by simp; omega) ?_; intro v6 w6 o6 g6 m6; replace o6 := hide o6; replace g6 := hide g6; clear m6)
              all_goals go_wp2
              all_goals refine ⟨⟨k + 1, by omega, by go_num, ⟨by rw [hS, hD]; exact OwnN.snoc hLh.out o6.out, by rw [hS, hD, List.length_append, hLh.out]; simp; omega⟩, World.ownsRow.kept I6.out g6.out hapH.out.1, (B6.out.alloc B6.out.size _).drew.grown g6.out (by simp; omega) (fun g hg => (HT.out.lt g hg).1)⟩, by simp [intOf]; omega⟩
            · rw [if_neg h1] at hD
              have k1 : ¬ (tk : Int) = 1 := by omega
              clear hcell fz h1 h2
              go_wp2_with (at_builtin; (refine wpList_append_own _ rfl _ _ 22 rfl w.heap.size 42 i0 (.agg #[.int .i64 0, .int .i64 0, .int .i64 0, .int .i64 0, .string ⟨#[]⟩]) 5 48 sliceNode hi0 hz0 hz1 hz2 rfl (by decide) _ L _ rfl ((hN2.out.alloc _).alloc _) ⟨wr.heap.size + 1, 0, none⟩ 1 1 [.int .i64 (tk : Int), .int .i64 (tb : Int), .int .i64 (tf : Int), .int .i64 1, .string ⟨tx.toArray⟩] rfl rfl (five_new' _ _ _ _ _ _ _) (by simp [Value.oneCell']) (by unfold maxLen; omega) (by omega) (by simp; omega) ?_; intro v4 w4 o4 g4 _; replace o4 := hide o4; replace g4 := hide g4))
              refine ⟨⟨k + 1, by omega, by go_num, ?_, World.ownsRow.kept (World.ownsRow.alloc (World.ownsRow.alloc hI.out _) _) g4.out hapH.out.1, ((hB.out.alloc hwz _).alloc (by simp; omega) _).grown g4.out (by simp; omega) (fun g hg => (hN2.out.lt g hg).1)⟩, by simp [intOf]; omega⟩
              rw [hS, hD]
              exact ⟨OwnN.snoc hLh.out o4.out, by rw [List.length_append, hLh.out]; simp; omega⟩
        · have ik : ¬ (k : Int) < hi := by omega
          have hkh : hi = k := by omega
          subst hkh
          go_wp2
          refine bodyPost_ret (v := .slice va L vc) (by simp [results, Tryz.results26, go_sem]) rfl ?_
          exact ⟨_, rfl, hN.out.row, hB.out⟩
end Go.Proofs.YtackibimlpkcmaaGreatDoor
