/-
  OrderFresh: the lists that Waiting answers are new memory.
-/
import Derived.Test.YtigbclhkmjcjjaaFreshMath
import Derived.Test.YtigbclhkmjcjjaaSortsLaw
import Derived.Test.YtigbclhkmjcjjaaRefNew
namespace Go.Proofs.Ytigbclhkmjcjjaa
open Go.RowKit
set_option linter.unusedVariables false
theorem owns_drewN {w : World} {base n : Nat} {t : TypeId} {v : Value} {xs : List Value} (h : w.ownsRow base t 1 v n xs) (m : Nat) : (w.drewN m).ownsRow base t 1 v n xs := h
/-- Numbers as values. -/
abbrev nums (l : List Nat) : List Value := l.map fun x : Nat => Value.int .i64 (x : Int)
theorem opt_ne {x y : Option Nat} {c : Nat} (hx : ∀ g, x = some g → g < c) (hy : ∀ g, y = some g → c ≤ g) : (x = none ∨ x ≠ y) ∧ (y = none ∨ y ≠ x) := by
  cases x with
  | none => exact ⟨.inl rfl, by cases y <;> simp⟩
  | some a =>
    cases y with
    | none => exact ⟨.inr (by simp), .inl rfl⟩
    | some b =>
      have h1 := hx a rfl
      have h2 := hy b rfl
      exact ⟨.inr (fun e => by cases e; omega), .inr (fun e => by cases e; omega)⟩
set_option maxRecDepth 100000 in
set_option maxHeartbeats 16000000 in
theorem fresh_of (w : World) (n : Int) (sv : Value) (BG : Calls Try.prog 9 #[.int .i64 n, sv] w fun e w' => ∃ o, e = .returned (.tuple #[optr o, .int .i64 (o.n : Nat)]) ∧ 1 ≤ o.n ∧ o.n ≤ 60 ∧ (∀ b, b ∈ blks o → w.heap.size ≤ b) ∧ Below w.heap.size w w' ∧ ∃ s, Good w' o s ∧ Fit s) :
    Calls Try.prog 4 #[.int .i64 n, sv] w fun e w' => e = .returned (.bool true) ∧ Below w.heap.size w w' := by
  obtain ⟨i0, hi, hz0, hz1, hz2⟩ := info_parts ordInfoInt
  replace BG := hide BG
  go_enter Try.func4, Try.ntmps4
  go_wp2_with fail
  refine BG.out.mono ?_
  rintro e w1 ⟨o, rfl, o1, o2, hb, B1, s, G, F⟩
  clear BG
  have WT := hide (waiting_calls w1 o s G)
  have GK : Hid (∀ W, Below w1.heap.size w1 W → Good W o s) := fun W b => G.keep (Chg.of_below (S := []) b) (fun _ _ => by simp)
  have glt : Hid (∀ b, b ∈ blks o → b < w1.heap.size) := G.ord.lt
  replace hb := hide hb
  replace B1 := hide B1
  clear F
  replace G := hide G
  go_wp2_with fail
  refine WT.out.mono ?_
  rintro e w2 ⟨va, l, rfl, hl, hlen, OA, B2⟩
  have hl60 : l.length ≤ 60 := by have := G.out.ord.hhl; omega
  have WT2 := hide (waiting_calls w2 o s (GK.out w2 B2))
  replace OA := hide OA
  replace B2 := hide B2
  replace hl := hide hl
  replace hlen := hide hlen
  clear WT G
  go_wp2_with fail
  refine WT2.out.mono ?_
  rintro e w3 ⟨vb, l', rfl, hl', hlen', OB, B3⟩
  obtain rfl := hl.out.uniq hl'
  clear hl' hlen' WT2
  have ltA : ∀ g, va.ownBlock = some g → w1.heap.size ≤ g ∧ g < w2.heap.size := fun g e => OA.out.lt g e
  have ltB : ∀ g, vb.ownBlock = some g → w2.heap.size ≤ g ∧ g < w3.heap.size := fun g e => OB.lt g e
  have OA3 : w3.ownsRow w1.heap.size 3 1 va l.length (nums l) := owns_same OA.out (fun g e => B3.block g (ltA g e).2)
  have B13 := hide (B2.out.then_below B3)
  have SM := hide (sameInts_calls w3 va vb l (owns_irow OA3) (owns_irow OB) (by omega))
  have s23 : w2.heap.size ≤ w3.heap.size := B3.size
  have s12 : w1.heap.size ≤ w2.heap.size := B2.out.size
  replace ltA := hide ltA
  replace ltB := hide ltB
  replace OA3 := hide OA3
  replace OB := hide OB
  clear OA B2 B3
  go_wp2_with fail
  refine SM.out.mono ?_
  rintro e w3' ⟨rfl, m, rfl⟩
  clear SM
  have W0 : Hid (((w3.drewN m).alloc (.cells #[] 3)).ownsRow w3.heap.size 3 1 (.slice (some ⟨w3.heap.size, 0, none⟩) 0 0) 0 (nums (l.take 0))) := World.ownsRow_lit (base := w3.heap.size) (e := 3) (size := 1) (w3.drewN m) #[] 0 (Nat.le_refl _) (by decide) rfl
  have BW : Hid (Below w3.heap.size w3 ((w3.drewN m).alloc (.cells #[] 3))) := (Chg.below ((((Chg.refl [] w3).drewN m)).alloc _) (Nat.le_refl _) (fun b hb => by simp at hb))
  obtain ⟨aa, ca, hva⟩ := owns_shape OA3.out
  have cellA : Hid (∀ W, Below w3.heap.size w3 W → ∀ j, j < l.length → ∃ g, aa = some ⟨g, 0, none⟩ ∧ W.cell? ⟨g, j, none⟩ = some (.int .i64 (l.getD j 0 : Nat))) := by
    intro W b j hj
    have h1 : W.ownsRow w1.heap.size 3 1 va l.length (nums l) := owns_same OA3.out (fun g e => b.block g (Nat.lt_of_lt_of_le (ltA.out g e).2 s23))
    obtain ⟨a', c', e, hc⟩ := owns_irow h1
    rw [hva] at e
    cases e
    exact hc j hj
  subst hva
  obtain ⟨ab, cb, hvb⟩ := owns_shape OB.out
  subst hvb
  go_wp2_with fail
  generalize hw4 : (w3.drewN m).alloc (.cells #[] 3) = w4 at *
  clear hw4
  go_loopw [9, 10] (fun r i wr => ∃ k : Nat, i = .int .i64 (k : Int) ∧ k ≤ l.length ∧ Hid (wr.ownsRow w3.heap.size 3 1 r k (nums (l.take k))) ∧ Hid (Below w3.heap.size w3 wr)) (fun _ i _ => l.length - (intOf i).toNat)
  case atStart => exact ⟨0, rfl, Nat.zero_le _, W0, BW⟩
  case round =>
    clear W0 BW
    obtain ⟨k, rfl, hk, WW, BB⟩ := hrel
    by_cases hlt : k < l.length
    · obtain ⟨g, rfl, ck⟩ := cellA.out wr BB.out k hlt
      have jl : (k : Int) < (l.length : Int) := by omega
      have et : Hid (nums (l.take (k + 1)) = nums (l.take k) ++ [.int .i64 (l.getD k 0 : Nat)]) := by
        show _ = _
        have e2 : l.take (k + 1) = l.take k ++ [l[k]] := by simp
        rw [List.getD_eq_getElem?_getD, List.getElem?_eq_getElem hlt]
        unfold nums
        rw [e2, List.map_append]
        rfl
      generalize l.getD k 0 = x at *
      have hBx := BB.out.size
      replace cellA := hide cellA.out
      go_wp2_with (at_builtin; refine wpList_append_own _ rfl _ _ 26 rfl w3.heap.size 3 i0 (.int .i64 0) 1 8 ordSliceInt hi hz0 hz1 hz2 rfl (by decide) _ _ _ rfl (WW.out.alloc _) ⟨_, 0, none⟩ 1 1 [.int .i64 x] rfl rfl (cell_one_new _ _ _) (by simp [Value.oneCell']) (by unfold maxLen; omega) (by omega) (by simp; omega) ?_; intro v' w2' hown' hgrow _; replace hown' := hide hown'; replace hgrow := hide hgrow)
      go_roundw
      case rel =>
        refine ⟨k + 1, by go_num, by omega, ?_, (BB.out.alloc hBx _).grown hgrow.out (by simp; omega) (fun g hg => ((WW.out.lt g hg).1))⟩
        show World.ownsRow _ _ _ _ _ _ _
        rw [et.out]
        exact hown'.out
      case measure => simp [intOf]; omega
    · obtain rfl : k = l.length := by omega
      clear hlt hk cellA
      rw [List.take_length] at WW
      have sW := BB.out.size
      have OAr : wr.ownsRow w1.heap.size 3 1 (.slice aa l.length ca) l.length (nums l) := owns_same OA3.out (fun g e => BB.out.block g (Nat.lt_of_lt_of_le (ltA.out g e).2 s23))
      have OBr : wr.ownsRow w2.heap.size 3 1 (.slice ab l.length cb) l.length (nums l) := owns_same OB.out (fun g e => BB.out.block g (ltB.out g e).2)
      have ltW : Hid (∀ g, u9.ownBlock = some g → w3.heap.size ≤ g ∧ g < wr.heap.size) := fun g e => WW.out.lt g e
      have Br := hide (B13.out.then_below BB.out)
      replace OAr := hide OAr
      replace OBr := hide OBr
      clear OA3 OB B13 BB
      go_upto_region 14 with (at_builtin; refine wpList_append_keeps _ rfl _ _ 26 rfl w1.heap.size 3 i0 (.int .i64 0) 8 ordSliceInt hi hz0 hz1 hz2 rfl _ _ _ rfl (OAr.out.alloc _) ⟨_, 0, none⟩ 2 2 [.int .i64 (-1), .int .i64 (-1)] rfl rfl (cell_two_new _ _ _ _) (by simp [Value.oneCell']) (by decide) (by unfold maxLen; omega) (by omega) (by simp; omega) ?_; intro gx capx w5 OX OA5 hx hgx)
      have OB5 := (OBr.out.alloc _).kept hgx (opt_ne (fun g e => (ltA.out g e).2) (fun g e => (ltB.out g e).1)).2
      have WW5 := (WW.out.alloc _).kept hgx (opt_ne (fun g e => Nat.lt_of_lt_of_le (ltA.out g e).2 s23) (fun g e => (ltW.out g e).1)).2
      have Br5 : Below w1.heap.size w1 w5 := (Br.out.alloc Br.out.size _).grown hgx (by simp; omega) (fun g e => (ltA.out g e).1)
      have hx5 : ∀ c : Nat, w2.heap.size ≤ c → c < wr.heap.size → gx ≠ c := by
        intro c c1 c2 e
        rcases hx with hx | hx
        · have := (ltA.out gx hx).2
          omega
        · rw [size_alloc] at hx
          omega
      have s5 : wr.heap.size ≤ w5.heap.size := by
        have := hgx.size
        rw [size_alloc] at this
        omega
      replace OX := hide OX
      replace OA5 := hide OA5
      replace OB5 := hide OB5
      replace WW5 := hide WW5
      replace Br5 := hide Br5
      replace hx5 := hide hx5
      clear hx hgx OAr OBr WW Br
      go_upto_region 15 with (at_builtin; refine wpList_append_keeps _ rfl _ _ 26 rfl w2.heap.size 3 i0 (.int .i64 0) 8 ordSliceInt hi hz0 hz1 hz2 rfl _ _ _ rfl (OB5.out.alloc _) ⟨_, 0, none⟩ 2 2 [.int .i64 (-2), .int .i64 (-2)] rfl rfl (cell_two_new _ _ _ _) (by simp [Value.oneCell']) (by decide) (by unfold maxLen; omega) (by omega) (by simp; omega) ?_; intro gy capy w6 OY OB6 hy hgy)
      have OA6 := (OA5.out.alloc _).kept hgy (opt_ne (fun g e => (ltA.out g e).2) (fun g e => (ltB.out g e).1)).1
      have WW6 := (WW5.out.alloc _).kept hgy (opt_ne (fun g e => (ltB.out g e).2) (fun g e => (ltW.out g e).1)).2
      have OX6 := (OX.out.alloc _).kept hgy (by
        right
        intro e
        have h1 := ltB.out gx e.symm
        exact hx5.out gx h1.1 (Nat.lt_of_lt_of_le h1.2 sW) rfl)
      have Br6 : Below w1.heap.size w1 w6 := (Br5.out.alloc Br5.out.size _).grown hgy (by simp; omega) (fun g e => Nat.le_trans s12 (ltB.out g e).1)
      have cx0 : w6.cell? ⟨gx, l.length, none⟩ = some (.int .i64 (-1)) := by rw [OX6.cellAt l.length (by omega), List.getElem?_append_right (by simp)]; simp
      have cx1 : w6.cell? ⟨gx, l.length + 1, none⟩ = some (.int .i64 (-1)) := by rw [OX6.cellAt (l.length + 1) (by omega), List.getElem?_append_right (by simp)]; simp
      have cy0 : w6.cell? ⟨gy, l.length, none⟩ = some (.int .i64 (-2)) := by rw [OY.cellAt l.length (by omega), List.getElem?_append_right (by simp)]; simp
      have cy1 : w6.cell? ⟨gy, l.length + 1, none⟩ = some (.int .i64 (-2)) := by rw [OY.cellAt (l.length + 1) (by omega), List.getElem?_append_right (by simp)]; simp
      have CX := hide (And.intro (And.intro cx0 cx1) (And.intro cy0 cy1))
      rw [show nums l = over (-3) l 0 from (over_zero _ _).symm] at OA6
      rw [show nums l = over (-4) l 0 from (over_zero _ _).symm] at OB6
      replace OA6 := hide OA6
      replace OB6 := hide OB6
      replace WW6 := hide WW6
      replace Br6 := hide Br6
      have hgA : Hid (∀ g, (Value.slice aa l.length ca).ownBlock = some g → ∀ g', (Value.slice ab l.length cb).ownBlock = some g' → g ≠ g') := fun g e g' e' c => by have := (ltA.out g e).2; have := (ltB.out g' e').1; omega
      have hgW : Hid (∀ g', u9.ownBlock = some g' → (∀ g, (Value.slice aa l.length ca).ownBlock = some g → g' ≠ g) ∧ (∀ g, (Value.slice ab l.length cb).ownBlock = some g → g' ≠ g)) := fun g' e' => ⟨fun g e c => by have := (ltA.out g e).2; have := (ltW.out g' e').1; omega, fun g e c => by have := (ltB.out g e).2; have := (ltW.out g' e').1; omega⟩
      clear hy hgy OA5 OB5 WW5 OX OX6 OY Br5 hx5 cx0 cx1 cy0 cy1
      go_wp2_with fail
      obtain ⟨wz, hwz⟩ : ∃ W, W = w6 := ⟨_, rfl⟩
      go_loopw [13] (fun i wr => ∃ j : Nat, i = .int .i64 (j : Int) ∧ j ≤ l.length ∧ Hid (wr.ownsRow w1.heap.size 3 1 (.slice aa l.length ca) l.length (over (-3) l j)) ∧ Hid (wr.ownsRow w2.heap.size 3 1 (.slice ab l.length cb) l.length (over (-4) l j)) ∧ Hid (wr.ownsRow w3.heap.size 3 1 u9 l.length (nums l)) ∧
        Hid ((wr.cell? ⟨gx, l.length, none⟩ = some (.int .i64 (-1)) ∧ wr.cell? ⟨gx, l.length + 1, none⟩ = some (.int .i64 (-1))) ∧ wr.cell? ⟨gy, l.length, none⟩ = some (.int .i64 (-2)) ∧ wr.cell? ⟨gy, l.length + 1, none⟩ = some (.int .i64 (-2))) ∧ Hid (Below w1.heap.size w1 wr)) (fun i _ => l.length - (intOf i).toNat)
      case atStart => exact ⟨0, rfl, Nat.zero_le _, OA6, OB6, WW6, CX, Br6⟩
      case round =>
        clear OA6 OB6 WW6 CX Br6 hwz
        obtain ⟨j, rfl, hj, OA, OB, WW, CX, BB⟩ := hrel
        by_cases hlt : j < l.length
        · rcases id OA.out.2 with ⟨_, q⟩ | ⟨ga, capa, cura, ea, hBa, hga, _⟩
          · omega
          cases ea
          rcases id OB.out.2 with ⟨_, q⟩ | ⟨gb, capb, curb, eb, hBb, hgb, _⟩
          · omega
          cases eb
          have jl : (j : Int) < (l.length : Int) := by omega
          have nab := hgA.out ga rfl gb rfl
          have A2 := (OA.out.stored j (.int .i64 (-3))).1
          rw [over_set _ hlt] at A2
          have Bk : (wr.setCell ⟨ga, j, none⟩ (.int .i64 (-3))).ownsRow w2.heap.size 3 1 (.slice (some ⟨gb, 0, none⟩) l.length cb) l.length (over (-4) l j) := owns_same OB.out (fun g e => by cases e; exact heap_set_ne (Ne.symm nab) _ _)
          have B2 := (Bk.stored j (.int .i64 (-4))).1
          rw [over_set _ hlt] at B2
          have A3 : ((wr.setCell ⟨ga, j, none⟩ (.int .i64 (-3))).setCell ⟨gb, j, none⟩ (.int .i64 (-4))).ownsRow w1.heap.size 3 1 (.slice (some ⟨ga, 0, none⟩) l.length ca) l.length (over (-3) l (j + 1)) := owns_same A2 (fun g e => by cases e; exact heap_set_ne nab _ _)
          have W3 : ((wr.setCell ⟨ga, j, none⟩ (.int .i64 (-3))).setCell ⟨gb, j, none⟩ (.int .i64 (-4))).ownsRow w3.heap.size 3 1 u9 l.length (nums l) := owns_same WW.out (fun g e => by
            have h := hgW.out g e
            rw [heap_set_ne (h.2 gb rfl), heap_set_ne (h.1 ga rfl)])
          have K : ∀ g x, x ≠ j → ((wr.setCell ⟨ga, j, none⟩ (.int .i64 (-3))).setCell ⟨gb, j, none⟩ (.int .i64 (-4))).cell? ⟨g, x, none⟩ = wr.cell? ⟨g, x, none⟩ := fun g x hx => by rw [cell_set_ne _ (.inr hx), cell_set_ne _ (.inr hx)]
          have CX3 : Hid ((((wr.setCell ⟨ga, j, none⟩ (.int .i64 (-3))).setCell ⟨gb, j, none⟩ (.int .i64 (-4))).cell? ⟨gx, l.length, none⟩ = some (.int .i64 (-1)) ∧ ((wr.setCell ⟨ga, j, none⟩ (.int .i64 (-3))).setCell ⟨gb, j, none⟩ (.int .i64 (-4))).cell? ⟨gx, l.length + 1, none⟩ = some (.int .i64 (-1))) ∧ ((wr.setCell ⟨ga, j, none⟩ (.int .i64 (-3))).setCell ⟨gb, j, none⟩ (.int .i64 (-4))).cell? ⟨gy, l.length, none⟩ = some (.int .i64 (-2)) ∧ ((wr.setCell ⟨ga, j, none⟩ (.int .i64 (-3))).setCell ⟨gb, j, none⟩ (.int .i64 (-4))).cell? ⟨gy, l.length + 1, none⟩ = some (.int .i64 (-2))) := by
            rw [K gx l.length (by omega), K gx (l.length + 1) (by omega), K gy l.length (by omega), K gy (l.length + 1) (by omega)]
            exact CX.out
          have BB3 : Hid (Below w1.heap.size w1 ((wr.setCell ⟨ga, j, none⟩ (.int .i64 (-3))).setCell ⟨gb, j, none⟩ (.int .i64 (-4)))) := below_chg BB.out (S := [ga, gb]) (fun b hb => by simp at hb; rcases hb with rfl | rfl <;> omega) (((Chg.refl _ _).set (by simp) _).set (by simp) _)
          have c1 := OA.out.cellAt j (by omega)
          rw [List.getElem?_eq_getElem (by rw [over_len _ hj]; exact hlt)] at c1
          have f1 := OA.out.frozenAt j
          have c2 := Bk.cellAt j (by omega)
          rw [List.getElem?_eq_getElem (by rw [over_len _ hj]; exact hlt)] at c2
          have f2 := Bk.frozenAt j
          generalize (over (-3) l j)[j]'_ = y1 at c1
          generalize (over (-4) l j)[j]'_ = y2 at c2
          replace A3 := hide A3
          replace B2 := hide B2
          replace W3 := hide W3
          clear K A2 Bk OA OB WW CX BB hga hgb
          go_wp2
          go_roundw
          case rel => exact ⟨j + 1, by go_num, by omega, A3, B2, W3, CX3, BB3⟩
          case measure => simp [intOf]; omega
        · obtain rfl : j = l.length := by omega
          clear hlt hj
          go_wp2_with fail
          obtain ⟨wq, hwq⟩ : ∃ W, W = wr := ⟨_, rfl⟩
          subst hwq
          go_loop [14] (fun i => ∃ j : Nat, i = .int .i64 (j : Int) ∧ j ≤ l.length) (fun i => l.length - (intOf i).toNat)
          case atStart => exact ⟨0, rfl, Nat.zero_le _⟩
          case round =>
            obtain ⟨j, rfl, hj⟩ := hrel
            by_cases hlt : j < l.length
            · rcases id OA.out.2 with ⟨_, q⟩ | ⟨ga, capa, cura, ea, hBa, hga, _⟩
              · omega
              cases ea
              rcases id OB.out.2 with ⟨_, q⟩ | ⟨gb, capb, curb, eb, hBb, hgb, _⟩
              · omega
              cases eb
              have jl : (j : Int) < (l.length : Int) := by omega
              have c1 := OA.out.cellAt j (by omega)
              rw [over_all _ _ hlt] at c1
              have c2 := OB.out.cellAt j (by omega)
              rw [over_all _ _ hlt] at c2
              clear hga hgb
              go_wp2
              go_round
              case rel => exact ⟨j + 1, by go_num, by omega⟩
              case measure => simp [intOf]; omega
            · obtain rfl : j = l.length := by omega
              clear hlt hj
              obtain ⟨⟨cx0, cx1⟩, cy0, cy1⟩ := CX.out
              have i1 : (l.length : Int) + 2 - 1 = (l.length : Int) + 1 := by omega
              have i2 : (l.length : Int) + 2 - 2 = (l.length : Int) := by omega
              have i3 : ((l.length : Int) + 1).toNat = l.length + 1 := by omega
              have i4 : (0 : Int) ≤ (l.length : Int) + 1 := by omega
              have i5 : (l.length : Int) + 1 < (l.length : Int) + 2 := by omega
              have i6 : (l.length : Int) < (l.length : Int) + 2 := by omega
              have GQ := GK.out wq BB.out
              have WT := hide (waiting_calls wq o s GQ)
              replace GQ := hide GQ
              go_wp2_with fail
              refine WT.out.mono ?_
              rintro e w7 ⟨vc, lc, rfl, hlc, elc, OC, B7⟩
              obtain rfl := hl.out.uniq hlc
              clear elc hlc WT cx0 cx1 cy0 cy1 OA OB CX i1 i2 i3 i4 i5 i6
              have W7 : w7.ownsRow w3.heap.size 3 1 u9 l.length (nums l) := owns_same WW.out (fun g e => B7.block g (WW.out.lt g e).2)
              have SM := hide (sameInts_calls w7 vc u9 l (owns_irow OC) (owns_irow W7) (by omega))
              have BB7 := BB.out.then_below B7
              obtain ⟨au, cu, hu⟩ := owns_shape W7
              subst hu
              have hcell : Hid (∀ W, Below w7.heap.size w7 W → ∀ j, j < l.length → ∃ g, au = some ⟨g, 0, none⟩ ∧ w1.heap.size ≤ g ∧ g < W.heap.size ∧ W.cell? ⟨g, j, none⟩ = some (.int .i64 (l.getD j 0 : Nat))) := by
                intro W b j hj
                obtain ⟨a', c', e', hc⟩ := owns_list W7
                cases e'
                obtain ⟨g, e, h1, h2, h3⟩ := hc j hj
                exact ⟨g, e, by omega, Nat.lt_of_lt_of_le h2 b.size, (b.cell h2).trans h3⟩
              have G7 := hide (GK.out w7 BB7)
              have BW7 := hide (B1.out.then_below BB7)
              clear W7 OC B7 WW BB BB7 GQ
              go_wp2_with fail
              refine SM.out.mono ?_
              rintro e w8 ⟨rfl, m8, rfl⟩
              clear SM
              have G8 : Hid (Good (w7.drewN m8) o s) := G7.out.drewN m8
              have B8 : Hid (Below w.heap.size w (w7.drewN m8)) := below_chg BW7.out (S := []) (fun b hb => by simp at hb) ((Chg.refl _ _).drewN m8)
              have H8 : Hid (∀ j, j < l.length → ∃ g, au = some ⟨g, 0, none⟩ ∧ w1.heap.size ≤ g ∧ g < (w7.drewN m8).heap.size ∧ (w7.drewN m8).cell? ⟨g, j, none⟩ = some (.int .i64 (l.getD j 0 : Nat))) := hcell.out (w7.drewN m8) (Chg.below ((Chg.refl [] w7).drewN m8) (Nat.le_refl _) (fun b hb => by simp at hb))
              have L8 : Hid (Wl o s (l.drop 0)) := by rw [List.drop_zero]; exact hl
              clear G7 BW7 hcell hl
              go_wp2_with fail
              generalize hw8 : w7.drewN m8 = w8 at *
              clear hw8
              go_loopw [16] (fun i wr => ∃ (j : Nat) (s' : OS), i = .int .i64 (j : Int) ∧ j ≤ l.length ∧ Hid (Good wr o s') ∧ Hid (Wl o s' (l.drop j)) ∧ Hid (Below w.heap.size w wr) ∧ Hid (∀ j, j < l.length → ∃ g, au = some ⟨g, 0, none⟩ ∧ w1.heap.size ≤ g ∧ g < wr.heap.size ∧ wr.cell? ⟨g, j, none⟩ = some (.int .i64 (l.getD j 0 : Nat)))) (fun i _ => l.length - (intOf i).toNat)
              case atStart => exact ⟨0, s, rfl, Nat.zero_le _, G8, L8, B8, H8⟩
              case round =>
                clear G8 B8 H8 L8
                obtain ⟨j, s', rfl, hj, GR, hl, HBr, hcr⟩ := hrel
                by_cases hlt : j < l.length
                · have jl : (j : Int) < (l.length : Int) := by omega
                  have hl2 := hl.out
                  rw [drop_at hlt] at hl2
                  have TK := take_next wr o s' GR.out (l.getD j 0) (l.drop (j + 1)) hl2
                  obtain ⟨x, hx⟩ : ∃ x, l.getD j 0 = x := ⟨_, rfl⟩
                  rw [hx] at TK
                  replace TK := hide TK
                  clear hl2
                  go_wp2_with fail
                  refine TK.out.mono ?_
                  rintro e w9 ⟨rfl, ⟨s9, G9, eA, _, _, hl9, eW⟩, C9⟩
                  have hc9 : Hid (∀ j, j < l.length → ∃ g, au = some ⟨g, 0, none⟩ ∧ w1.heap.size ≤ g ∧ g < w9.heap.size ∧ w9.cell? ⟨g, j, none⟩ = some (.int .i64 (l.getD j 0 : Nat))) := by
                    intro j hj
                    obtain ⟨g, e, h1, h2, h3⟩ := hcr.out j hj
                    refine ⟨g, e, h1, Nat.lt_of_lt_of_le h2 C9.size, ?_⟩
                    unfold World.cell? at h3 ⊢
                    rw [C9.block g h2 (fun c => by have := glt.out g c; omega)]
                    exact h3
                  obtain ⟨g, rfl, _, _, cj⟩ := hc9.out j hlt
                  rw [hx] at cj
                  have HB9 := hide (below_chg HBr.out hb.out C9)
                  replace G9 := hide G9
                  replace hl9 := hide hl9
                  replace hx := hide hx
                  clear TK eW C9 hcr HBr GR hl eA
                  go_wp2
                  go_roundw
                  case rel => exact ⟨j + 1, s9, by go_num, by omega, G9, hl9, HB9, hc9⟩
                  case measure => simp [intOf]; omega
                · obtain rfl : j = l.length := by omega
                  have hl2 := hl.out
                  rw [List.drop_length] at hl2
                  have TK := hide (take_end wr o s' GR.out hl2)
                  clear hl2 hl hcr hlt hj GR
                  go_wp2_with fail
                  refine TK.out.mono ?_
                  rintro e w9 ⟨rfl, hw9⟩
                  have hw9 := hw9.symm
                  subst hw9
                  go_wp2
                  go_ret
                  exact ⟨rfl, HBr.out⟩
theorem fresh_calls (w : World) (n : Int) (sv : Value) (l : List POp) (hv : Pops w.heap.size w sv l) :
    Calls Try.prog 4 #[.int .i64 n, sv] w fun e w' => e = .returned (.bool true) ∧ Below w.heap.size w w' :=
  fresh_of w n sv (begun_calls w n sv l hv)
end Go.Proofs.Ytigbclhkmjcjjaa
