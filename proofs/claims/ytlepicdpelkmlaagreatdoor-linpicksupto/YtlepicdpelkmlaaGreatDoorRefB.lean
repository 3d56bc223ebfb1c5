/- Laid together of: RefDiv, RefDivL, RefGcd, RefText, RefOf, RefCut. -/
import Derived.Test.YtlepicdpelkmlaaGreatDoorRefA
import Derived.Test.YtlepicdpelkmlaaGreatDoorAllMath
import Derived.Lib.IndexMore
import Derived.Lib.Strings
/- ==== RefDiv ==== -/
namespace Go.Proofs.YtlepicdpelkmlaaGreatDoor
open Go.RowKit
set_option linter.unusedVariables false
theorem subRN (w : World) (va vb : Value) (a b K : Nat) (ha : RN w va a) (hb : RN w vb b) (ka : (a : Int) < M.NB ^ K) (hle : b ≤ a) (hK : K ≤ 35184372088832) :
    Calls Tryz.prog 65 #[va, vb] w fun e w' => (∃ v, e = .returned v ∧ RN w' v (a - b)) ∧ Below w.heap.size w w' := by
  obtain ⟨la, ra, da, ta, va'⟩ := ha
  obtain ⟨lb, rb, db, tb, vb'⟩ := hb
  refine (rnatSub_calls w va vb la lb ra rb da db (Nat.le_trans (RN.len (w := w) (v := va) da ta va' ka) hK) (M.length_of_le M.NB_pos db da tb (by rw [va', vb']; omega)) (by rw [va', vb']; omega)).mono ?_
  rintro e w' ⟨⟨v, l, h1, h2, h3, h4, h5, h6⟩, h7⟩
  exact ⟨⟨v, h1, l, h2, h4, h5, by rw [h6, va', vb']; omega⟩, h7⟩
theorem smallRN (w : World) (v : Value) (n : Nat) (h : RN w v n) :
    ∃ b : Bool, (b = true → n < 1000000000000000000) ∧ Calls Tryz.prog 88 #[v] w fun e w' => e = .returned (.tuple #[.int .i64 (if b then (n : Int) else 0), .bool b]) ∧ w' = w := by
  obtain ⟨l, r, d, t, hv⟩ := h
  have h := small_calls w v l r d
  refine ⟨decide (l.length ≤ 2), fun hb => ?_, ?_⟩
  · have h1 := M.val_lt M.NB_pos d
    have h2 : M.NB ^ l.length ≤ M.NB ^ 2 := M.pow_le M.NB_pos (of_decide_eq_true hb)
    have h3 : M.NB ^ 2 = 1000000000000000000 := by rw [M.NB_eq]; decide
    omega
  · rw [hv] at h
    by_cases hb : l.length ≤ 2
    · simpa [hb] using h
    · simpa [hb] using h
theorem val_drop {la : List Int} {k : Nat} (h : k < la.length) : M.val M.NB (la.drop k) = la.getD k 0 + M.NB * M.val M.NB (la.drop (k + 1)) := by
  rw [List.drop_eq_getElem_cons h, List.getD_eq_getElem?_getD, List.getElem?_eq_getElem h]
  rfl
theorem drop_set {y : List Int} {k : Nat} (h : k < y.length) (q : Int) : (y.set k q).drop k = q :: y.drop (k + 1) := by
  rw [List.drop_eq_getElem_cons (by simpa using h)]
  simp [List.drop_set]
/-- The next remainder's list: a limb below the rest. -/
theorem next_val {lr : List Int} {x : Int} {r : Nat} (hv : M.val M.NB lr = (r : Int)) : M.val M.NB (x :: lr) = x + M.NB * r := by
  show x + M.NB * M.val M.NB lr = _
  rw [hv]
set_option maxRecDepth 100000 in
set_option maxHeartbeats 3200000 in
/-- 'next': the limb x and the limbs lr, as a list of its own. -/
theorem div_small (w : World) (va vb : Value) (a b : Nat) (ha : RN w va a) (hb : RN w vb b) (hb0 : 0 < b)
    (qa : Calls Tryz.prog 88 #[va] w fun e w' => e = .returned (.tuple #[.int .i64 (a : Int), .bool true]) ∧ w' = w)
    (qb : Calls Tryz.prog 88 #[vb] w fun e w' => e = .returned (.tuple #[.int .i64 (b : Int), .bool true]) ∧ w' = w)
    (la : a < 1000000000000000000) (lb : b < 1000000000000000000) :
    Calls Tryz.prog 69 #[va, vb] w fun e w' => (∃ q r, e = .returned (.tuple #[q, r]) ∧ RN w' q (a / b) ∧ RN w' r (a % b)) ∧ Below w.heap.size w w' := by
  obtain ⟨xa, ra, -⟩ := ha
  obtain ⟨xb, rb, -⟩ := hb
  obtain ⟨aa, ca, rfl, -⟩ := ra
  obtain ⟨ab, cb, rfl, -⟩ := rb
  have QA := hide qa
  have QB := hide qb
  clear qa qb
  have e1 : (a : Int).tdiv (b : Int) = ((a / b : Nat) : Int) := by rw [Int.tdiv_eq_ediv_of_nonneg (Int.natCast_nonneg _)]; simp
  have e2 : (a : Int).tmod (b : Int) = ((a % b : Nat) : Int) := by rw [Int.tmod_eq_emod_of_nonneg (Int.natCast_nonneg _)]; simp
  have l1 : a / b < 1000000000000000000 := Nat.lt_of_le_of_lt (Nat.div_le_self _ _) la
  have l2 : a % b < 1000000000000000000 := Nat.lt_of_le_of_lt (Nat.mod_le _ _) la
  have hbi : (b : Int) ≠ 0 := by omega
  have q1 := hide (fun W => natInt_calls W ((a / b : Nat) : Int) (Int.natCast_nonneg _) (by omega))
  have q2 := hide (fun W => natInt_calls W ((a % b : Nat) : Int) (Int.natCast_nonneg _) (by omega))
  simp only [Int.toNat_natCast] at q1 q2
  generalize a / b = Q at *
  generalize a % b = R at *
  have wQ : IntKind.i64.wrap (Q : Int) = (Q : Int) := by rw [IntKind.wrap_i64]; omega
  have wR : IntKind.i64.wrap (R : Int) = (R : Int) := by rw [IntKind.wrap_i64]; omega
  have hbq : ((b : Int) == 0) = false := by simp; omega
  have hbz : b ≠ 0 := by omega
  go_enter Tryz.func69, Tryz.ntmps69
  go_wp2_with (first
    | (go_at_call 88; (with_reducible refine QA.out.mono ?_); rintro e w1 ⟨rfl, rfl⟩)
    | (go_at_call 88; (with_reducible refine QB.out.mono ?_); rintro e w1 ⟨rfl, rfl⟩))
  have DD : Below w1.heap.size w1 w1.drew := (Below.refl _ _).drew
  go_region_held3
    (fun W => Below w1.heap.size w1 W)
    (first
      | with_reducible exact (Below.refl _ _).drew
      | with_reducible exact Below.refl _ _
      | with_reducible exact DD.then_below bA
      | with_reducible exact DD.then_below bB
      | with_reducible exact (DD.then_below bA).then_below bB
      | with_reducible exact (DD.then_below bB).then_below bA)
    (first
      | (go_at_call 47; (with_reducible refine (q1.out _).mono ?_); rintro e wA ⟨⟨vA, rfl, nA⟩, bA⟩)
      | (go_at_call 47; (with_reducible refine (q2.out _).mono ?_); rintro e wB ⟨⟨vB, rfl, nB⟩, bB⟩))
  replace nA := hide nA
  replace nB := hide nB
  replace bA := hide bA
  replace bB := hide bB
  go_wp2
  go_ret2
  exact ⟨⟨vA, vB, rfl, nA.out.below bB.out, nB.out⟩, (DD.then_below bA.out).then_below bB.out⟩
end Go.Proofs.YtlepicdpelkmlaaGreatDoor
/- ==== RefDivL ==== -/
namespace Go.Proofs.YtlepicdpelkmlaaGreatDoor
open Go.RowKit
set_option linter.unusedVariables false
theorem RowM.kept {w w' : World} {v : Value} {l : List Int} (h : RowM w v l) {r : Option Nat} (q : w.grownBy w' r) (hr : ∀ g, r = some g → Apart v l g) : RowM w' v l := by
  obtain ⟨ao, cap, rfl, h1, h2, h3, h4⟩ := h
  refine ⟨ao, cap, rfl, h1, h2, h3, fun hl => ?_⟩
  obtain ⟨b, off, rfl, hc⟩ := h4 hl
  refine ⟨b, off, rfl, fun j hj => ?_⟩
  have hb : b < w.heap.size := World.block_lt_of_cell? w _ (hc j hj)
  have e : w'.heap[b]? = w.heap[b]? := q.block b hb (fun e => hr b e.symm hl ⟨b, off, none⟩ _ _ rfl rfl)
  have := hc j hj
  simpa [World.cell?, e] using this
theorem RowM.apart {w : World} {v : Value} {l : List Int} (h : RowM w v l) {g : Nat} (hg : w.heap.size ≤ g) : Apart v l g := by
  obtain ⟨ao, cap, rfl, h1, h2, h3, h4⟩ := h
  intro hl a n c e
  obtain ⟨b, off, rfl, hc⟩ := h4 hl
  cases e
  have hb : b < w.heap.size := World.block_lt_of_cell? w _ (hc 0 (List.length_pos_iff.2 hl))
  simp
  omega
/-- A number of the document's whose list does not lie in the block g. -/
def RNA (w : World) (v : Value) (n g : Nat) : Prop := ∃ l, RowM w v l ∧ M.Dig M.NB l ∧ M.Trm l ∧ M.val M.NB l = (n : Int) ∧ Apart v l g
theorem RNA.rn {w : World} {v : Value} {n g : Nat} (h : RNA w v n g) : RN w v n := by
  obtain ⟨l, h1, h2, h3, h4, -⟩ := h
  exact ⟨l, h1, h2, h3, h4⟩
theorem RNA.set {w : World} {v : Value} {n g : Nat} (h : RNA w v n g) (j : Nat) (u : Value) : RNA (w.setCell ⟨g, j, none⟩ u) v n g := by
  obtain ⟨l, h1, h2, h3, h4, h5⟩ := h
  exact ⟨l, h1.kept (grown_set w g j u) (fun g' e => by cases e; exact h5), h2, h3, h4, h5⟩
theorem RNA.below {w w' : World} {v : Value} {n g : Nat} (h : RNA w v n g) (q : Below w.heap.size w w') : RNA w' v n g := by
  obtain ⟨l, h1, h2⟩ := h
  exact ⟨l, h1.below q, h2⟩
theorem subRNA (w : World) (va vb : Value) (a b K g : Nat) (hg : g < w.heap.size) (ha : RN w va a) (hb : RN w vb b) (ka : (a : Int) < M.NB ^ K) (hle : b ≤ a) (hK : K ≤ 35184372088832) :
    Calls Tryz.prog 65 #[va, vb] w fun e w' => (∃ v, e = .returned v ∧ RNA w' v (a - b) g) ∧ Below w.heap.size w w' := by
  obtain ⟨la, ra, da, ta, va'⟩ := ha
  obtain ⟨lb, rb, db, tb, vb'⟩ := hb
  refine (rnatSub_calls w va vb la lb ra rb da db (Nat.le_trans (RN.len (w := w) (v := va) da ta va' ka) hK) (M.length_of_le M.NB_pos db da tb (by rw [va', vb']; omega)) (by rw [va', vb']; omega)).mono ?_
  rintro e w' ⟨⟨v, l, h1, h2, h3, h4, h5, h6⟩, h7⟩
  exact ⟨⟨v, h1, l, h2, h4, h5, by rw [h6, va', vb']; omega, h3.apart hg⟩, h7⟩
theorem take_zeros {y : List Int} {p : Nat} {q : Int} (h : ∀ j, j < p + 1 → y.getD j 0 = 0) : ∀ j, j < p → (y.set p q).getD j 0 = 0 := by
  intro j hj
  have := h j (by omega)
  rw [List.getD_eq_getElem?_getD] at this ⊢
  rw [List.getElem?_set_ne (by omega)]
  exact this
theorem dig_cons {x : Int} {l : List Int} (h : M.Dig M.NB l) (h0 : 0 ≤ x ∧ x < M.NB) : M.Dig M.NB (x :: l) := M.Dig.cons h0.1 h0.2 h
theorem own_fresh_of {w : World} {B : Nat} {v : Value} {n : Nat} {e : TypeId} {xs : List Value} (h : w.ownsRow B e 1 v n xs) : ∀ a k c, v = .slice (some a) k c → B ≤ a.block := by
  intro a k c e
  subst e
  exact (h.lt a.block rfl).1
theorem div_fin {la y : List Int} {a b r : Nat} (hb : 0 < b) (hv : M.val M.NB la = (a : Int)) (hy : M.Dig M.NB y) (hr : r < b) (h : M.val M.NB la = M.val M.NB y * b + r) : M.val M.NB y = ((a / b : Nat) : Int) ∧ r = a % b := by
  have h0 := M.val_nonneg M.NB_pos hy
  obtain ⟨Y, hY⟩ : ∃ Y : Nat, M.val M.NB y = Y := ⟨(M.val M.NB y).toNat, by omega⟩
  rw [hY] at h ⊢
  rw [hv] at h
  have e : a = Y * b + r := by
    have : (a : Int) = ((Y * b + r : Nat) : Int) := by rw [h]; simp
    omega
  subst e
  rw [Nat.mul_comm Y b, Nat.mul_add_div hb, Nat.div_eq_of_lt hr, Nat.mul_add_mod, Nat.mod_eq_of_lt hr]
  exact ⟨by simp, rfl⟩
set_option maxRecDepth 100000 in
set_option maxHeartbeats 6400000 in
theorem div_long (w : World) (va vb : Value) (a b K : Nat) (ha : RN w va a) (hb : RN w vb b) (hb0 : 0 < b) (ka : (a : Int) < M.NB ^ K) (kb : (b : Int) < M.NB ^ K) (hK : K ≤ 1099511627776) (hK1 : 1 ≤ K) (bA bB : Bool) (X Y : Int)
    (qa : Calls Tryz.prog 88 #[va] w fun e w' => e = .returned (.tuple #[.int .i64 X, .bool bA]) ∧ w' = w)
    (qb : Calls Tryz.prog 88 #[vb] w fun e w' => e = .returned (.tuple #[.int .i64 Y, .bool bB]) ∧ w' = w)
    (hbb : (bA = false ∧ bB = false) ∨ (bA = false ∧ bB = true) ∨ (bA = true ∧ bB = false)) :
    Calls Tryz.prog 69 #[va, vb] w fun e w' => (∃ q r, e = .returned (.tuple #[q, r]) ∧ RN w' q (a / b) ∧ RN w' r (a % b)) ∧ Below w.heap.size w w' := by
  obtain ⟨i0, hi, hz0, hz1', hz2⟩ := info_parts infoInt
  have HB := hide hb
  have KB := hide kb
  obtain ⟨la, ra, da, ta, hva⟩ := ha
  have hlen := M.length_le_of_lt M.NB_pos da ta (by rw [hva]; exact ka)
  have HVA := hide hva
  have HDA := hide da
  obtain ⟨aa, ca, rfl, a1, a2, a3, a4⟩ := ra
  have A4 := hide a4
  obtain ⟨ab, nb, cb, rfl, eb, b1, b2⟩ := hb.form
  have QA := hide qa
  have QB := hide qb
  clear qa qb a4 a3 hb kb ka hva da ta eb
  rcases hbb with ⟨rfl, rfl⟩ | ⟨rfl, rfl⟩ | ⟨rfl, rfl⟩
  all_goals
    go_enter Tryz.func69, Tryz.ntmps69
    go_wp2_with (first
      | (go_at_call 88; (with_reducible refine QA.out.mono ?_); rintro e wz ⟨rfl, rfl⟩)
      | (go_at_call 88; (with_reducible refine QB.out.mono ?_); rintro e wz ⟨rfl, rfl⟩)
      | (at_make; refine wpList_make_row _ rfl _ _ _ rfl .i64 _ 8 sliceInt infoInt .i64 .i64 _ _ la.length rfl rfl (by omega) (by omega) (by decide) (by omega) ?_; intro w1 z1 hz1 ho1 hg1 hs1)
      | (at_make; refine wpList_make_own _ rfl _ _ 75 rfl (wz.heap.size + 1) 3 i0 (.int .i64 0) 1 sliceInt hi hz0 hz1' .i64 .i64 _ 0 rfl rfl (by omega) (by omega) (by unfold maxLen; omega) (by have := hs1.out; omega) ?_; intro w2 hown2 hgrow2))
    have O2 : Hid (Own .i64 3 w2 wz.heap.size z1) := ho1.kept hgrow2 (by simp)
    have B2 : Hid (Below wz.heap.size wz w2) := (grown_below hg1).then_grown hgrow2 (by simp)
    have hz1l : z1.length = la.length := by rw [hz1.out]; simp
    have hzd : Hid (M.Dig M.NB z1) := by rw [hz1.out]; exact M.Dig.replicate M.NB_pos _
    have hzz : Hid (∀ j, j < la.length → z1.getD j 0 = 0) := fun j _ => by
      rw [hz1.out, List.getD_eq_getElem?_getD, List.getElem?_replicate]
      split <;> rfl
    have R0 : Hid (RNA w2 (.slice (some ⟨w1.heap.size, 0, none⟩) 0 0) 0 wz.heap.size) := ⟨[], (OwnI.row (xs := []) hown2).1, M.Dig.nil, M.Trm.nil, rfl, fun h => absurd rfl h⟩
    have V0 : Hid (M.val M.NB (la.drop la.length) = M.val M.NB (z1.drop la.length) * (b : Int) + ((0 : Nat) : Int)) := by
      show _ = _
      rw [List.drop_length, ← hz1l, List.drop_length]
      simp [M.val]
    clear ho1 hg1 hs1 hz1 hown2 hgrow2
    go_loopw [11, 12] (fun u j wr => ∃ (k : Nat) (y : List Int) (r : Nat), k ≤ la.length ∧ j = .int .i64 ((k : Int) - 1) ∧ y.length = la.length ∧ Hid (Own .i64 3 wr wz.heap.size y) ∧ Hid (M.Dig M.NB y) ∧ Hid (∀ j, j < k → y.getD j 0 = 0) ∧ Hid (RNA wr u r wz.heap.size) ∧ Hid (r < b) ∧
      Hid (M.val M.NB (la.drop k) = M.val M.NB (y.drop k) * (b : Int) + (r : Int)) ∧ Hid (Below wz.heap.size wz wr)) (fun _ j _ => (intOf j + 1).toNat)
    case atStart => exact ⟨la.length, z1, 0, Nat.le_refl _, rfl, hz1l, O2, hzd, hzz, R0, hb0, V0, B2⟩
    case round =>
      clear O2 B2 hz1l hzd hzz R0 V0
      obtain ⟨k, y, r, hk, rfl, hyl, hO, hyd, hyz, hR, hrb, hV, hBw⟩ := hrel
      by_cases h0 : 0 < k
      · obtain ⟨p, rfl⟩ : ∃ j, k = j + 1 := ⟨k - 1, by omega⟩
        rw [show ((p + 1 : Nat) : Int) - 1 = (p : Int) from by omega]
        have hpl : p < la.length := by omega
        obtain ⟨ba, oa, rfl, hca⟩ := A4.out (by rintro rfl; simp at hpl)
        have hba : ba < wz.heap.size := World.block_lt_of_cell? wz _ (hca p hpl)
        have HX := hide (hca p hpl)
        have hx1 := HDA.out.getD M.NB_pos p
        have hvd := hide (val_drop hpl)
        generalize la.getD p 0 = x at *
        have hx2 := hide hx1
        rw [M.NB_eq] at hx1
        obtain ⟨x, rfl⟩ : ∃ n : Nat, x = n := ⟨x.toNat, by omega⟩
        clear hca
        have hBx := hBw.out.size
        have hgw := hO.out.lt
        obtain ⟨lr, rr, dr, tr, vr, apr⟩ := hR.out
        have hAp : Hid (∀ g, wr.heap.size ≤ g → Apart u11 lr g) := fun g hg => rr.apart hg
        have hlr := M.length_le_of_lt M.NB_pos dr tr (by rw [vr]; exact Int.lt_trans (by have := hrb.out; omega : (r : Int) < (b : Int)) KB.out)
        have RR := hide rr
        obtain ⟨ar, cr, rfl, r1, r2, r3, r4⟩ := rr
        clear r3 r4
        have hnv := hide (next_val (x := (x : Int)) vr)
        have hnd := hide (dig_cons (x := (x : Int)) dr hx2.out)
        have DR := hide dr
        clear dr tr vr apr h0
        go_wp2_with (first
          | (at_make; refine wpList_make_own _ rfl _ _ 75 rfl wr.heap.size 3 i0 (.int .i64 0) 1 sliceInt hi hz0 hz1' .i64 .i64 _ (lr.length + 1) rfl rfl (by omega) (by rw [hz2]; omega) (by unfold maxLen; omega) (Nat.le_refl _) ?_; intro w3 hown3 hgrow3; have B3 : Hid (Below wz.heap.size wz w3) := hBw.out.then_grown hgrow3 (by simp); have O3 : Hid (Own .i64 3 w3 wz.heap.size y) := hO.out.kept hgrow3 (by simp); have R3 : Hid (RowM w3 (.slice ar lr.length cr) lr) := RR.out.kept hgrow3 (by simp); have cx := (B3.out.cell (p := ⟨ba, oa + p, none⟩) hba).trans HX.out; have s3 := hgrow3.size; replace hown3 := hide hown3; replace hgrow3 := hide hgrow3)
          | (at_builtin; (refine wpList_append_own _ rfl _ _ 75 rfl wr.heap.size 3 i0 (.int .i64 0) 1 8 sliceInt hi hz0 hz1' hz2 rfl (by decide) _ _ _ rfl (hown3.out.alloc _) ⟨w3.heap.size, 0, none⟩ 1 1 [.int .i64 x] rfl rfl (cell_one_new _ _ _) (by simp [Value.oneCell']) (by unfold maxLen; omega) (by omega) (by simp; omega) ?_; intro v4 w4 hown4 hgrow4 _; replace hown4 := hide hown4; replace hgrow4 := hide hgrow4)))
        have B4 : Hid (Below wz.heap.size wz w4) := (B3.out.alloc (by omega) _).grown hgrow4.out (by simp; omega) (fun g hg => by cases hg; omega)
        have O4 : Hid (Own .i64 3 w4 wz.heap.size y) := (O3.out.below ((Below.refl _ _).alloc (Nat.le_refl _) _)).kept hgrow4.out (fun e => by have e2 : wr.heap.size = wz.heap.size := Option.some.inj e; omega)
        have R4 : Hid (RowM w4 (.slice ar lr.length cr) lr) := (R3.out.below ((Below.refl _ _).alloc (Nat.le_refl _) _)).kept hgrow4.out (fun g e => by cases e; exact hAp.out _ (Nat.le_refl _))
        have N4 : Hid (OwnI w4 wr.heap.size v4 ((x : Int) :: lr.take 0)) := hown4.out
        have s4 := hgrow4.out.size
        rw [World.size_alloc] at s4
        clear hown3 hgrow3 hown4 hgrow4 B3 O3 R3 cx hO hR hBw RR
        generalize wr.heap.size = S at *
        go_loopw [13, 14] (fun u j wi => ∃ q : Nat, q ≤ lr.length ∧ j = .int .i64 q ∧ S ≤ wi.heap.size ∧ Hid (OwnI wi S u ((x : Int) :: lr.take q)) ∧ Hid (Own .i64 3 wi wz.heap.size y) ∧ Hid (RowM wi (.slice ar lr.length cr) lr) ∧ Hid (Below wz.heap.size wz wi)) (fun _ j _ => lr.length - (intOf j).toNat)
        case atStart => exact ⟨0, Nat.zero_le _, rfl, by omega, N4, O4, R4, B4⟩
        case round =>
          clear N4 O4 R4 B4 s4 s3
          obtain ⟨q, hq, rfl, hws, hN, hO, hR, hBi⟩ := hrel
          by_cases hql : q < lr.length
          · obtain ⟨ar', cr', er, -, -, -, hrc⟩ := hR.out
            cases er
            obtain ⟨br, orr, rfl, hrc2⟩ := hrc (by rintro rfl; simp at hql)
            have cq := hrc2 q hql
            clear hrc hrc2
            have hT : Hid (lr.take (q + 1) = lr.take q ++ [lr.getD q 0]) := by
              show _ = _
              rw [List.take_add_one, List.getElem?_eq_getElem hql, List.getD_eq_getElem?_getD, List.getElem?_eq_getElem hql]; rfl
            have hN2 := hN.out
            unfold OwnI at hN2
            rw [List.length_cons, List.length_take, Nat.min_eq_left (Nat.le_of_lt hql)] at hN2
            replace hN2 := hide hN2
            generalize lr.getD q 0 = d at *
            go_wp2_with (at_builtin; (refine wpList_append_own _ rfl _ _ 75 rfl S 3 i0 (.int .i64 0) 1 8 sliceInt hi hz0 hz1' hz2 rfl (by decide) _ _ _ rfl (hN2.out.alloc _) ⟨wr.heap.size, 0, none⟩ 1 1 [.int .i64 d] rfl rfl (cell_one_new _ _ _) (by simp [Value.oneCell']) (by unfold maxLen; omega) (by omega) (by simp; omega) ?_; intro v5 w5 hown5 hgrow5 _; replace hown5 := hide hown5; replace hgrow5 := hide hgrow5))
            have s5 := hgrow5.out.size
            rw [World.size_alloc] at s5
            have hlt5 := fun g hg => (hN2.out.lt g hg).1
            have O5 : Hid (Own .i64 3 w5 wz.heap.size y) := (hO.out.below ((Below.refl _ _).alloc (Nat.le_refl _) _)).kept hgrow5.out (fun e => by have := hlt5 _ e; omega)
            have R5 : Hid (RowM w5 (.slice (some ⟨br, orr, none⟩) lr.length cr) lr) := (hR.out.below ((Below.refl _ _).alloc (Nat.le_refl _) _)).kept hgrow5.out (fun g e => hAp.out _ (hlt5 g e))
            have B5 : Hid (Below wz.heap.size wz w5) := (hBi.out.alloc (by omega) _).grown hgrow5.out (by simp; omega) (fun g hg => by have := hlt5 g hg; omega)
            have N5 : Hid (OwnI w5 S v5 ((x : Int) :: lr.take (q + 1))) := by
              rw [hT.out]
              refine own_snoc (xs := (x : Int) :: lr.take q) ?_
              rw [List.length_cons, List.length_take, Nat.min_eq_left (Nat.le_of_lt hql)]
              exact hown5.out
            go_roundw
            case rel => exact ⟨q + 1, by omega, by simp, by omega, N5, O5, R5, B5⟩
            case measure => simp [intOf]; omega
          · obtain rfl : q = lr.length := by omega
            rw [List.take_length] at hN
            have qt := hide (rtrim_calls wr _ ((x : Int) :: lr) hN.out.row.1)
            have hfr := hide (own_fresh_of hN.out)
            have hnn : Hid (M.val M.NB ((x : Int) :: lr) = ((x + 1000000000 * r : Nat) : Int)) := by
              show _ = _
              rw [hnv.out, M.NB_eq]
              simp
            have hr' : x + 1000000000 * r < 1000000000 * b := M.div_bound hrb.out (by omega)
            have hVn : Hid (M.val M.NB (la.drop p) = (x : Int) + M.NB * M.val M.NB (la.drop (p + 1))) := hvd.out
            obtain ⟨t, ht⟩ : ∃ t, x + 1000000000 * r = t := ⟨_, rfl⟩
            rw [ht] at hnn hr'
            have ht2 : Hid ((x : Int) + M.NB * (r : Int) = (t : Int)) := by show _ = _; rw [M.NB_eq, ← ht]; simp
            replace ht := hide ht
            have hlr2 : Hid (M.Dig M.NB (M.trimmed ((x : Int) :: lr))) := M.trimmed_dig hnd.out
            have hws2 : wz.heap.size < wr.heap.size := by omega
            have hy0 : y.getD p 0 = 0 := hyz.out p (by omega)
            have kt : Hid ((t : Int) < M.NB ^ (K + 1)) := by
              have h1 := KB.out
              show _ < _
              rw [Int.pow_succ, M.NB_eq] at *
              omega
            by_cases hge : b ≤ t
            · have hq1 := hide (M.mod_of (r := t) (b := b) rfl hb0)
              have hq2 : t / b < 1000000000 := (Nat.div_lt_iff_lt_mul hb0).2 hr'
              have hqk : Hid (((t / b : Nat) : Int) < M.NB ^ K) := by
                have h1 : M.NB ^ 1 ≤ M.NB ^ K := M.pow_le M.NB_pos hK1
                have h2 : M.NB ^ 1 = 1000000000 := by rw [M.NB_eq]; decide
                show _ < _
                omega
              have hc0 : 0 ≤ M.cmp (t : Int) (b : Int) := by
                have := cmp_le (a := (b : Int)) (b := (t : Int))
                unfold M.cmp at this ⊢
                split <;> (try split) <;> omega
              obtain ⟨c, hceq⟩ : ∃ c, M.cmp (t : Int) (b : Int) = c := ⟨_, rfl⟩
              rw [hceq] at hc0
              replace hceq := hide hceq
              have hsub : Hid (b * (t / b) ≤ t) := by have := hq1.out.2; rw [Nat.mul_comm]; exact this
              generalize hQ : t / b = Q at *
              replace hQ := hide hQ
              go_wp2_with (first
                | (go_at_call 70; refine qt.out.mono ?_; rintro e w6 ⟨⟨u6, rfl, ru, fu⟩, hw6⟩; subst hw6; have N6 : Hid (RNA w6 u6 t wz.heap.size) := ⟨_, ru, hlr2.out, M.trimmed_trm _, by rw [M.trimmed_val]; exact hnn.out, (trim_fresh hfr.out fu).apart (by omega)⟩; have q7 := hide (cmpRN w6 _ _ _ _ N6.out.rn (HB.out.below hBi.out)); rw [hceq.out] at q7; clear ru fu)
                | (go_at_call 46; refine q7.out.mono ?_; rintro e w7 ⟨rfl, b7⟩; have q8 := hide (times_calls w7 _ _ t b K (N6.out.rn.below b7) (HB.out.below (hBi.out.then_below b7)) hr' KB.out (by omega) hK1); rw [hQ.out] at q8; replace b7 := hide b7)
                | (go_at_call 89; refine q8.out.mono ?_; rintro e w8 ⟨rfl, b8⟩; have O8 : Hid (Own .i64 3 w8 wz.heap.size y) := (hO.out.below b7.out).below b8; have cp := O8.out.cell p (by omega); rw [hy0] at cp; have fp := O8.out.frozen p; have O9 := hide (O8.out.set p (Q : Int)); have cp9 := O9.out.cell p (by simp; omega); rw [List.getD_eq_getElem?_getD, List.getElem?_set_self (by omega), Option.getD_some] at cp9; have N9 : Hid (RNA (w8.setCell ⟨wz.heap.size, p, none⟩ (.int .i64 (Q : Int))) u6 t wz.heap.size) := ((N6.out.below b7.out).below b8).set p _; have B9 : Hid (Below wz.heap.size wz (w8.setCell ⟨wz.heap.size, p, none⟩ (.int .i64 (Q : Int)))) := ((hBi.out.then_below b7.out).then_below b8).then_grown (grown_set w8 wz.heap.size p _) (by simp); have q9 := hide (natInt_calls (w8.setCell ⟨wz.heap.size, p, none⟩ (.int .i64 (Q : Int))) (Q : Int) (by omega) (by omega)); rw [Int.toNat_natCast] at q9; replace b8 := hide b8)
                | (go_at_call 47; refine q9.out.mono ?_; rintro e wa ⟨⟨va, rfl, na⟩, ba⟩; have qA := hide (mulRN wa _ _ b Q K (HB.out.below (B9.out.then_below ba)) na KB.out hqk.out (by omega)); replace na := hide na; replace ba := hide ba)
                | (go_at_call 53; refine qA.out.mono ?_; rintro e wb ⟨⟨vb', rfl, nb'⟩, bb⟩; have qB := hide (subRNA wb _ _ t (b * Q) (K + 1) wz.heap.size (by have := B9.out.size; have := ba.out.size; have := bb.size; have := O9.out.lt; omega) (((N9.out.below ba.out).below bb).rn) nb' kt.out hsub.out (by omega)); replace nb' := hide nb'; replace bb := hide bb)
                | (go_at_call 65; refine qB.out.mono ?_; rintro e wc ⟨⟨vc, rfl, nc⟩, bc⟩; replace nc := hide nc; replace bc := hide bc))
              have OF : Hid (Own .i64 3 wc wz.heap.size (y.set p (Q : Int))) := ((O9.out.below ba.out).below bb.out).below bc.out
              have BF : Hid (Below wz.heap.size wz wc) := ((B9.out.then_below ba.out).then_below bb.out).then_below bc.out
              have VF : Hid (M.val M.NB (la.drop p) = M.val M.NB ((y.set p (Q : Int)).drop p) * (b : Int) + ((t - b * Q : Nat) : Int)) := by
                show _ = _
                rw [hVn.out, drop_set (by omega)]
                show _ = ((Q : Int) + M.NB * M.val M.NB (y.drop (p + 1))) * (b : Int) + _
                rw [M.div_step (q := (Q : Int)) (x := (x : Int)) hV.out, ht2.out]
                have := hsub.out
                have e : ((t - b * Q : Nat) : Int) = (t : Int) - (Q : Int) * (b : Int) := by
                  rw [Int.ofNat_sub this, Int.natCast_mul, Int.mul_comm]
                rw [e]
              have HF : Hid (t - b * Q < b) := by have := hq1.out.1; rw [Nat.mul_comm] at this; exact this
              have DF : Hid (M.Dig M.NB (y.set p (Q : Int))) := hyd.out.set p (by omega) (by rw [M.NB_eq]; omega)
              have ZF := hide (take_zeros (q := (Q : Int)) hyz.out)
              go_roundw
              case rel => exact ⟨p, y.set p (Q : Int), t - b * Q, by omega, by simp, by simpa using hyl, OF, DF, ZF, nc, HF, VF, BF⟩
              case measure => simp [intOf]
            · have hc0 : M.cmp (t : Int) (b : Int) < 0 := by
                unfold M.cmp
                split <;> (try split) <;> omega
              obtain ⟨c, hceq⟩ : ∃ c, M.cmp (t : Int) (b : Int) = c := ⟨_, rfl⟩
              rw [hceq] at hc0
              replace hceq := hide hceq
              go_wp2_with (first
                | (go_at_call 70; refine qt.out.mono ?_; rintro e w6 ⟨⟨u6, rfl, ru, fu⟩, hw6⟩; subst hw6; have N6 : Hid (RNA w6 u6 t wz.heap.size) := ⟨_, ru, hlr2.out, M.trimmed_trm _, by rw [M.trimmed_val]; exact hnn.out, (trim_fresh hfr.out fu).apart (by omega)⟩; have q7 := hide (cmpRN w6 _ _ _ _ N6.out.rn (HB.out.below hBi.out)); rw [hceq.out] at q7; clear ru fu)
                | (go_at_call 46; refine q7.out.mono ?_; rintro e w7 ⟨rfl, b7⟩; replace b7 := hide b7))
              have VF : Hid (M.val M.NB (la.drop p) = M.val M.NB (y.drop p) * (b : Int) + (t : Int)) := by
                show _ = _
                rw [hVn.out, val_drop (la := y) (k := p) (by omega), hy0, M.div_step (q := 0) (x := (x : Int)) hV.out, ht2.out]
                simp
              have ZF : Hid (∀ j, j < p → y.getD j 0 = 0) := fun j hj => hyz.out j (by omega)
              have HF : Hid (t < b) := by show _ < _; omega
              go_roundw
              case rel => exact ⟨p, y, t, by omega, by simp, hyl, hO.out.below b7.out, hyd, ZF, N6.out.below b7.out, HF, VF, hBi.out.then_below b7.out⟩
              case measure => simp [intOf]
      · obtain rfl : k = 0 := by omega
        have hRn := hide hR.out.rn
        have hfin := hide (div_fin hb0 HVA.out hyd.out hrb.out (by have := hV.out; simpa using this))
        have RY := hide (hO.out.all la.length (by omega) (by omega)).m
        rw [hyl] at RY
        have qt := hide (rtrim_calls wr _ y RY.out)
        obtain ⟨ar, nr, cr, rfl, -, -, -⟩ := hRn.out.form
        clear A4
        go_wp2_with (go_at_call 70; refine qt.out.mono ?_; rintro e w9 ⟨⟨u, rfl, ru, fu⟩, hw9⟩; subst hw9; replace ru := hide ru; replace fu := hide fu)
        go_ret2
        exact ⟨⟨_, _, rfl, ⟨M.trimmed y, ru.out, M.trimmed_dig hyd.out, M.trimmed_trm _, by rw [M.trimmed_val]; exact hfin.out.1⟩, by rw [← hfin.out.2]; exact hRn.out⟩, hBw.out⟩
theorem rdiv_calls (w : World) (va vb : Value) (a b K : Nat) (ha : RN w va a) (hb : RN w vb b) (hb0 : 0 < b) (ka : (a : Int) < M.NB ^ K) (kb : (b : Int) < M.NB ^ K) (hK : K ≤ 1099511627776) (hK1 : 1 ≤ K) :
    Calls Tryz.prog 69 #[va, vb] w fun e w' => (∃ q r, e = .returned (.tuple #[q, r]) ∧ RN w' q (a / b) ∧ RN w' r (a % b)) ∧ Below w.heap.size w w' := by
  obtain ⟨bA, hA, qA⟩ := smallRN w va a ha
  obtain ⟨bB, hB, qB⟩ := smallRN w vb b hb
  cases bA <;> cases bB
  · exact div_long w va vb a b K ha hb hb0 ka kb hK hK1 _ _ _ _ qA qB (.inl ⟨rfl, rfl⟩)
  · exact div_long w va vb a b K ha hb hb0 ka kb hK hK1 _ _ _ _ qA qB (.inr (.inl ⟨rfl, rfl⟩))
  · exact div_long w va vb a b K ha hb hb0 ka kb hK hK1 _ _ _ _ qA qB (.inr (.inr ⟨rfl, rfl⟩))
  · exact div_small w va vb a b ha hb hb0 qA qB (hA rfl) (hB rfl)
end Go.Proofs.YtlepicdpelkmlaaGreatDoor
/- ==== RefGcd ==== -/
namespace Go.Proofs.YtlepicdpelkmlaaGreatDoor
open Go.RowKit
set_option linter.unusedVariables false
theorem rowM_unique {w : World} {v : Value} {a b : List Int} (ha : RowM w v a) (hb : RowM w v b) : a = b := by
  obtain ⟨x, c, rfl, -, -, -, h⟩ := ha
  obtain ⟨x', c', e, -, -, -, h'⟩ := hb
  simp only [Value.slice.injEq] at e
  obtain ⟨e0, hl, e3⟩ := e
  subst e0
  apply List.ext_getElem hl
  intro j h1 h2
  obtain ⟨p, o, e1, k1⟩ := h (by rintro rfl; simp at h1)
  obtain ⟨p', o', e2, k2⟩ := h' (by rintro rfl; simp at h2)
  rw [e1] at e2
  cases e2
  have q := (k1 j h1).symm.trans (k2 j h2)
  simp [List.getD_eq_getElem?_getD, List.getElem?_eq_getElem h1, List.getElem?_eq_getElem h2] at q
  exact q
theorem rn_unique {w : World} {v : Value} {a b : Nat} (ha : RN w v a) (hb : RN w v b) : a = b := by
  obtain ⟨la, ra, -, -, va⟩ := ha
  obtain ⟨lb, rb, -, -, vb⟩ := hb
  rw [rowM_unique ra rb] at va
  omega
theorem rn_eps {w : World} {v : Value} {n : Nat} (h : RN w v n) : (@Classical.epsilon Nat ⟨0⟩ fun m => RN w v m) = n :=
  rn_unique (@Classical.epsilon_spec_aux Nat ⟨0⟩ (fun m => RN w v m) ⟨n, h⟩) h
set_option maxRecDepth 100000 in
set_option maxHeartbeats 3200000 in
theorem rgcd_calls (w : World) (va vb : Value) (a b K : Nat) (ha : RN w va a) (hb : RN w vb b) (ka : (a : Int) < M.NB ^ K) (kb : (b : Int) < M.NB ^ K) (hK : K ≤ 1099511627776) (hK1 : 1 ≤ K) :
    Calls Tryz.prog 68 #[va, vb] w fun e w' => (∃ v, e = .returned v ∧ RN w' v (Nat.gcd a b)) ∧ Below w.heap.size w w' := by
  have HA := hide ha
  have HB := hide hb
  have KA := hide ka
  have KB := hide kb
  clear ha hb ka kb
  go_enter Tryz.func68, Tryz.ntmps68
  go_wp2
  go_loopw [0, 1] (fun s t wr => ∃ x y : Nat, Hid (RN wr s x) ∧ Hid (RN wr t y) ∧ Hid (Nat.gcd x y = Nat.gcd a b) ∧ Hid ((x : Int) < M.NB ^ K) ∧ Hid ((y : Int) < M.NB ^ K) ∧ Hid (Below w.heap.size w wr)) (fun _ t wr => @Classical.epsilon Nat ⟨0⟩ fun m => RN wr t m)
  case atStart => exact ⟨a, b, HA, HB, rfl, KA, KB, Below.refl _ _⟩
  case round =>
    obtain ⟨x, y, hx, hy, hg, kx, ky, hBw⟩ := hrel
    obtain ⟨aa, na, ca, rfl, ea, -, -⟩ := hx.out.form
    obtain ⟨ab, nb, cb, rfl, eb, b1, b2⟩ := hy.out.form
    clear ea
    by_cases h0 : nb = 0
    · subst h0
      have hy0 : y = 0 := eb.1 rfl
      subst hy0
      have hf : Hid (x = Nat.gcd a b) := by have := hg.out; rw [Nat.gcd_zero_right] at this; exact this
      clear eb
      go_wp2
      go_ret
      exact ⟨⟨_, rfl, by rw [← hf.out]; exact hx.out⟩, hBw.out⟩
    · have hy0 : 0 < y := by
        rcases Nat.eq_zero_or_pos y with h | h
        · exact absurd (eb.2 h) h0
        · exact h
      have hnb : 0 < nb := by omega
      have q := hide (rdiv_calls wr _ _ x y K hx.out hy.out hy0 kx.out ky.out hK hK1)
      have hm : Hid (x % y < y) := Nat.mod_lt _ hy0
      have hg2 : Hid (Nat.gcd y (x % y) = Nat.gcd a b) := by show _ = _; rw [← hg.out, Nat.gcd_comm x y, Nat.gcd_rec y x, Nat.gcd_comm]
      clear eb
      go_wp2_with (go_at_call 69; refine q.out.mono ?_; rintro e w1 ⟨⟨u, r, rfl, hu, hr⟩, b1⟩; replace hu := hide hu; replace hr := hide hr; replace b1 := hide b1)
      go_roundw
      case rel => exact ⟨y, x % y, hy.out.below b1.out, hr, hg2, ky, by have := hm.out; have := ky.out; simp only [Hid]; omega, hBw.out.then_below b1.out⟩
      case measure => rw [rn_eps hr.out, rn_eps hy.out]; exact hm.out
end Go.Proofs.YtlepicdpelkmlaaGreatDoor
/- ==== RefText ==== -/
namespace Go.Proofs.YtlepicdpelkmlaaGreatDoor
open Go.RowKit
set_option linter.unusedVariables false
theorem set_zero_tail (p : Nat) (T : List Int) (x : Int) : (List.replicate (p + 1) (0 : Int) ++ T).set p x = List.replicate p 0 ++ x :: T := by
  induction p with
  | zero => rfl
  | succ p ih =>
    rw [List.replicate_succ, List.cons_append, List.set_cons_succ, ih, List.replicate_succ]
    rfl
theorem text_step {D : List UInt8} {m n : Nat} {V : Int} (hm : D.length = m) (h : (M.dec D : Int) + 10 ^ m * (n : Int) = V) :
    (M.dec (UInt8.ofNat (48 + n % 10) :: D) : Int) + 10 ^ (m + 1) * ((n / 10 : Nat) : Int) = V := by
  rw [M.dec_cons, M.byte_of (Nat.mod_lt _ (by decide)), hm, ← h, Int.pow_succ]
  have h2 : n = 10 * (n / 10) + n % 10 := by omega
  generalize hd : n % 10 = d at *
  generalize hq : n / 10 = q at *
  have e : 48 + d - 48 = d := by omega
  rw [e, h2]
  push_cast
  generalize ((10 : Int) ^ m) = Z
  grind
theorem conv_from {w : World} {g : Nat} {D : List UInt8} (h : Own .u8 5 w g (M.bs D)) (t c N : Nat) (ht : t ≤ D.length) (hN : N = D.length - t) :
    (convert 113 9 (.slice (some ⟨g, t, none⟩) N c)).run Tryz.prog w = .ok (.string ⟨(D.drop t).toArray⟩) w := by
  have h := run_convert_bytes_back (P := Tryz.prog) w 113 9 5 ⟨g, t, none⟩ c (D.drop t) sliceByte (by kernel_rfl) (by kernel_rfl) (fun j hj => by
    rw [List.length_drop] at hj
    rw [Lib.add_plain, h.cell (t + j) (by rw [M.bs_len]; omega), List.getD_eq_getElem?_getD, M.bs, List.getElem?_map, List.getElem?_eq_getElem (by omega)]
    simp)
  rw [List.length_drop, ← hN] at h
  exact h
set_option maxRecDepth 100000 in
set_option maxHeartbeats 3200000 in
theorem rnatText_calls (w : World) (v : Value) (n K : Nat) (h : RN w v n) (hn : (n : Int) < M.NB ^ K) (hK : K ≤ 1099511627776) :
    Calls Tryz.prog 45 #[v] w fun e w' => e = .returned (.string ⟨(Lib.decDigits n).toArray⟩) ∧ Below w.heap.size w w' := by
  obtain ⟨l, hr, hd, ht, hv⟩ := h
  have hlen := M.length_le_of_lt M.NB_pos hd ht (by rw [hv]; exact hn)
  obtain ⟨ao, cap, rfl, h1, h2, h3, h4⟩ := hr
  by_cases hl0 : l = []
  · subst hl0
    have hn0 : n = 0 := by simp [M.val] at hv; omega
    subst hn0
    have e0 : Hid (Lib.decDigits 0 = [48]) := by show _ = _; decide +kernel
    clear h4 h3
    go_enter Tryz.func45, Tryz.ntmps45
    go_wp2
    go_ret
    exact ⟨by rw [e0.out]; rfl, Below.refl _ _⟩
  · have hne : n ≠ 0 := by
      rintro rfl
      exact hl0 (M.eq_nil_of_val M.NB_pos hd ht hv)
    obtain ⟨b, off, rfl, hc⟩ := h4 hl0
    have hl1 : 0 < l.length := List.length_pos_iff.2 hl0
    have hbw : b < w.heap.size := World.block_lt_of_cell? w _ (hc 0 hl1)
    have HC := hide hc
    have HD := hide hd
    have HV := hide hv
    clear hc hd hv h4 h3 ht hn hl0
    have e9 : IntKind.i64.wrap (9 * (l.length : Int)) = ((9 * l.length : Nat) : Int) := by rw [IntKind.wrap_i64]; omega
    obtain ⟨N, hN⟩ : ∃ N, 9 * l.length = N := ⟨_, rfl⟩
    rw [hN] at e9
    have e9' : 9 * (l.length : Int) = (N : Int) := by omega
    go_enter Tryz.func45, Tryz.ntmps45
    go_wp2_with (at_make; refine wpList_make_row _ rfl _ _ _ rfl .u8 _ 1 sliceByte infoByte .i64 .i64 _ _ N rfl rfl (by omega) (by omega) (by decide) (by omega) ?_; intro w1 z1 hz1 ho1 hg1 hs1)
    have B1 := hide (grown_below hg1)
    have O1 := hide ho1
    clear hg1 hs1 ho1
    go_loopw [4] (fun j wr => ∃ (i : Nat) (D : List UInt8), i ≤ l.length ∧ j = .int .i64 i ∧ Hid (D.length = 9 * i) ∧ Hid (M.Digs D) ∧ Hid ((M.dec D : Int) = M.val M.NB (l.take i)) ∧ Hid (Own .u8 5 wr w.heap.size (List.replicate (N - 9 * i) 0 ++ M.bs D)) ∧ Hid (Below w.heap.size w wr)) (fun j _ => l.length - (intOf j).toNat)
    case atStart => exact ⟨0, [], Nat.zero_le _, rfl, rfl, M.Digs.nil, by simp [Hid, M.dec_nil, M.val], hide (by have := O1.out; rw [hz1.out] at this; simpa [M.bs] using this), B1⟩
    case round =>
      clear B1 O1 hz1
      obtain ⟨i, D, hi, rfl, hDl, hDd, hDv, hO, hBw⟩ := hrel
      by_cases hlt : i < l.length
      · have hci : wr.cell? ⟨b, off + i, none⟩ = some (.int .i64 (l.getD i 0)) := (hBw.out.cell (p := ⟨b, off + i, none⟩) hbw).trans (HC.out i hlt)
        have hdi := HD.out.getD M.NB_pos i
        have hvi := hide (M.val_take_succ (B := M.NB) l i hlt)
        generalize l.getD i 0 = x at *
        rw [M.NB_eq] at hdi
        obtain ⟨x, rfl⟩ : ∃ y : Nat, x = y := ⟨x.toNat, by omega⟩
        have hx9 : x < 1000000000 := by omega
        go_wp2
        go_loopw [5, 6] (fun y j wr' => ∃ (k m : Nat) (E : List UInt8), k ≤ 9 ∧ j = .int .i64 k ∧ y = .int .i64 m ∧ m < 10 ^ (9 - k) ∧ Hid (E.length = 9 * i + k) ∧ Hid (M.Digs E) ∧ Hid ((M.dec E : Int) + 10 ^ (9 * i + k) * (m : Int) = M.val M.NB (l.take (i + 1))) ∧ Hid (Own .u8 5 wr' w.heap.size (List.replicate (N - (9 * i + k)) 0 ++ M.bs E)) ∧ Hid (Below w.heap.size w wr')) (fun _ j _ => 9 - (intOf j).toNat)
        case atStart =>
          refine ⟨0, x, D, by omega, rfl, rfl, by simpa using hx9, hDl, hDd, ?_, hO, hBw⟩
          show _ = _
          rw [hvi.out, hDv.out, M.NB_pow]
          simp
        case round =>
          obtain ⟨k, m, E, hk, rfl, rfl, hm, hEl, hEd, hEv, hEO, hEB⟩ := hrel
          by_cases hk9 : k < 9
          · have hm9 : m < 1000000000 := Nat.lt_of_lt_of_le hm (Nat.pow_le_pow_right (by decide) (by omega) : 10 ^ (9 - k) ≤ 10 ^ 9)
            have hmq : Hid (m / 10 < 10 ^ (9 - (k + 1))) := by
              have e : 9 - k = 9 - (k + 1) + 1 := by omega
              rw [e, Nat.pow_succ] at hm
              simp only [Hid]
              omega
            obtain ⟨p, hp⟩ : ∃ p, N - (9 * i + k) = p + 1 := ⟨N - (9 * i + k) - 1, by omega⟩
            have hpi : (N : Int) - 1 - 9 * (i : Int) - (k : Int) = (p : Int) := by omega
            rw [hp] at hEO
            have f1 := hide (text_step hEl.out hEv.out)
            have hEl2 : Hid ((UInt8.ofNat (48 + m % 10) :: E).length = 9 * i + (k + 1)) := by simp [Hid, hEl.out]; omega
            have hEd2 : Hid (M.Digs (UInt8.ofNat (48 + m % 10) :: E)) := fun y hy => by
              rcases List.mem_cons.1 hy with rfl | hy
              · rw [M.byte_of (Nat.mod_lt _ (by decide))]; omega
              · exact hEd.out y hy
            have hzl : (List.replicate (p + 1) (0 : Int) ++ M.bs E).length = N := by rw [List.length_append, List.length_replicate, M.bs_len, hEl.out]; omega
            have hs2 := hEO.out.set p (48 + (m % 10 : Nat) : Int)
            rw [set_zero_tail] at hs2
            have hO3 : Hid (Own .u8 5 (wr.setCell ⟨w.heap.size, p, none⟩ (.int .u8 (48 + (m % 10 : Nat) : Int))) w.heap.size (List.replicate (N - (9 * i + (k + 1))) 0 ++ M.bs (UInt8.ofNat (48 + m % 10) :: E))) := by
              have e1 : N - (9 * i + (k + 1)) = p := by omega
              have e2 : M.bs (UInt8.ofNat (48 + m % 10) :: E) = (48 + (m % 10 : Nat) : Int) :: M.bs E := by
                show ((UInt8.ofNat (48 + m % 10)).toNat : Int) :: _ = _
                rw [M.byte_of (Nat.mod_lt _ (by decide))]
                simp [M.bs]
              rw [e1, e2]
              exact hs2
            clear hs2
            have hG := hide (hEB.out.then_grown (grown_set wr w.heap.size p (.int .u8 (48 + (m % 10 : Nat) : Int))) (by simp))
            have hfz := hEO.out.frozen p
            have hcp := hEO.out.cell p (by rw [hzl]; omega)
            have hc0 : (List.replicate (p + 1) (0 : Int) ++ M.bs E).getD p 0 = 0 := by
              rw [List.getD_eq_getElem?_getD, List.getElem?_append_left (by simp), List.getElem?_replicate]
              split <;> rfl
            rw [hc0] at hcp
            have w1 : IntKind.u8.wrap (48 + (m : Int) % 10) = 48 + (m : Int) % 10 := by rw [IntKind.wrap_u8]; omega
            have w2 : ((m % 10 : Nat) : Int) = (m : Int) % 10 := by omega
            have w3 : ((m / 10 : Nat) : Int) = (m : Int) / 10 := by omega
            rw [w2] at hO3 hG
            replace hp := hide hp
            replace hzl := hide hzl
            clear hm hc0
            replace w2 := hide w2
            replace w3 := hide w3
            go_wp2
            go_roundw
            case rel => exact ⟨k + 1, m / 10, UInt8.ofNat (48 + m % 10) :: E, by omega, by simp, by rw [w3.out], hmq.out, hEl2, hEd2, f1, hO3, hG⟩
            case measure => simp [intOf]; omega
          · obtain rfl : k = 9 := by omega
            have hm0 : m = 0 := by simpa using hm
            subst hm0
            have hfin : Hid ((M.dec E : Int) = M.val M.NB (l.take (i + 1))) := by have := hEv.out; simp at this; exact this
            have hO4 : Hid (Own .u8 5 wr w.heap.size (List.replicate (N - 9 * (i + 1)) 0 ++ M.bs E)) := hEO.out
            clear hm hEv
            go_wp2
            go_roundw
            case rel => exact ⟨i + 1, E, by omega, by simp, hEl, hEd, hfin, hO4, hEB⟩
            case measure => simp [intOf]; omega
      · obtain rfl : i = l.length := by omega
        rw [List.take_length, HV.out] at hDv
        have hDn : M.dec D = n := by have := hDv.out; omega
        have hO5 : Own .u8 5 wr w.heap.size (M.bs D) := by
          have := hO.out
          rw [show N - 9 * l.length = 0 by omega] at this
          simpa using this
        have hDN : D.length = N := by have := hDl.out; omega
        have HO := hide hO5
        have HT : Hid (Lib.trimLeftB D 48 = Lib.decDigits n) := by
          have := M.dropZeros hDd.out (by rw [hDn]; exact hne)
          rw [hDn] at this
          exact this
        have HN : Hid (M.dec D = n) := hDn
        clear hO hDv hDn hO5 hDl
        replace hDN := hide hDN
        go_wp2
        go_loopw [7] (fun j wr' => ∃ t : Nat, t ≤ N ∧ j = .int .i64 t ∧ wr' = wr ∧ Hid (Lib.trimLeftB (D.drop t) 48 = Lib.decDigits n) ∧ Hid (M.dec (D.drop t) = n)) (fun j _ => N - (intOf j).toNat)
        case atStart => exact ⟨0, Nat.zero_le _, rfl, rfl, HT, HN⟩
        case round =>
          obtain ⟨t, htN, rfl, hw, hT, hN'⟩ := hrel
          subst hw
          have htlt : t < D.length := by
            rcases Nat.lt_or_ge t D.length with h | h
            · exact h
            · have := hN'.out
              rw [List.drop_eq_nil_of_le h] at this
              exact absurd this.symm hne
          have hdc : D.drop t = D.getD t 0 :: D.drop (t + 1) := by
            rw [List.drop_eq_getElem_cons htlt, List.getD_eq_getElem?_getD, List.getElem?_eq_getElem htlt]; rfl
          have hct := HO.out.cell t (by rw [M.bs_len]; exact htlt)
          have hgt : (M.bs D).getD t 0 = ((D.getD t 0).toNat : Int) := by
            rw [List.getD_eq_getElem?_getD, M.bs, List.getElem?_map, List.getD_eq_getElem?_getD, List.getElem?_eq_getElem htlt]; rfl
          rw [hgt] at hct
          have htN2 : t < N := by have := hDN.out; omega
          generalize D.getD t 0 = y at *
          by_cases hy : y.toNat = 48
          · have hy2 : y = 48 := UInt8.toNat_inj.1 (by simpa using hy)
            have hT2 : Hid (Lib.trimLeftB (D.drop (t + 1)) 48 = Lib.decDigits n) := by
              have := hT.out
              rw [hdc, hy2] at this
              unfold Lib.trimLeftB at this ⊢
              show _ = _
              simpa using this
            have hN2 : Hid (M.dec (D.drop (t + 1)) = n) := by
              have := hN'.out
              rw [hdc, hy2, M.dec_cons] at this
              show _ = _
              simpa using this
            clear hdc hgt hy2
            go_wp2
            go_roundw
            case rel => exact ⟨t + 1, by omega, by simp, trivial, hT2, hN2⟩
            case measure => simp [intOf]; omega
          · have hfin : Hid (D.drop t = Lib.decDigits n) := by
              have := hT.out
              rw [hdc] at this ⊢
              unfold Lib.trimLeftB at this
              rw [List.dropWhile_cons, if_neg (by simp; intro e; rw [e] at hy; exact hy rfl)] at this
              exact this
            have cv := conv_from HO.out t (N - t) (N - t) (Nat.le_of_lt htlt) (by rw [hDN.out])
            rw [hfin.out] at cv
            clear hdc hgt
            go_wp2
            go_ret
            exact ⟨rfl, hBw.out⟩
end Go.Proofs.YtlepicdpelkmlaaGreatDoor
/- ==== RefOf ==== -/
namespace Go.Proofs.YtlepicdpelkmlaaGreatDoor
open Go.RowKit
set_option linter.unusedVariables false
set_option maxRecDepth 100000 in
set_option maxHeartbeats 3200000 in
theorem rnatOf_calls (w : World) (s : ByteArray) (l : List UInt8) (hs : s.data.toList = l) (hd : M.Digs l) (hl : l.length ≤ 1099511627776) :
    Calls Tryz.prog 67 #[.string s] w fun e w' => (∃ v, e = .returned v ∧ RN w' v (M.dec l)) ∧ Below w.heap.size w w' := by
  obtain ⟨i0, hi, hz0, hz1, hz2⟩ := info_parts infoInt
  have hsz := size_of s l hs
  have HL := hide hs
  have HD := hide hd
  clear hs hd
  go_enter Tryz.func67, Tryz.ntmps67
  go_wp2_with (at_make; refine wpList_make_own _ rfl _ _ 75 rfl w.heap.size 3 i0 (.int .i64 0) 1 sliceInt hi hz0 hz1 .i64 .i64 _ 0 rfl rfl (by omega) (by omega) (by unfold maxLen; omega) (Nat.le_refl _) ?_; intro w0 hown0 hgrow0)
  have B0 : Hid (Below w.heap.size w w0) := (Below.refl _ w).grown hgrow0 (Nat.le_refl _) (by simp)
  have O0 : Hid (OwnI w0 w.heap.size (.slice (some ⟨w.heap.size, 0, none⟩) 0 0) []) := hown0
  clear hown0 hgrow0
  go_loopw [3, 4] (fun u j wr => ∃ (xs : List Int) (k : Nat), 9 * k < l.length + 9 ∧ xs.length = k ∧ j = .int .i64 ((l.length : Int) - 9 * (k : Int)) ∧ Hid (M.val M.NB xs = (M.dec (l.drop (l.length - 9 * k)) : Nat)) ∧ Hid (M.Dig M.NB xs) ∧ Hid (OwnI wr w.heap.size u xs) ∧ Hid (Below w.heap.size w wr)) (fun _ j _ => (intOf j + 9).toNat)
  case atStart => exact ⟨[], 0, by omega, rfl, by simp, by simp [Hid, M.val, M.dec_nil], M.Dig.nil, O0, B0⟩
  case round =>
    clear B0 O0
    obtain ⟨xs, k, hk, hxl, rfl, hv, hd, hO, hBw⟩ := hrel
    by_cases hlt : 9 * k < l.length
    · have hc := hide (M.natOf_step hxl hlt hv.out)
      have hcl := M.chunk_lt HD.out (l.length - 9 * k - 9) (l.length - 9 * k - (l.length - 9 * k - 9)) (by omega)
      have hcd := hide (dig_snoc hd.out (Int.natCast_nonneg _) (show ((M.dec ((l.drop (l.length - 9 * k - 9)).take (l.length - 9 * k - (l.length - 9 * k - 9))) : Nat) : Int) < M.NB from by rw [M.NB_eq]; omega))
      obtain ⟨e, he⟩ : ∃ e, l.length - 9 * k = e := ⟨_, rfl⟩
      rw [he] at hc hcl hcd
      have hei : (l.length : Int) - 9 * (k : Int) = (e : Int) := by omega
      have hen : Hid ((l.length : Int) - 9 * ((k + 1 : Nat) : Int) = (e : Int) - 9) := by simp only [Hid]; omega
      obtain ⟨f, hf⟩ : ∃ f, e - 9 = f := ⟨_, rfl⟩
      rw [hf] at hc hcl hcd
      rw [hei]
      have he1 : 0 < e := by omega
      have he2 : e ≤ l.length := by omega
      have hk1 : Hid (9 * (k + 1) < l.length + 9) := by simp only [Hid]; omega
      have hk2 : k ≤ 1099511627776 := by omega
      replace he := hide he
      replace hei := hide hei
      have hfe : f < e := by omega
      have hO2 := hO.out
      unfold OwnI at hO2
      rw [hxl] at hO2
      replace hO2 := hide hO2
      have hBx := hBw.out.size
      have hcase : (e < 9 ∧ f = 0) ∨ (9 ≤ e ∧ e = f + 9) := by omega
      clear hk hlt
      replace hxl := hide hxl
      rcases hcase with ⟨hc1, rfl⟩ | ⟨hc1, hef⟩
      · replace hf := hide hf
        go_wp2
        go_loopw [6, 7] (fun a j wr' => ∃ q : Nat, q ≤ e ∧ j = .int .i64 q ∧ a = .int .i64 (M.dec ((l.drop 0).take q) : Nat) ∧ wr' = wr) (fun _ j _ => e - (intOf j).toNat)
        case atStart => exact ⟨0, Nat.zero_le _, rfl, rfl, rfl⟩
        case round =>
          obtain ⟨q, hq, rfl, rfl, hw⟩ := hrel
          subst hw
          by_cases hqe : q < e
          · have hqs : q < s.size := by omega
            have hb := byteAt s l HL.out q hqs
            have hdg := digit_at HD.out (show q < l.length by omega)
            have hsn := hide (M.chunk_snoc l 0 q (by omega))
            have hcq := M.chunk_lt HD.out 0 q (by omega)
            rw [Nat.zero_add] at hsn
            generalize l.getD q 0 = bb at *
            generalize M.dec ((l.drop 0).take q) = x at *
            go_wp2
            go_roundw
            case rel => exact ⟨q + 1, by omega, by simp, by rw [hsn.out]; congr 1; omega, trivial⟩
            case measure => simp [intOf]; omega
          · obtain rfl : q = e := by omega
            rw [Nat.sub_zero] at hc hcl hcd
            generalize M.dec ((l.drop 0).take q) = x at *
            go_wp2_with (at_builtin; (refine wpList_append_own _ rfl _ _ 75 rfl w.heap.size 3 i0 (.int .i64 0) 1 8 sliceInt hi hz0 hz1 hz2 rfl (by decide) _ _ _ rfl (hO2.out.alloc _) ⟨wr.heap.size, 0, none⟩ 1 1 [.int .i64 x] rfl rfl (cell_one_new _ _ _) (by simp [Value.oneCell']) (by unfold maxLen; omega) (by omega) (by simp; omega) ?_; intro v' w1 hown' hgrow _; replace hown' := hide hown'; replace hgrow := hide hgrow; have B1 : Hid (Below w.heap.size w w1) := (hBw.out.alloc hBx _).grown hgrow.out (by simp; omega) (fun g hg => ((hO2.out.lt g hg).1))))
            go_roundw
            case rel => exact ⟨xs ++ [(x : Int)], k + 1, hk1.out, by rw [List.length_append, hxl.out]; rfl, by rw [hen.out], hc, hcd, own_snoc (by rw [hxl.out]; exact hown'.out), B1⟩
            case measure => simp [intOf]; omega
      · have hfi : (e : Int) - 9 = (f : Int) := by omega
        have e9 : Hid (e - f = 9) := by simp only [Hid]; omega
        have hfa : f + 9 ≤ e := by omega
        have hfb : e ≤ f + 9 := by omega
        clear hef
        replace hf := hide hf
        go_wp2
        go_loopw [6, 7] (fun a j wr' => ∃ q : Nat, q ≤ 9 ∧ j = .int .i64 ((f : Int) + (q : Int)) ∧ a = .int .i64 (M.dec ((l.drop f).take q) : Nat) ∧ wr' = wr) (fun _ j _ => e - (intOf j).toNat)
        case atStart => exact ⟨0, Nat.zero_le _, by simp, rfl, rfl⟩
        case round =>
          obtain ⟨q, hq, rfl, rfl, hw⟩ := hrel
          subst hw
          by_cases hqe : q < 9
          · have hqs : f + q < s.size := by omega
            have hb := byteAt s l HL.out (f + q) hqs
            have hdg := digit_at HD.out (show f + q < l.length by omega)
            have hsn := hide (M.chunk_snoc l f q (by omega))
            have hcq := M.chunk_lt HD.out f q (by omega)
            have hlt3 : (f : Int) + (q : Int) < (e : Int) := by omega
            generalize l.getD (f + q) 0 = bb at *
            generalize M.dec ((l.drop f).take q) = x at *
            go_wp2
            go_roundw
            case rel => exact ⟨q + 1, by omega, by simp; omega, by rw [hsn.out]; congr 1; omega, trivial⟩
            case measure => simp [intOf]; omega
          · obtain rfl : q = 9 := by omega
            rw [e9.out] at hc hcl hcd
            have hlt3 : (e : Int) ≤ (f : Int) + ((9 : Nat) : Int) := by omega
            generalize M.dec ((l.drop f).take 9) = x at *
            go_wp2_with (at_builtin; (refine wpList_append_own _ rfl _ _ 75 rfl w.heap.size 3 i0 (.int .i64 0) 1 8 sliceInt hi hz0 hz1 hz2 rfl (by decide) _ _ _ rfl (hO2.out.alloc _) ⟨wr.heap.size, 0, none⟩ 1 1 [.int .i64 x] rfl rfl (cell_one_new _ _ _) (by simp [Value.oneCell']) (by unfold maxLen; omega) (by omega) (by simp; omega) ?_; intro v' w1 hown' hgrow _; replace hown' := hide hown'; replace hgrow := hide hgrow; have B1 : Hid (Below w.heap.size w w1) := (hBw.out.alloc hBx _).grown hgrow.out (by simp; omega) (fun g hg => ((hO2.out.lt g hg).1))))
            go_roundw
            case rel => exact ⟨xs ++ [(x : Int)], k + 1, hk1.out, by rw [List.length_append, hxl.out]; rfl, by rw [hen.out, hfi], hc, hcd, own_snoc (by rw [hxl.out]; exact hown'.out), B1⟩
            case measure => simp [intOf]; omega
    · have hz : Hid (M.val M.NB xs = ((M.dec l : Nat) : Int)) := by
        have h1 := hv.out
        rw [show l.length - 9 * k = 0 by omega, List.drop_zero] at h1
        exact h1
      have hneg : (l.length : Int) - 9 * (k : Int) ≤ 0 := by omega
      have hr := hide hO.out.row.1
      have q := hide (rtrim_calls wr _ xs hr.out)
      generalize (l.length : Int) - 9 * (k : Int) = j at *
      clear hk hlt hxl
      go_wp2_with (go_at_call 70; refine q.out.mono ?_; rintro e w2 ⟨⟨u, rfl, ru, fu⟩, hw2⟩; subst hw2; replace ru := hide ru; replace fu := hide fu)
      go_ret
      exact ⟨⟨u, rfl, M.trimmed xs, ru.out, M.trimmed_dig hd.out, M.trimmed_trm _, by rw [M.trimmed_val]; exact hz.out⟩, hBw.out⟩
end Go.Proofs.YtlepicdpelkmlaaGreatDoor
/- ==== RefCut ==== -/
namespace Go.Proofs.YtlepicdpelkmlaaGreatDoor
theorem index_at (t : List UInt8) (i : Nat) (h : ∀ j, j < i → t.getD j 0 ≠ 47) (hi : i < t.length) (hb : t.getD i 0 = 47) : Lib.index t [47] = (i : Int) := by
  induction t generalizing i with
  | nil => simp at hi
  | cons b l ih =>
    rw [Lib.index]
    cases i with
    | zero =>
      simp at hb
      subst hb
      simp [List.isPrefixOf]
    | succ i =>
      have hb0 : b ≠ 47 := by simpa using h 0 (by omega)
      have h2 := ih i (fun j hj => by have := h (j + 1) (by omega); simpa using this) (by simpa using hi) (by simpa using hb)
      rw [h2]
      have e1 : ([47] : List UInt8).isPrefixOf (b :: l) = false := by simp [List.isPrefixOf]; exact fun e => hb0 e.symm
      rw [e1]
      have e2 : ((i : Int) == -1) = false := by simp
      simp [e2]
theorem index_none (t : List UInt8) (h : ∀ j, j < t.length → t.getD j 0 ≠ 47) : Lib.index t [47] = -1 := by
  induction t with
  | nil => rfl
  | cons b l ih =>
    rw [Lib.index]
    have hb0 : b ≠ 47 := by simpa using h 0 (by simp)
    have h2 := ih (fun j hj => by have := h (j + 1) (by simpa using hj); simpa using this)
    have e1 : ([47] : List UInt8).isPrefixOf (b :: l) = false := by simp [List.isPrefixOf]; exact fun e => hb0 e.symm
    rw [h2, e1]
    rfl
theorem cut_at (t : List UInt8) (i : Nat) (h : ∀ j, j < i → t.getD j 0 ≠ 47) (hi : i < t.length) (hb : t.getD i 0 = 47) : Lib.cut t [47] = (t.take i, t.drop (i + 1), true) := by
  unfold Lib.cut
  rw [index_at t i h hi hb, if_pos (by omega)]
  rfl
theorem cut_none (t : List UInt8) (h : ∀ j, j < t.length → t.getD j 0 ≠ 47) : Lib.cut t [47] = (t, [], false) := by
  unfold Lib.cut
  rw [index_none t h, if_neg (by decide)]
theorem minus_yes (t : List UInt8) : Lib.trimPrefix (45 :: t) [45] = t := by
  simp [Lib.trimPrefix, Lib.hasPrefix, List.isPrefixOf]
theorem minus_no (b : UInt8) (t : List UInt8) (h : b ≠ 45) : Lib.trimPrefix (b :: t) [45] = b :: t := by
  simp [Lib.trimPrefix, Lib.hasPrefix, List.isPrefixOf]
  intro e
  exact absurd e.symm h
theorem minus_nil : Lib.trimPrefix [] [45] = [] := by
  simp [Lib.trimPrefix, Lib.hasPrefix]
end Go.Proofs.YtlepicdpelkmlaaGreatDoor
