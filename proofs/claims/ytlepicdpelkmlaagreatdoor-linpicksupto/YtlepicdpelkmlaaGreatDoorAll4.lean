/- Laid together of: MulSwap, MulAll, DivDigits, SimCalls, GcdWords, GcdWord, GcdDigits. -/
import Derived.Test.YtlepicdpelkmlaaGreatDoorAll3
import Derived.Test.YtlepicdpelkmlaaGreatDoorAll2
import Derived.Test.YtlepicdpelkmlaaGreatDoorAll1
import Derived.Test.YtlepicdpelkmlaaGreatDoorAllMath
import Derived.Deep.RegionWith
/- ==== MulSwap ==== -/
namespace Go.Proofs.YtlepicdpelkmlaaGreatDoor
open Go.RowKit
set_option linter.unusedVariables false

set_option maxRecDepth 100000 in
set_option maxHeartbeats 1000000 in
theorem mulSwap (N half : Nat) (ih : MulOk N) (w : World) (bx ox cx by_ oy cy : Nat) (lx ly : List Int) (rx : Row .u64 w (.slice (some ⟨bx, ox, none⟩) lx.length cx) lx) (ry : Row .u64 w (.slice (some ⟨by_, oy, none⟩) ly.length cy) ly)
    (dx : M.Dig M.BB lx) (dy : M.Dig M.BB ly) (na : lx.length + ly.length ≤ 17592186044416) (h40 : 40 ≤ ly.length) (hle : ly.length < lx.length) (hN : lx.length + ly.length ≤ N + 1)
    (hh : ((lx.length : Int) + 1) / 2 = (half : Int)) (hbig : half < ly.length) :
    Calls Tryz.prog 99 #[.slice (some ⟨by_, oy, none⟩) ly.length cy, .slice (some ⟨bx, ox, none⟩) lx.length cx] w fun e w' => (∃ v l, e = .returned v ∧ Row .u64 w' v l ∧ Fresh w.heap.size v l ∧ M.Dig M.BB l ∧ M.Trm l ∧ M.val M.BB l = M.val M.BB lx * M.val M.BB ly) ∧ Below w.heap.size w w' := by
  have i0 : (0 : Int) ≤ (half : Int) := by omega
  have i1 : (half : Int) ≤ (lx.length : Int) := by omega
  have i2 : (half : Int) ≤ (ly.length : Int) := by omega
  have rx' := rx
  have ry' := ry
  obtain ⟨_, _, e, c1, c2, _, c4⟩ := rx
  simp at e
  obtain ⟨rfl, rfl⟩ := e
  obtain ⟨_, _, e, hcx⟩ := c4 (by rintro rfl; simp only [List.length_nil] at *; omega)
  simp at e
  obtain ⟨rfl, rfl⟩ := e
  clear c4
  have c3 : ly.length ≤ cy := by
    obtain ⟨_, _, e, q1, _⟩ := ry
    simp at e
    omega
  have i4 : (half : Int) ≤ (cy : Int) := by omega
  have i3 : (half : Int) ≤ (cx : Int) := by omega
  have T1 := hide (fun n => trim_front w bx ox cx lx rx' half (by omega) n)
  clear hcx
  go_enter Tryz.func99, Tryz.ntmps99
  go_wp2_with fail
  go_quiet ((go_at_call 120; exact Calls.quiet_of_same (unhide T1 _)))
  generalize hW : w.drewN nq = W
  have bW : Below w.heap.size w W := by rw [← hW]; exact ⟨rfl, rfl, rfl, Nat.le_refl _, fun _ _ => rfl⟩
  have rx1 : Row .u64 W _ lx := rx'.below bW
  have ry1 : Row .u64 W _ ly := ry'.below bW
  clear hW T1
  have T2 := hide (fun n => trim_front W by_ oy cy ly ry1 half (by omega) n)
  go_wp2_with fail
  go_quiet ((go_at_call 120; exact Calls.quiet_of_same (unhide T2 _)))
  clear T2
  generalize hV : W.drewN nq = V
  have bV : Below w.heap.size w V := by rw [← hV]; exact ⟨bW.os, bW.tape, bW.output, bW.size, bW.block⟩
  clear rx1 ry1 hV bW
  have rla : Row .u64 V (.slice (some ⟨bx, ox, none⟩) (M.trimmed (lx.take half)).length cx) (M.trimmed (lx.take half)) := row_trimmed ((rx'.below bV).take half (by omega))
  have rlb : Row .u64 V (.slice (some ⟨by_, oy, none⟩) (M.trimmed (ly.take half)).length cy) (M.trimmed (ly.take half)) := row_trimmed ((ry'.below bV).take half (by omega))
  have rha := (rx'.below bV).drop half (by omega)
  have rhb := (ry'.below bV).drop half (by omega)
  have qa := M.trimmed_le (lx.take half)
  have qb := M.trimmed_le (ly.take half)
  rw [List.length_take] at qa qb
  have ta : (lx.drop half).length = lx.length - half := by simp
  have tb : (ly.drop half).length = ly.length - half := by simp
  have vlx := M.val_take_drop (B := M.BB) lx half (by omega)
  have vly := M.val_take_drop (B := M.BB) ly half (by omega)
  have dla := M.trimmed_dig (dx.take half)
  have dlb := M.trimmed_dig (dy.take half)
  have dha := dx.drop half
  have dhb := dy.drop half
  rw [← M.trimmed_val (B := M.BB) (lx.take half)] at vlx
  rw [← M.trimmed_val (B := M.BB) (ly.take half)] at vly
  generalize hla : M.trimmed (lx.take half) = la at *
  generalize hlb : M.trimmed (ly.take half) = lb at *
  generalize hha : lx.drop half = ha at *
  generalize hhb : ly.drop half = hb at *
  clear hla hlb hha hhb rx' ry' ry
  have VX := hide vlx
  have VY := hide vly
  have QA : la.length ≤ half := by omega
  have QB : lb.length ≤ half := by omega
  have QA1 : ha.length ≤ half := by omega
  have QB1 : hb.length ≤ half := by omega
  have HA : Hid (lx.length = half + ha.length) := by show _ = _; omega
  have HB : Hid (ly.length = half + hb.length) := by show _ = _; omega
  have ta' : lx.length - half = ha.length := ta.symm
  have tb' : ly.length - half = hb.length := tb.symm
  rw [ta'] at rha
  rw [tb'] at rhb
  clear vlx vly ta tb qa qb
  go_wp2_with fail
  have C := ih V _ _ _ _ rla rlb dla dlb (by omega) (by omega)
  refine C.mono ?_
  clear C
  rintro e w1 ⟨⟨v1, l1, rfl, r1, f1, d1, m1, x1⟩, b1⟩
  have X1 := hide x1
  clear x1
  go_wp2_with fail
  have C := ih w1 _ _ ha hb (rha.below b1) (rhb.below b1) dha dhb (by omega) (by omega)
  refine C.mono ?_
  clear C
  rintro e w2 ⟨⟨v2, l2, rfl, r2, f2, d2, m2, x2⟩, b2⟩
  have X2 := hide x2
  have bb2 := b1.then_below b2
  clear x2
  -- the sums of the halves
  go_wp2_with fail
  have C := addDigits_calls w2 _ _ la ha (rla.below bb2) (rha.below bb2) dla dha (by omega) (by omega)
  refine C.mono ?_
  clear C
  rintro e w3 ⟨⟨v3, l3, rfl, r3, f3, d3, m3, x3⟩, b3⟩
  have X3 := hide x3
  have bb3 := bb2.then_below b3
  clear x3
  go_wp2_with fail
  have C := addDigits_calls w3 _ _ lb hb (rlb.below bb3) (rhb.below bb3) dlb dhb (by omega) (by omega)
  refine C.mono ?_
  clear C
  rintro e w4 ⟨⟨v4, l4, rfl, r4, f4, d4, m4, x4⟩, b4⟩
  have X4 := hide x4
  have bb4 := bb3.then_below b4
  clear x4
  have n3 : l3.length ≤ half + 1 := M.length_le_of_lt M.BB_pos d3 m3 (by rw [X3.out]; exact sum_lt dla dha QA QA1)
  have n4 : l4.length ≤ half + 1 := M.length_le_of_lt M.BB_pos d4 m4 (by rw [X4.out]; exact sum_lt dlb dhb QB QB1)
  go_wp2_with fail
  have C := ih w4 _ _ l3 l4 (r3.below b4) r4 d3 d4 (by omega) (by omega)
  refine C.mono ?_
  clear C
  rintro e w5 ⟨⟨v5, l5, rfl, r5, f5, d5, m5, x5⟩, b5⟩
  rw [X3.out, X4.out] at x5
  have X5 := hide x5
  have bb5 := bb4.then_below b5
  clear x5 rla rlb rha rhb r3 r4 f3 f4
  have K := kara (M.val_nonneg M.BB_pos dla) (M.val_nonneg M.BB_pos dha) (M.val_nonneg M.BB_pos dlb) (M.val_nonneg M.BB_pos dhb)
  rw [← X1.out, ← X2.out, ← X5.out] at K
  have n5 : l5.length ≤ half + 1 + (half + 1) := by
    refine M.length_le_of_lt M.BB_pos d5 m5 ?_
    have h1 := M.mul_val_lt M.BB_pos d3 d4
    rw [X3.out, X4.out, ← X5.out] at h1
    have := M.pow_le M.BB_pos (show l3.length + l4.length ≤ half + 1 + (half + 1) by omega)
    omega
  have p1 : l1.length ≤ l5.length := M.length_of_le M.BB_pos d1 d5 m1 (by omega)
  have K1 := hide K
  clear K
  go_wp2_with fail
  have C := subDigits_calls w5 _ _ l5 l1 r5 (r1.below (b2.then_below (b3.then_below (b4.then_below b5)))) d5 d1 (by omega) p1 (by have := K1.out; omega)
  refine C.mono ?_
  clear C
  rintro e w6 ⟨⟨v6, l6, rfl, r6, f6, d6, m6, x6⟩, b6⟩
  have p2 : l2.length ≤ l6.length := M.length_of_le M.BB_pos d2 d6 m2 (by have := K1.out; omega)
  have n6 : l6.length ≤ half + 1 + (half + 1) := by
    have := M.length_of_le M.BB_pos d6 d5 m6 (by have := M.val_nonneg M.BB_pos d1; omega)
    omega
  have X6 := hide x6
  clear x6
  go_wp2_with fail
  have C := subDigits_calls w6 _ _ l6 l2 r6 (r2.below (b3.then_below (b4.then_below (b5.then_below b6)))) d6 d2 (by omega) p2 (by have := K1.out; have := X6.out; omega)
  refine C.mono ?_
  clear C
  rintro e w7 ⟨⟨v7, l7, rfl, r7, f7, d7, m7, x7⟩, b7⟩
  have r1' := r1.below (b2.then_below (b3.then_below (b4.then_below (b5.then_below (b6.then_below b7)))))
  have r2' := r2.below (b3.then_below (b4.then_below (b5.then_below (b6.then_below b7))))
  have bb7 := bV.then_below (bb5.then_below (b6.then_below b7))
  have X7 : Hid (M.val M.BB l1 + M.BB ^ (2 * half) * M.val M.BB l2 + M.BB ^ half * M.val M.BB l7 = M.val M.BB lx * M.val M.BB ly) := by
    show _ = _
    rw [x7, X6.out, X5.out, X1.out, X2.out, VX.out, VY.out]
    exact kara_eq _ _ _ _ _ _
  have n1 : l1.length ≤ 2 * half := by
    refine M.length_le_of_lt M.BB_pos d1 m1 ?_
    rw [X1.out]
    have h1 := M.mul_val_lt M.BB_pos dla dlb
    have := M.pow_le M.BB_pos (show la.length + lb.length ≤ 2 * half by omega)
    omega
  have n2 : l2.length ≤ ha.length + hb.length := by
    refine M.length_le_of_lt M.BB_pos d2 m2 ?_
    rw [X2.out]
    exact M.mul_val_lt M.BB_pos dha dhb
  have room := M.mul_val_lt M.BB_pos dx dy
  rw [← X7.out] at room
  have ROOM := hide room
  clear r1 r2 r5 r6 f1 f2 f5 f6 m1 m2 m5 m6 d5 d6 n5 n6 p1 p2 x7 b1 b2 b3 b4 b5 b6 b7 bb2 bb3 bb4 bb5 bV room n3 n4 d3 d4 m3 m4 QA QB
  have S0 : Hid (2 * half + (ha.length + hb.length) = lx.length + ly.length) := by
    show _ = _
    have h1 := HA.out
    have h2 := HB.out
    omega
  have s1 : 2 * half + (ha.length + hb.length) ≤ lx.length + ly.length := Nat.le_of_eq S0.out
  have s2 : lx.length + ly.length ≤ 2 * half + (ha.length + hb.length) := Nat.le_of_eq S0.out.symm
  have s3 : 0 < hb.length := by
    have := HB.out
    omega
  have n7 : half + l7.length ≤ lx.length + ly.length := by
    have hlt : M.val M.BB l7 < M.BB ^ (lx.length + ly.length - half) := by
      have h1 := ROOM.out
      have h2 := M.val_nonneg M.BB_pos d1
      have h3 := Int.mul_nonneg (Int.le_of_lt (M.pow_pos M.BB_pos (2 * half))) (M.val_nonneg M.BB_pos d2)
      have h4 : M.BB ^ half * M.val M.BB l7 < M.BB ^ half * M.BB ^ (lx.length + ly.length - half) := by
        rw [← Int.pow_add, show half + (lx.length + ly.length - half) = lx.length + ly.length by omega]
        omega
      exact Int.lt_of_mul_lt_mul_left h4 (Int.le_of_lt (M.pow_pos M.BB_pos half))
    have := M.length_le_of_lt M.BB_pos d7 m7 hlt
    omega
  clear S0
  go_wp2_with (first
    | (at_make; refine wpList_make_row _ rfl _ _ _ rfl .u64 _ 8 sliceU64 infoU64 .i64 .i64 _ _ (lx.length + ly.length) rfl rfl (by omega) (by omega) (by decide) (by omega) ?_; intro w8 z8 hz8 ho8 hg8 hs8; have l8 : lx.length + ly.length ≤ z8.length := by rw [hz8.out]; simp)
    | ((with_reducible refine is_copy ?_); refine at_copy .u64 87 sliceU64 sizeU64 w7.heap.size (2 * half) (lx.length + ly.length - 2 * half) (lx.length + ly.length - 2 * half) _ l2 z9 rfl rfl ((r2'.kept hg8 (by simp)).kept hg9 (by rintro g ⟨⟩; exact r2'.apart (Nat.le_refl _))) ho9 (by omega) (by omega) ?_; intro w10 z10 hz10 ho10 hg10)
    | ((with_reducible refine is_copy ?_); refine at_copy .u64 87 sliceU64 sizeU64 w7.heap.size 0 (lx.length + ly.length) (lx.length + ly.length) _ l1 z8 rfl rfl (r1'.kept hg8 (by simp)) ho8 (by omega) (by omega) ?_; intro w9 z9 hz9 ho9 hg9; have l9 : lx.length + ly.length ≤ z9.length := by rw [hz9.out, length_splice _ _ _ (by omega)]; exact l8)
    | (go_at_call 124; fail))
  have e10 : z10 = splice (splice (List.replicate (lx.length + ly.length) (0 : Int)) 0 l1) (2 * half) l2 := by rw [hz10.out, hz9.out, hz8.out]
  obtain ⟨l10, d10, x10⟩ := splice_two (lx.length + ly.length) (2 * half) l1 l2 d1 d2 n1 (by omega)
  rw [← e10] at l10 d10 x10
  have C := addAt_calls w10 w7.heap.size z10 v7 (lx.length + ly.length) half l7 ho10 d10 (((r7.kept hg8 (by simp)).kept hg9 (by rintro g ⟨⟩; exact r7.apart (Nat.le_refl _))).kept hg10 (by rintro g ⟨⟩; exact r7.apart (Nat.le_refl _))) d7 (by omega) (by omega) (r7.apart (Nat.le_refl _)) (by rw [x10, l10]; exact ROOM.out)
  rw [l10, x10, X7.out] at C
  refine C.mono ?_
  clear C
  rintro e w11 ⟨rfl, z11, ho11, d11, l11, x11, hg11⟩
  have r11 : Row .u64 w11 (.slice (some ⟨w7.heap.size, 0, none⟩) (lx.length + ly.length) (lx.length + ly.length)) z11 := by
    have := ho11.all (lx.length + ly.length) (by rw [l11]; omega) (by omega)
    rwa [l11] at this
  have X11 := hide x11
  have bf : Below w.heap.size w w11 := (((bb7.then_below (grown_below hg8)).then_grown hg9 (by rintro g ⟨⟩; exact bb7.size)).then_grown hg10 (by rintro g ⟨⟩; exact bb7.size)).then_grown hg11 (by rintro g ⟨⟩; exact bb7.size)
  clear x11 l11 l10 x10 d10 e10 l8 l9 hz8 hz9 hz10 hs8 hg8 hg9 hg10 hg11 ho8 ho9 ho10 r1' r2' r7
  go_wp2_with (go_at_call 120; refine (trim_calls _ _ z11 r11).mono ?_; rintro e w' ⟨⟨u, rfl, ru, fu⟩, rfl⟩)
  go_ret
  exact ⟨⟨u, M.trimmed z11, rfl, ru, (trim_fresh (own_fresh _ _ _) fu).mono bb7.size, M.trimmed_dig d11, M.trimmed_trm _, by rw [M.trimmed_val]; exact X11.out⟩, bf⟩
end Go.Proofs.YtlepicdpelkmlaaGreatDoor
/- ==== MulAll ==== -/
namespace Go.Proofs.YtlepicdpelkmlaaGreatDoor
open Go.RowKit
set_option linter.unusedVariables false

theorem row_some {k : IntKind} {w : World} {ao : Option Addr} {n c : Nat} {l : List Int} (r : Row k w (.slice ao n c) l) (h : 0 < l.length) : ∃ b o, ao = some ⟨b, o, none⟩ := by
  obtain ⟨ao', c', e, _, _, _, h4⟩ := r
  obtain ⟨b, o, rfl, _⟩ := h4 (by rintro rfl; simp at h)
  simp at e
  exact ⟨b, o, e.1⟩

set_option maxRecDepth 100000 in
set_option maxHeartbeats 1000000 in
theorem mul_small (w : World) (vx vy : Value) (lx ly : List Int) (rx : Row .u64 w vx lx) (ry : Row .u64 w vy ly)
    (dx : M.Dig M.BB lx) (dy : M.Dig M.BB ly) (na : lx.length + ly.length ≤ 17592186044416) (hle : ly.length ≤ lx.length) (h40 : ly.length < 40) :
    Calls Tryz.prog 99 #[vx, vy] w fun e w' => (∃ v l, e = .returned v ∧ Row .u64 w' v l ∧ Fresh w.heap.size v l ∧ M.Dig M.BB l ∧ M.Trm l ∧ M.val M.BB l = M.val M.BB lx * M.val M.BB ly) ∧ Below w.heap.size w w' := by
  obtain ⟨ax, cx, hvx⟩ := (show ∃ ao c, vx = .slice ao lx.length c from ⟨_, _, rx.choose_spec.choose_spec.1⟩)
  obtain ⟨ay, cy, hvy⟩ := (show ∃ ao c, vy = .slice ao ly.length c from ⟨_, _, ry.choose_spec.choose_spec.1⟩)
  subst hvx hvy
  have C := hide (mulSchool_calls w _ _ lx ly rx ry dx dy (by omega))
  go_enter Tryz.func99, Tryz.ntmps99
  go_wp2_with (go_at_call 122; refine (unhide C).mono ?_; rintro e w' ⟨⟨v, l, rfl, h1, h2, h3, h4, h5⟩, h6⟩; have H5 := hide h5; clear h5)
  go_ret
  exact ⟨⟨v, l, rfl, h1, h2, h3, h4, H5.out⟩, h6⟩

set_option maxRecDepth 100000 in
set_option maxHeartbeats 1000000 in
theorem mul_ge (N : Nat) (ih : MulOk N) (w : World) (vx vy : Value) (lx ly : List Int) (rx : Row .u64 w vx lx) (ry : Row .u64 w vy ly)
    (dx : M.Dig M.BB lx) (dy : M.Dig M.BB ly) (na : lx.length + ly.length ≤ 17592186044416) (hle : ly.length ≤ lx.length) (hN : lx.length + ly.length ≤ N + 1) :
    Calls Tryz.prog 99 #[vx, vy] w fun e w' => (∃ v l, e = .returned v ∧ Row .u64 w' v l ∧ Fresh w.heap.size v l ∧ M.Dig M.BB l ∧ M.Trm l ∧ M.val M.BB l = M.val M.BB lx * M.val M.BB ly) ∧ Below w.heap.size w w' := by
  obtain ⟨ax, cx, hvx⟩ := (show ∃ ao c, vx = .slice ao lx.length c from ⟨_, _, rx.choose_spec.choose_spec.1⟩)
  obtain ⟨ay, cy, hvy⟩ := (show ∃ ao c, vy = .slice ao ly.length c from ⟨_, _, ry.choose_spec.choose_spec.1⟩)
  subst hvx hvy
  by_cases h40 : ly.length < 40
  · exact mul_small w _ _ lx ly rx ry dx dy na hle h40
  · obtain ⟨half, hh⟩ : ∃ half : Nat, ((lx.length : Int) + 1) / 2 = (half : Int) := ⟨(lx.length + 1) / 2, by omega⟩
    by_cases hlop : ly.length ≤ half
    · have C := hide (mulLopsided_calls N half ih w _ _ lx ly rx ry dx dy na (by omega) (by omega) hN)
      go_enter Tryz.func99, Tryz.ntmps99
      go_wp2_with (go_at_call 123; refine (unhide C).mono ?_; rintro e w' ⟨⟨v, l, rfl, h1, h2, h3, h4, h5⟩, h6⟩; have H5 := hide h5; clear h5)
      go_ret
      exact ⟨⟨v, l, rfl, h1, h2, h3, h4, H5.out⟩, h6⟩
    · obtain ⟨bx, ox, rfl⟩ := row_some rx (by omega)
      obtain ⟨by_, oy, rfl⟩ := row_some ry (by omega)
      exact mulBig N half ih w bx ox cx by_ oy cy lx ly rx ry dx dy na (by omega) hle hN hh (by omega)

set_option maxRecDepth 100000 in
set_option maxHeartbeats 1000000 in
theorem mul_lt (N : Nat) (ih : MulOk N) (w : World) (vx vy : Value) (lx ly : List Int) (rx : Row .u64 w vx lx) (ry : Row .u64 w vy ly)
    (dx : M.Dig M.BB lx) (dy : M.Dig M.BB ly) (na : lx.length + ly.length ≤ 17592186044416) (hle : ly.length < lx.length) (hN : lx.length + ly.length ≤ N + 1) :
    Calls Tryz.prog 99 #[vy, vx] w fun e w' => (∃ v l, e = .returned v ∧ Row .u64 w' v l ∧ Fresh w.heap.size v l ∧ M.Dig M.BB l ∧ M.Trm l ∧ M.val M.BB l = M.val M.BB lx * M.val M.BB ly) ∧ Below w.heap.size w w' := by
  obtain ⟨ax, cx, hvx⟩ := (show ∃ ao c, vx = .slice ao lx.length c from ⟨_, _, rx.choose_spec.choose_spec.1⟩)
  obtain ⟨ay, cy, hvy⟩ := (show ∃ ao c, vy = .slice ao ly.length c from ⟨_, _, ry.choose_spec.choose_spec.1⟩)
  subst hvx hvy
  by_cases h40 : ly.length < 40
  · have C := hide (mulSchool_calls w _ _ lx ly rx ry dx dy (by omega))
    go_enter Tryz.func99, Tryz.ntmps99
    go_wp2_with (go_at_call 122; refine (unhide C).mono ?_; rintro e w' ⟨⟨v, l, rfl, h1, h2, h3, h4, h5⟩, h6⟩; have H5 := hide h5; clear h5)
    go_ret
    exact ⟨⟨v, l, rfl, h1, h2, h3, h4, H5.out⟩, h6⟩
  · obtain ⟨half, hh⟩ : ∃ half : Nat, ((lx.length : Int) + 1) / 2 = (half : Int) := ⟨(lx.length + 1) / 2, by omega⟩
    by_cases hlop : ly.length ≤ half
    · have C := hide (mulLopsided_calls N half ih w _ _ lx ly rx ry dx dy na (by omega) (by omega) hN)
      go_enter Tryz.func99, Tryz.ntmps99
      go_wp2_with (go_at_call 123; refine (unhide C).mono ?_; rintro e w' ⟨⟨v, l, rfl, h1, h2, h3, h4, h5⟩, h6⟩; have H5 := hide h5; clear h5)
      go_ret
      exact ⟨⟨v, l, rfl, h1, h2, h3, h4, H5.out⟩, h6⟩
    · obtain ⟨bx, ox, rfl⟩ := row_some rx (by omega)
      obtain ⟨by_, oy, rfl⟩ := row_some ry (by omega)
      exact mulSwap N half ih w bx ox cx by_ oy cy lx ly rx ry dx dy na (by omega) hle hN hh (by omega)

theorem mulOk (N : Nat) : MulOk N := by
  induction N with
  | zero =>
    intro w va vb la lb ra rb da db na h0
    have hl : lb.length = 0 := by omega
    obtain ⟨ax, cx, hvx⟩ := (show ∃ ao c, va = .slice ao la.length c from ⟨_, _, ra.choose_spec.choose_spec.1⟩)
    obtain ⟨ay, cy, hvy⟩ := (show ∃ ao c, vb = .slice ao lb.length c from ⟨_, _, rb.choose_spec.choose_spec.1⟩)
    exact mul_small w va vb la lb ra rb da db na (by omega) (by omega)
  | succ N ih =>
    intro w va vb la lb ra rb da db na h0
    by_cases h : la.length < lb.length
    · refine (mul_lt N ih w vb va lb la rb ra db da (by omega) h (by omega)).mono ?_
      rintro e w' ⟨⟨v, l, h1, h2, h3, h4, h5, h6⟩, h7⟩
      exact ⟨⟨v, l, h1, h2, h3, h4, h5, by rw [h6, Int.mul_comm]⟩, h7⟩
    · exact mul_ge N ih w va vb la lb ra rb da db na (by omega) h0

/-- mulDigits: whatever the lengths. -/
theorem mulDigits_calls (w : World) (va vb : Value) (la lb : List Int) (ra : Row .u64 w va la) (rb : Row .u64 w vb lb) (da : M.Dig M.BB la) (db : M.Dig M.BB lb) (na : la.length + lb.length ≤ 17592186044416) :
    Calls Tryz.prog 99 #[va, vb] w fun e w' => (∃ v l, e = .returned v ∧ Row .u64 w' v l ∧ Fresh w.heap.size v l ∧ M.Dig M.BB l ∧ M.Trm l ∧ M.val M.BB l = M.val M.BB la * M.val M.BB lb) ∧ Below w.heap.size w w' :=
  mulOk _ w va vb la lb ra rb da db na (Nat.le_refl _)
end Go.Proofs.YtlepicdpelkmlaaGreatDoor
/- ==== DivDigits ==== -/
namespace Go.Proofs.YtlepicdpelkmlaaGreatDoor
open Go.RowKit
set_option linter.unusedVariables false

theorem row_len {k : IntKind} {w : World} {v : Value} {l : List Int} (r : Row k w v l) : ∃ ao c, v = .slice ao l.length c := ⟨_, _, r.choose_spec.choose_spec.1⟩
theorem row_at {k : IntKind} {w : World} {v : Value} {l : List Int} (r : Row k w v l) (h : 0 < l.length) : ∃ b o c, v = .slice (some ⟨b, o, none⟩) l.length c := by
  obtain ⟨ao, c, rfl, _, _, _, h4⟩ := r
  obtain ⟨b, o, rfl, _⟩ := h4 (by rintro rfl; simp at h)
  exact ⟨b, o, c, rfl⟩
theorem row_nil (k : IntKind) (w : World) : Row k w (.slice none 0 0) [] := ⟨none, 0, rfl, Nat.le_refl _, by decide, fun _ => rfl, fun h => absurd rfl h⟩
theorem one_trm (r : Int) : M.trimmed [r] = if r = 0 then [] else [r] := by
  have := M.trimmed_snoc [] r
  rw [M.trimmed_nil] at this
  exact this
theorem one_val (r : Int) : M.val M.BB [r] = r := by simp [M.val]

set_option maxRecDepth 100000 in
set_option maxHeartbeats 1600000 in
theorem divDigits_calls (w : World) (va vb : Value) (la lb : List Int) (ra : Row .u64 w va la) (rb : Row .u64 w vb lb) (da : M.Dig M.BB la) (db : M.Dig M.BB lb) (ta : M.Trm la) (tb : M.Trm lb) (hb : lb ≠ []) (na : la.length ≤ 17592186044416) :
    Calls Tryz.prog 118 #[va, vb] w fun e w' =>
      (∃ vq vr lq lr, e = .returned (.tuple #[vq, vr]) ∧ Row .u64 w' vq lq ∧ Row .u64 w' vr lr ∧ (M.val M.BB lb ≤ M.val M.BB la → Fresh w.heap.size vr lr) ∧ M.Dig M.BB lq ∧ M.Trm lq ∧ M.Dig M.BB lr ∧ M.Trm lr ∧ M.val M.BB lq = M.val M.BB la / M.val M.BB lb ∧ M.val M.BB lr = M.val M.BB la % M.val M.BB lb) ∧ Below w.heap.size w w' := by
  have hlb : 0 < lb.length := List.length_pos_iff.2 hb
  obtain ⟨bb, ob, cb, rfl⟩ := row_at rb hlb
  obtain ⟨aa, ca, hva⟩ := row_len ra
  subst hva
  have C := hide (compareDigits_calls w _ _ la lb ra rb da db ta tb)
  have vb0 : 0 < M.val M.BB lb := by
    have h1 := tb.val_ge M.BB_pos db hb
    have := M.pow_pos M.BB_pos (lb.length - 1)
    omega
  by_cases hlt : M.val M.BB la < M.val M.BB lb
  · have ec := M.cmp_lt hlt
    rw [ec] at C
    have fin : Hid (M.val M.BB [] = M.val M.BB la / M.val M.BB lb ∧ M.val M.BB la = M.val M.BB la % M.val M.BB lb) := by
      have := M.val_nonneg M.BB_pos da
      exact ⟨(Int.ediv_eq_zero_of_lt this hlt).symm, (Int.emod_eq_of_lt this hlt).symm⟩
    replace hlt := hide hlt
    clear ec
    go_enter Tryz.func118, Tryz.ntmps118
    go_wp2_with (go_at_call 107; refine C.out.mono ?_; rintro e w1 ⟨rfl, nd, hw1⟩; replace hw1 := hide hw1)
    go_ret2
    have e1 : w1 = w.drewN nd := hw1.out
    have b1 : Below w.heap.size w w1 := by rw [e1]; exact ⟨rfl, rfl, rfl, Nat.le_refl _, fun _ _ => rfl⟩
    exact ⟨⟨_, _, [], la, rfl, row_nil _ _, ra.below b1, fun h => absurd hlt.out (by omega), M.Dig.nil, M.Trm.nil, da, ta, fin.out.1, fin.out.2⟩, b1⟩
  · have hge : M.val M.BB lb ≤ M.val M.BB la := by omega
    have hll : lb.length ≤ la.length := M.length_of_le M.BB_pos db da tb hge
    have cge : 0 ≤ M.cmp (M.val M.BB la) (M.val M.BB lb) := by
      unfold M.cmp
      rw [if_neg (by omega)]
      split <;> decide
    generalize M.cmp (M.val M.BB la) (M.val M.BB lb) = cm at *
    clear hlt
    by_cases h1 : lb.length = 1
    · have h1e : ((lb.length : Int) == 1) = true := by simp [h1]
      obtain ⟨x, rfl⟩ : ∃ x, lb = [x] := List.length_eq_one_iff.1 h1
      have hx := db x (by simp)
      have hk : w.cell? ⟨bb, ob, none⟩ = some (.int .u64 x) := by
        obtain ⟨_, _, e, _, _, _, c4⟩ := rb
        simp at e
        obtain ⟨rfl, rfl⟩ := e
        obtain ⟨b', o', e, hc⟩ := c4 (by simp)
        simp at e
        obtain ⟨rfl, rfl⟩ := e
        exact hc 0 (by simp)
      have x0 : 0 < x := by rw [one_val] at vb0; exact vb0
      rw [one_val] at *
      clear h1 h1e
      go_enter Tryz.func118, Tryz.ntmps118
      go_wp2_with (first
        | (go_at_call 107; refine C.out.mono ?_; rintro e w1 ⟨rfl, nd, hw1⟩; replace hw1 := hide hw1; have hk1 : w1.cell? ⟨bb, ob, none⟩ = some (.int .u64 x) := by rw [hw1.out]; exact hk)
        | (go_at_call 139; fail))
      have e1 : w1 = w.drewN nd := hw1.out
      have b1 : Below w.heap.size w w1 := by rw [e1]; exact ⟨rfl, rfl, rfl, Nat.le_refl _, fun _ _ => rfl⟩
      clear e1
      refine (divByDigit_calls w1 _ la x (ra.below b1) da (by omega) ⟨x0, hx.2⟩).mono ?_
      rintro e w2 ⟨⟨v, l, r, rfl, rv, fv, dv, tv, vv, hr⟩, b2⟩
      have r0 : 0 ≤ r := by rw [hr]; exact Int.emod_nonneg _ (by omega)
      have r1 : r < M.BB := by rw [hr]; have := Int.emod_lt_of_pos (M.val M.BB la) x0; omega
      replace vv := hide vv
      replace hr := hide hr
      have o3 : Own .u64 87 (w2.alloc (.cells #[.int .u64 r] 87)) w2.heap.size [r] := heap_alloc_new w2 _
      have b3 : Below w2.heap.size w2 (w2.alloc (.cells #[.int .u64 r] 87)) := grown_below (World.grownBy_alloc _ _ _)
      have r3 := o3.all 1 (by simp) (by decide)
      have dr : M.Dig M.BB [r] := M.Dig.cons r0 r1 M.Dig.nil
      have T := hide (trim_calls _ _ [r] r3)
      go_wp2_with (go_at_call 120; refine T.out.mono ?_; rintro e w3 ⟨⟨u, rfl, ru, fu⟩, hw3⟩; rw [hw3]; clear hw3 w3)
      go_ret2
      refine ⟨⟨v, u, l, M.trimmed [r], rfl, rv.below b3, ru, fun _ => (trim_fresh (own_fresh _ _ _) fu).mono (Nat.le_trans b1.size b2.size), dv, tv, M.trimmed_dig dr, M.trimmed_trm _, vv.out, ?_⟩, (b1.then_below b2).then_below b3⟩
      rw [M.trimmed_val, one_val]
      exact hr.out
    · have h1e : ((lb.length : Int) == 1) = false := by simp; omega
      obtain ⟨n, hn⟩ : ∃ n, lb.length = n + 1 := ⟨lb.length - 1, by omega⟩
      obtain ⟨m, hm⟩ : ∃ m, la.length = n + 1 + m := ⟨la.length - (n + 1), by omega⟩
      obtain ⟨ba, oa, rfl⟩ := row_some ra (by omega)
      have HN := hide hn
      have HM := hide hm
      clear hn hm
      go_enter Tryz.func118, Tryz.ntmps118
      go_wp2_with (first
        | (go_at_call 107; refine C.out.mono ?_; rintro e w1 ⟨rfl, nd, hw1⟩; replace hw1 := hide hw1)
        | (go_at_call 140; fail))
      have e1 : w1 = w.drewN nd := hw1.out
      have b1 : Below w.heap.size w w1 := by rw [e1]; exact ⟨rfl, rfl, rfl, Nat.le_refl _, fun _ _ => rfl⟩
      clear e1
      refine (divLong_calls w1 ba oa ca bb ob cb n m la lb (ra.below b1) (rb.below b1) da db tb HN.out HM.out na).mono ?_
      rintro e w2 ⟨⟨vq, vr, lq, lr, rfl, q1, q2, q3, q4, q5, q6, q7, q8, q9, q10⟩, b2⟩
      replace q9 := hide q9
      replace q10 := hide q10
      go_wp2
      go_ret2
      exact ⟨⟨vq, vr, lq, lr, rfl, q1, q2, fun _ => q4.mono b1.size, q5, q6, q7, q8, q9.out, q10.out⟩, b1.then_below b2⟩
end Go.Proofs.YtlepicdpelkmlaaGreatDoor
/- ==== SimCalls ==== -/
namespace Go.Proofs.YtlepicdpelkmlaaGreatDoor
open Go.RowKit
set_option linter.unusedVariables false

theorem two_tops (l : List Int) (n : Nat) (h : l.length ≤ n + 2) : M.val M.BB l = (l.getD (n + 1) 0 * M.BB + l.getD n 0) * M.BB ^ n + M.val M.BB (l.take n) := by
  have e0 : l.take (n + 1 + 1) = l := List.take_of_length_le (by omega)
  have e1 := take_succ_val l (n + 1)
  rw [take_succ_val l n, e0] at e1
  rw [e1, Int.pow_succ]
  grind
theorem take_lt {l : List Int} (d : M.Dig M.BB l) (n : Nat) : M.val M.BB (l.take n) < M.BB ^ n := by
  have h1 := M.val_lt M.BB_pos (d.take n)
  have h2 := M.pow_le M.BB_pos (show (l.take n).length ≤ n by rw [List.length_take]; omega)
  omega
/-- A number by its top bits and the rest. -/
theorem split_top {V T t p : Int} (n : Nat) (hp : 0 < p) (hV : V = T * M.BB ^ n + t) (t0 : 0 ≤ t) (t1 : t < M.BB ^ n) :
    V = M.BB ^ n * p * (T / p) + (M.BB ^ n * (T % p) + t) ∧ 0 ≤ M.BB ^ n * (T % p) + t ∧ M.BB ^ n * (T % p) + t < M.BB ^ n * p := by
  have e := Int.mul_ediv_add_emod T p
  have m0 := Int.emod_nonneg T (Int.ne_of_gt hp)
  have m1 := Int.emod_lt_of_pos T hp
  have S := M.pow_pos M.BB_pos n
  generalize T / p = q at *
  generalize T % p = r at *
  have k1 := Int.mul_nonneg (Int.le_of_lt S) m0
  have k2 := Int.mul_le_mul_of_nonneg_left (show r + 1 ≤ p by omega) (Int.le_of_lt S)
  refine ⟨?_, by omega, ?_⟩
  · rw [hV, ← e]; grind
  · rw [Int.mul_add] at k2; omega

theorem simulate_calls (w : World) (va vb : Value) (la lb : List Int) (n : Nat) (ra : Row .u64 w va la) (rb : Row .u64 w vb lb) (da : M.Dig M.BB la) (db : M.Dig M.BB lb) (ta : M.Trm la) (hn : la.length = n + 2) (hb : 0 < lb.length) (hbn : lb.length ≤ n + 2) (hle : M.val M.BB lb ≤ M.val M.BB la) :
    Calls Tryz.prog 117 #[va, vb] w fun e w' => SimPost (M.val M.BB la) (M.val M.BB lb) e ∧ Below w.heap.size w w' := by
  obtain ⟨ba, oa, ca, rfl⟩ := row_at ra (by omega)
  obtain ⟨bb, ob, cb, rfl⟩ := row_at rb hb
  have vA := two_tops la n (by omega)
  have vB := two_tops lb n hbn
  have tA := take_lt da n
  have tB := take_lt db n
  have nA := M.val_nonneg M.BB_pos (da.take n)
  have nB := M.val_nonneg M.BB_pos (db.take n)
  have g1 := da.getD M.BB_pos (n + 1)
  have g0 := da.getD M.BB_pos n
  have q1 := db.getD M.BB_pos (n + 1)
  have q0 := db.getD M.BB_pos n
  have S := M.pow_pos M.BB_pos n
  have top0 : 0 < la.getD (n + 1) 0 := by
    have h1 := ta.val_ge M.BB_pos da (by rintro rfl; simp at hn)
    rw [hn, show n + 2 - 1 = n + 1 from rfl, Int.pow_succ] at h1
    rcases Int.lt_or_le 0 (la.getD (n + 1) 0) with h | h
    · exact h
    · have h2 : la.getD (n + 1) 0 = 0 := by omega
      rw [h2] at vA
      have h3 := Int.mul_le_mul_of_nonneg_right (show la.getD n 0 + 1 ≤ M.BB by omega) (Int.le_of_lt S)
      rw [Int.add_mul, Int.mul_comm M.BB] at h3
      simp only [Int.zero_mul, Int.zero_add] at vA
      omega
  have hT : lb.getD (n + 1) 0 * M.BB + lb.getD n 0 ≤ la.getD (n + 1) 0 * M.BB + la.getD n 0 := by
    have h1 : (lb.getD (n + 1) 0 * M.BB + lb.getD n 0) * M.BB ^ n < (la.getD (n + 1) 0 * M.BB + la.getD n 0 + 1) * M.BB ^ n := by
      rw [Int.add_mul _ 1]
      omega
    have := Int.lt_of_mul_lt_mul_right h1 (Int.le_of_lt S)
    omega
  have hb1 : lb.getD (n + 1) 0 ≤ la.getD (n + 1) 0 := by
    rcases Int.lt_or_le (la.getD (n + 1) 0) (lb.getD (n + 1) 0) with h | h
    · have := Int.mul_le_mul_of_nonneg_right (show la.getD (n + 1) 0 + 1 ≤ lb.getD (n + 1) 0 by omega) (Int.le_of_lt M.BB_pos)
      rw [Int.add_mul] at this
      omega
    · exact h
  have a1le : la.getD (n + 1) 0 ≤ 18446744073709551615 := by have := g1.2; rw [M.BB_eq] at this; omega
  obtain ⟨f1, f2, f3⟩ := lz_facts (la.getD (n + 1) 0) top0 a1le
  have P := pow_split (lz (la.getD (n + 1) 0)) (by omega)
  have p0 := two_pos (lz (la.getD (n + 1) 0))
  have p1 := two_pos (64 - lz (la.getD (n + 1) 0))
  obtain ⟨sA1, sA2, sA3⟩ := split_top n p1 vA nA tA
  obtain ⟨sB1, sB2, sB3⟩ := split_top n p1 vB nB tB
  have cellA : ∀ j, j < la.length → w.cell? ⟨ba, oa + j, none⟩ = some (.int .u64 (la.getD j 0)) := by
    obtain ⟨_, _, e, _, _, _, c4⟩ := ra
    simp at e
    obtain ⟨rfl, rfl⟩ := e
    obtain ⟨b', o', e, hc⟩ := c4 (by rintro rfl; simp at hn)
    simp at e
    obtain ⟨rfl, rfl⟩ := e
    exact hc
  have cellB : ∀ j, j < lb.length → w.cell? ⟨bb, ob + j, none⟩ = some (.int .u64 (lb.getD j 0)) := by
    obtain ⟨_, _, e, _, _, _, c4⟩ := rb
    simp at e
    obtain ⟨rfl, rfl⟩ := e
    obtain ⟨b', o', e, hc⟩ := c4 (by rintro rfl; simp at hb)
    simp at e
    obtain ⟨rfl, rfl⟩ := e
    exact hc
  have hcap : n + 2 ≤ 140737488355328 := by
    obtain ⟨_, _, e, c1, c2, _⟩ := ra
    simp at e
    omega
  refine simulate_at w _ _ _ _ _ _ _ _ _ ?_ ?_ ?_ ?_ (Int.mul_pos S p1) sA1 sB1 sA2 sA3 sB2 sB3
  · intro W hW
    have kA : ∀ j, j < la.length → W.cell? ⟨ba, oa + j, none⟩ = some (.int .u64 (la.getD j 0)) := fun j hj => (hW.cell (p := ⟨ba, oa + j, none⟩) (World.block_lt_of_cell? w _ (cellA j hj))).trans (cellA j hj)
    have kB : ∀ j, j < lb.length → W.cell? ⟨bb, ob + j, none⟩ = some (.int .u64 (lb.getD j 0)) := fun j hj => (hW.cell (p := ⟨bb, ob + j, none⟩) (World.block_lt_of_cell? w _ (cellB j hj))).trans (cellB j hj)
    have T := tops_at W ba oa ca bb ob cb n lb.length _ _ (lb.getD (n + 1) 0) (lb.getD n 0) hcap (kA (n + 1) (by omega)) (kA n (by omega)) hbn (fun h => kB _ (by omega)) (fun h => kB _ (by omega))
      (fun h => by rw [List.getD_eq_getElem?_getD, List.getElem?_eq_none (by omega)]; rfl) (fun h => by rw [List.getD_eq_getElem?_getD, List.getElem?_eq_none (by omega)]; rfl) ⟨top0, g1.2⟩ g0 ⟨q1.1, hb1⟩ q0
    rw [hn]
    exact T
  · exact Int.ediv_nonneg (by have := Int.mul_nonneg q1.1 (Int.le_of_lt M.BB_pos); omega) (Int.le_of_lt p1)
  · exact Int.ediv_le_ediv p1 hT
  · have : (la.getD (n + 1) 0 * M.BB + la.getD n 0) / 2 ^ (64 - lz (la.getD (n + 1) 0)) < 18446744073709551616 := by
      rw [Int.ediv_lt_iff_lt_mul p1]
      have h3 : la.getD (n + 1) 0 < 2 ^ (64 - lz (la.getD (n + 1) 0)) := by
        have : la.getD (n + 1) 0 * 2 ^ lz (la.getD (n + 1) 0) < 2 ^ (64 - lz (la.getD (n + 1) 0)) * 2 ^ lz (la.getD (n + 1) 0) := by rw [P]; omega
        exact Int.lt_of_mul_lt_mul_right this (Int.le_of_lt p0)
      have h4 := Int.mul_le_mul_of_nonneg_right (show la.getD (n + 1) 0 + 1 ≤ 2 ^ (64 - lz (la.getD (n + 1) 0)) by omega) (Int.le_of_lt M.BB_pos)
      rw [Int.add_mul, M.BB_eq] at h4
      have := g0.2
      rw [M.BB_eq] at *
      rw [Int.mul_comm 18446744073709551616]
      omega
    omega
end Go.Proofs.YtlepicdpelkmlaaGreatDoor
/- ==== GcdWords ==== -/
namespace Go.Proofs.YtlepicdpelkmlaaGreatDoor
open Go.RowKit
set_option linter.unusedVariables false

/-- The table by which the library counts zeros lies where the program's start lays it. -/
def Tab (w : World) : Prop := TabAt 2 Lib.deBruijn64tab w
theorem Tab.lt {w : World} (h : Tab w) : 2 < w.heap.size := World.block_lt_of_cell? w _ (h 0 (by decide))
theorem Tab.below {w w' : World} (h : Tab w) (b : Below w.heap.size w w') : Tab w' := by
  intro j hj
  rw [b.cell (p := ⟨_, j, none⟩) h.lt]
  exact h j hj

theorem tz_calls (y s o : Nat) (h0 : y ≠ 0) (h1 : y < 18446744073709551616) (hs : Lib.ctz 64 y = s) (w : World) (hT : Tab w) : Calls Tryz.prog 116 #[.int .u64 y] w fun e w' => e = .returned (.int .i64 s) ∧ w' = w := by
  have h := Tryz.bits_TrailingZeros64 y h1 w (fun _ => hT)
  rwa [hs] at h

theorem shr_eq (y s o : Nat) (e : y = 2 ^ s * o) : (y : Int) / 2 ^ s = (o : Int) := by
  rw [e, Int.natCast_mul, Int.natCast_pow]
  exact Int.mul_ediv_cancel_left _ (Int.ne_of_gt (two_pos s))

set_option maxRecDepth 100000 in
set_option maxHeartbeats 1600000 in
theorem gcdWords_calls (a b : Nat) (ha : a < 18446744073709551616) (hb : b < 18446744073709551616) (w : World) (hT : Tab w) :
    Calls Tryz.prog 93 #[.int .u64 a, .int .u64 b] w fun e w' => e = .returned (.int .u64 (Nat.gcd a b : Nat)) ∧ w' = w := by
  have eo := bits_or_u64_nat a b ha hb
  by_cases ha0 : a = 0
  · subst ha0
    have e1 : ((0 : Int) == 0) = true := rfl
    simp only [Nat.zero_or, Int.natCast_zero] at eo
    rw [Nat.gcd_zero_left]
    go_enter Tryz.func93, Tryz.ntmps93
    go_wp2
    go_ret
    exact ⟨rfl, rfl⟩
  · have a1 : 1 ≤ a := by omega
    have ea0 : ((a : Int) == 0) = false := by simp; omega
    by_cases hb0 : b = 0
    · subst hb0
      simp only [Nat.or_zero, Int.natCast_zero] at eo
      rw [Nat.gcd_zero_right]
      clear ha0
      go_enter Tryz.func93, Tryz.ntmps93
      go_wp2
      go_ret
      exact ⟨rfl, rfl⟩
    · have b1 : 1 ≤ b := by omega
      have eb0 : ((b : Int) == 0) = false := by simp; omega
      obtain ⟨pa1, pa2, pa3, pa4, pa5⟩ := M.odd_spec a ha0 ha
      obtain ⟨pb1, pb2, pb3, pb4, pb5⟩ := M.odd_spec b hb0 hb
      have eg := M.gcd_twos a b _ _ _ _ pa2 pb2 pa1 pb1
      rw [M.gcd_odd _ _ pa2 hb0 hb] at eg
      have eor := M.ctz_or a b ha0 hb0 ha hb
      have hor : a ||| b < 18446744073709551616 := Nat.or_lt_two_pow (n := 64) ha hb
      have hor0 : a ||| b ≠ 0 := by
        intro h
        have := Nat.left_le_or (n := a) (m := b)
        omega
      rw [← eor] at eg
      have T1 := hide (fun W h => tz_calls (a ||| b) _ 0 hor0 hor rfl W h)
      have T2 := hide (fun W h => tz_calls a _ 0 ha0 ha rfl W h)
      have S2 := shr_eq a _ _ pa1
      have glt : Nat.gcd a b < 18446744073709551616 := by
        have := Nat.gcd_le_left b (show 0 < a by omega)
        omega
      clear pb1 pb2 pb3 pb4 pb5 pa1 eor ha0 hb0 hor0
      generalize a ||| b = ab at *
      have pm : Lib.ctz 64 ab ≤ 64 := by
        unfold Lib.ctz
        split
        · omega
        · have := Lib.ctzFrom_spec 64 ab (by omega) hor
          obtain ⟨m, _, h⟩ := this
          omega
      generalize hs1 : Lib.ctz 64 ab = s1 at *
      generalize hs2 : Lib.ctz 64 a = s2 at *
      generalize M.odd a = oa at *
      obtain ⟨G, hG⟩ : ∃ G, Nat.gcd oa b = G := ⟨_, rfl⟩
      rw [hG] at eg
      have EG := hide eg
      have HG := hide hG
      rw [eg] at glt ⊢
      have HT := hide hT
      clear eg hG hs1 hs2 hT
      go_enter Tryz.func93, Tryz.ntmps93
      go_wp2_with (first
        | (go_at_call_of 116 (Value.int IntKind.u64 (ab : Int)); refine (T1.out _ HT.out).mono ?_; rintro e w' ⟨rfl, hw'⟩; rw [hw']; clear hw' w')
        | (go_at_call_of 116 (Value.int IntKind.u64 (a : Int)); refine (T2.out _ HT.out).mono ?_; rintro e w' ⟨rfl, hw'⟩; rw [hw']; clear hw' w'))
      go_loop [0, 1] (fun xv yv => ∃ x y : Nat, xv = .int .u64 x ∧ yv = .int .u64 y ∧ x < 18446744073709551616 ∧ y < 18446744073709551616 ∧ x % 2 = 1 ∧ Hid (Nat.gcd x y = G)) (fun xv yv => (intOf xv).toNat + (intOf yv).toNat)
      case atStart => exact ⟨oa, b, rfl, rfl, by omega, hb, pa2, HG⟩
      case round =>
        clear S2
        obtain ⟨x, y, rfl, rfl, hx, hy, hxo, hg⟩ := hrel
        by_cases hy0 : y = 0
        · subst hy0
          have hxG : x = G := by have := hg.out; rwa [Nat.gcd_zero_right] at this
          subst hxG
          have ew : IntKind.u64.wrap ((x : Int) * 2 ^ s1) = ((2 ^ s1 * x : Nat) : Int) := by
            have e : (x : Int) * 2 ^ s1 = ((2 ^ s1 * x : Nat) : Int) := by rw [Int.natCast_mul, Int.natCast_pow, Int.mul_comm]; rfl
            rw [e, IntKind.wrap_u64]
            omega
          go_wp2
          go_ret
          exact ⟨rfl, rfl⟩
        · have y1 : 1 ≤ y := by omega
          have ey0 : ((y : Int) != 0) = true := by simp; omega
          obtain ⟨q1, q2, q3, q4, q5⟩ := M.odd_spec y hy0 hy
          have T3 := hide (fun W h => tz_calls y _ 0 hy0 hy rfl W h)
          have S3 := shr_eq y _ _ q1
          have g1 := M.gcd_odd x y hxo hy0 hy
          rw [hg.out] at g1
          have HG1 := hide g1
          clear q1 hy0 g1
          generalize hs3 : Lib.ctz 64 y = s3 at *
          generalize M.odd y = oy at *
          clear hs3
          by_cases hlt : oy < x
          · have hg2 : Hid (Nat.gcd oy (x - oy) = G) := by
              show _ = _
              rw [M.gcd_sub _ _ (by omega), Nat.gcd_comm]
              exact HG1.out
            have lt' : (oy : Int) < (x : Int) := by omega
            go_wp2_with (go_at_call 116; refine (T3.out _ HT.out).mono ?_; rintro e w' ⟨rfl, hw'⟩; rw [hw']; clear hw' w')
            go_round
            case rel => exact ⟨oy, x - oy, rfl, by congr 1; omega, by omega, by omega, q2, hg2⟩
            case measure => simp [intOf]; omega
          · have hg2 : Hid (Nat.gcd x (oy - x) = G) := by
              show _ = _
              rw [M.gcd_sub _ _ (by omega)]
              exact HG1.out
            have le' : (x : Int) ≤ (oy : Int) := by omega
            go_wp2_with (go_at_call 116; refine (T3.out _ HT.out).mono ?_; rintro e w' ⟨rfl, hw'⟩; rw [hw']; clear hw' w')
            go_round
            case rel => exact ⟨x, oy - x, rfl, by congr 1; omega, by omega, by omega, hxo, hg2⟩
            case measure => simp [intOf]; omega
end Go.Proofs.YtlepicdpelkmlaaGreatDoor
/- ==== GcdWord ==== -/
namespace Go.Proofs.YtlepicdpelkmlaaGreatDoor
open Go.RowKit
set_option linter.unusedVariables false

theorem gcd_word (A x : Int) (hA : 0 ≤ A) (hx : 0 < x) : ((Nat.gcd x.toNat (A % x).toNat : Nat) : Int) = (Int.gcd A x : Int) := by
  obtain ⟨a, rfl⟩ := Int.eq_ofNat_of_zero_le hA
  obtain ⟨y, rfl⟩ := Int.eq_ofNat_of_zero_le (Int.le_of_lt hx)
  rw [Int.toNat_natCast, ← Int.natCast_emod, Int.toNat_natCast, Int.gcd_natCast_natCast]
  congr 1
  rw [Nat.gcd_comm y, ← Nat.gcd_rec, Nat.gcd_comm]

set_option maxRecDepth 100000 in
set_option maxHeartbeats 1600000 in
theorem gcdWithWord_calls (w : World) (va vb : Value) (la lb : List Int) (ra : Row .u64 w va la) (rb : Row .u64 w vb lb) (da : M.Dig M.BB la) (db : M.Dig M.BB lb) (ta : M.Trm la) (tb : M.Trm lb) (hb : lb.length ≤ 1) (na : la.length ≤ 17592186044416) (hT : Tab w) :
    Calls Tryz.prog 121 #[va, vb] w fun e w' => (∃ v l, e = .returned v ∧ Row .u64 w' v l ∧ M.Dig M.BB l ∧ M.Trm l ∧ M.val M.BB l = (Int.gcd (M.val M.BB la) (M.val M.BB lb) : Int)) ∧ Below w.heap.size w w' := by
  have hA0 := M.val_nonneg M.BB_pos da
  by_cases h0 : lb = []
  · subst h0
    obtain ⟨ab, cb, rfl⟩ := row_len rb
    have fin : Hid (M.val M.BB la = (Int.gcd (M.val M.BB la) (M.val M.BB []) : Int)) := by
      show _ = _
      simp only [M.val, Int.gcd_zero_right]
      omega
    go_enter Tryz.func121, Tryz.ntmps121
    go_wp2
    go_ret
    exact ⟨⟨va, la, rfl, ra, da, ta, fin.out⟩, Below.refl _ _⟩
  · obtain ⟨x, rfl⟩ : ∃ x, lb = [x] := List.length_eq_one_iff.1 (by have := List.length_pos_iff.2 h0; omega)
    obtain ⟨bb, ob, cb, rfl⟩ := row_at rb (by simp)
    have hx := db x (by simp)
    have hk : w.cell? ⟨bb, ob, none⟩ = some (.int .u64 x) := by
      obtain ⟨_, _, e, _, _, _, c4⟩ := rb
      simp at e
      obtain ⟨rfl, rfl⟩ := e
      obtain ⟨b', o', e, hc⟩ := c4 (by simp)
      simp at e
      obtain ⟨rfl, rfl⟩ := e
      exact hc 0 (by simp)
    have x0 : 0 < x := by
      have h1 := tb.val_ge M.BB_pos db (by simp)
      rw [one_val] at h1
      simp at h1
      omega
    rw [one_val]
    have D := hide (divByDigit_calls w va la x ra da (by omega) ⟨x0, hx.2⟩)
    have hx1 : x ≤ 18446744073709551615 := by have := hx.2; rw [M.BB_eq] at this; omega
    go_enter Tryz.func121, Tryz.ntmps121
    go_wp2_with fail
    refine D.out.mono ?_
    rintro e w1 ⟨⟨v, l, r, rfl, rv, fv, dv, tv, vv, hr⟩, b1⟩
    have hk1 : w1.cell? ⟨bb, ob, none⟩ = some (.int .u64 x) := (b1.cell (p := ⟨bb, ob, none⟩) (World.block_lt_of_cell? w _ hk)).trans hk
    have r0 : 0 ≤ r := by rw [hr]; exact Int.emod_nonneg _ (by omega)
    have r1 : r < x := by rw [hr]; exact Int.emod_lt_of_pos _ x0
    have G := gcdWords_calls x.toNat r.toNat (by omega) (by omega) w1 (hT.below b1)
    rw [Int.toNat_of_nonneg (by omega), Int.toNat_of_nonneg r0] at G
    have E := gcd_word (M.val M.BB la) x hA0 x0
    rw [← hr] at E
    have gp : 0 < Nat.gcd x.toNat r.toNat := Nat.gcd_pos_of_pos_left _ (by omega)
    have gl : Nat.gcd x.toNat r.toNat ≤ x.toNat := Nat.gcd_le_left _ (by omega)
    generalize Nat.gcd x.toNat r.toNat = q at *
    replace G := hide G
    replace E := hide E
    clear vv hr hk
    go_wp2_with (go_at_call 93; refine G.out.mono ?_; rintro e w2 ⟨rfl, hw2⟩; rw [hw2]; clear hw2 w2)
    go_ret
    have o3 : Own .u64 87 (w1.alloc (.cells #[.int .u64 q] 87)) w1.heap.size [(q : Int)] := heap_alloc_new w1 _
    have r3 := o3.all 1 (by simp) (by decide)
    refine ⟨⟨_, [(q : Int)], rfl, r3, M.Dig.cons (by omega) (by rw [M.BB_eq]; omega) M.Dig.nil, ?_, ?_⟩, b1.then_below (grown_below (World.grownBy_alloc _ _ _))⟩
    · intro _
      simp
      omega
    · rw [one_val]; exact E.out
end Go.Proofs.YtlepicdpelkmlaaGreatDoor
/- ==== GcdDigits ==== -/
namespace Go.Proofs.YtlepicdpelkmlaaGreatDoor
open Go.RowKit
set_option linter.unusedVariables false

theorem row_unique {k : IntKind} {w : World} {v : Value} {l l' : List Int} (h : Row k w v l) (h' : Row k w v l') : l = l' := by
  obtain ⟨ao, c, rfl, _, _, _, h4⟩ := h
  obtain ⟨ao', c', e, _, _, _, h4'⟩ := h'
  simp at e
  obtain ⟨rfl, hl, rfl⟩ := e
  by_cases h0 : l = []
  · subst h0
    exact (List.length_eq_zero_iff.1 hl.symm).symm
  · obtain ⟨b, o, e1, hc⟩ := h4 h0
    obtain ⟨b', o', e2, hc'⟩ := h4' (by rintro rfl; exact h0 (List.length_eq_zero_iff.1 hl))
    rw [e1] at e2
    simp at e2
    obtain ⟨rfl, rfl⟩ := e2
    apply List.ext_getElem hl
    intro j hj hj'
    have h1 := hc j hj
    rw [hc' j (by omega)] at h1
    simp [List.getD_eq_getElem?_getD, List.getElem?_eq_getElem hj, List.getElem?_eq_getElem hj'] at h1
    exact h1.symm
/-- The number that a slice of digits is: for a loop's measure. -/
theorem rowVal_eq {w : World} {v : Value} {l : List Int} (h : Row .u64 w v l) : (@Classical.epsilon Nat ⟨0⟩ fun n => ∃ l, Row .u64 w v l ∧ (M.val M.BB l).toNat = n) = (M.val M.BB l).toNat := by
  have h1 := @Classical.epsilon_spec_aux Nat ⟨0⟩ (fun n => ∃ l, Row .u64 w v l ∧ (M.val M.BB l).toNat = n) ⟨_, l, h, rfl⟩
  obtain ⟨l', h2, h3⟩ := h1
  rw [row_unique h h2]
  exact h3.symm

/-- What holds at the head of Lehmer's loop: two numbers, and two pairs of lists that take turns. -/
def GInv (w wr : World) (G L : Nat) (s0 s1 s5 s6 s7 s8 : Value) : Prop :=
  ∃ (x y : List Int) (r1 r2 g h : Nat) (z1 z2 z3 z4 : List Int), s5 = .slice (some ⟨r1, 0, none⟩) L L ∧ s6 = .slice (some ⟨r2, 0, none⟩) L L ∧ s7 = .slice (some ⟨g, 0, none⟩) L L ∧ s8 = .slice (some ⟨h, 0, none⟩) L L ∧
    Row .u64 wr s0 x ∧ Row .u64 wr s1 y ∧ (M.Dig M.BB x ∧ M.Dig M.BB y ∧ M.Trm x ∧ M.Trm y) ∧ M.val M.BB y ≤ M.val M.BB x ∧ Int.gcd (M.val M.BB x) (M.val M.BB y) = G ∧ x.length ≤ L ∧
    (Apart s0 x g ∧ Apart s0 x h ∧ Apart s1 y g ∧ Apart s1 y h) ∧ (Own .u64 87 wr r1 z1 ∧ Own .u64 87 wr r2 z2 ∧ Own .u64 87 wr g z3 ∧ Own .u64 87 wr h z4) ∧ (M.Dig M.BB z1 ∧ M.Dig M.BB z2 ∧ M.Dig M.BB z3 ∧ M.Dig M.BB z4) ∧
    (z1.length = L ∧ z2.length = L ∧ z3.length = L ∧ z4.length = L) ∧ (r1 ≠ r2 ∧ g ≠ h ∧ r1 ≠ g ∧ r1 ≠ h ∧ r2 ≠ g ∧ r2 ≠ h) ∧ (w.heap.size ≤ r1 ∧ w.heap.size ≤ r2 ∧ w.heap.size ≤ g ∧ w.heap.size ≤ h) ∧ Below w.heap.size w wr
theorem GInv.mk4 {w w1 W : World} {G L S : Nat} {s0 s1 : Value} {x y : List Int} {ZZ : Array Value} (hZ : ZZ = ((List.replicate L (0 : Int)).map (Value.int .u64)).toArray) (hS : S = w1.heap.size) (hW : W.heap = (((w1.heap.push (.cells ZZ 87 (0, 0))).push (.cells ZZ 87 (0, 0))).push (.cells ZZ 87 (0, 0))).push (.cells ZZ 87 (0, 0)))
    (hos : W.os = w1.os ∧ W.tape = w1.tape ∧ W.output = w1.output) (b1 : Below w.heap.size w w1) (rx : Row .u64 w1 s0 x) (ry : Row .u64 w1 s1 y) (hd : M.Dig M.BB x ∧ M.Dig M.BB y ∧ M.Trm x ∧ M.Trm y) (hle : M.val M.BB y ≤ M.val M.BB x) (hg : Int.gcd (M.val M.BB x) (M.val M.BB y) = G) (hL : x.length ≤ L)
    (i j k m : Nat) (hi : i < 4 ∧ j < 4 ∧ k < 4 ∧ m < 4 ∧ i ≠ j ∧ k ≠ m ∧ i ≠ k ∧ i ≠ m ∧ j ≠ k ∧ j ≠ m) :
    GInv w W G L s0 s1 (.slice (some ⟨S + i, 0, none⟩) L L) (.slice (some ⟨S + j, 0, none⟩) L L) (.slice (some ⟨S + k, 0, none⟩) L L) (.slice (some ⟨S + m, 0, none⟩) L L) := by
  subst hS
  have own : ∀ i, i < 4 → Own .u64 87 W (w1.heap.size + i) (List.replicate L 0) := by
    intro i hi
    unfold Own
    rw [hW, ← hZ]
    simp only [Array.getElem?_push, Array.size_push]
    repeat' split
    all_goals first | rfl | (exfalso; omega)
  have bW : Below w1.heap.size w1 W := ⟨hos.1, hos.2.1, hos.2.2, by rw [hW]; simp; omega, fun q hq => by
    rw [hW]
    simp only [Array.getElem?_push, Array.size_push]
    rw [if_neg (by omega), if_neg (by omega), if_neg (by omega), if_neg (by omega)]⟩
  have hz := b1.size
  exact ⟨x, y, _, _, _, _, _, _, _, _, rfl, rfl, rfl, rfl, rx.below bW, ry.below bW, hd, hle, hg, hL, ⟨rx.apart (by omega), rx.apart (by omega), ry.apart (by omega), ry.apart (by omega)⟩, ⟨own i hi.1, own j hi.2.1, own k hi.2.2.1, own m hi.2.2.2.1⟩,
    ⟨M.Dig.replicate M.BB_pos _, M.Dig.replicate M.BB_pos _, M.Dig.replicate M.BB_pos _, M.Dig.replicate M.BB_pos _⟩, ⟨by simp, by simp, by simp, by simp⟩, ⟨by omega, by omega, by omega, by omega, by omega, by omega⟩, ⟨by omega, by omega, by omega, by omega⟩, b1.then_below bW⟩

theorem run_make_row {P : Program} (w : World) (t e : TypeId) (k : IntKind) (bytes : Nat) (h1 : P.underlying t = some (.slice e)) (h2 : (P.info? e).map (fun i => (i.zero, i.size, i.bytes)) = some (some (.int k 0), 1, bytes)) (n : Nat) (hb : bytes ≤ 8) (hn : n ≤ 35184372088832) :
    (Instr.makeSlice t (.int .i64 (n : Int)) (.int .i64 (n : Int))).run P w = .ok (.slice (some ⟨w.heap.size, 0, none⟩) n n) (w.alloc (.cells ((List.replicate n (0 : Int)).map (Value.int k)).toArray e)) := by
  obtain ⟨i, hi, hz0, hz1, hz2⟩ := info_parts h2
  have hbn : i.bytes * n ≤ 8 * 35184372088832 := Nat.mul_le_mul (by omega) hn
  have hrun := run_make (P := P) w t e i (.int k 0) h1 hi hz0 .i64 .i64 n n (by omega) (Int.le_refl _) (by
    have : ((i.bytes * n : Nat) : Int) ≤ 281474976710656 := by omega
    simpa using this) (by omega)
  have hcells : (madeCells (Value.int k 0).cells ((n : Int).toNat * i.size)) = ((List.replicate n (0 : Int)).map (Value.int k)).toArray := by
    rw [hz1]
    simp [madeCells, Value.cells]
    apply Array.ext
    · simp
    · intro j h1 h2
      simp [Nat.mod_one]
  rw [hcells] at hrun
  simpa only [Int.toNat_natCast] using hrun

theorem gcd_mod (A B : Int) : Int.gcd B (A % B) = Int.gcd A B := by
  refine M.gcd_of_steps (u0 := 0) (u1 := 1) (v0 := 1) (v1 := A / B) (sg := -1) (.inr rfl) (by omega) ?_ (by omega)
  have := Int.mul_ediv_add_emod A B
  rw [Int.mul_comm] at this
  omega

set_option maxRecDepth 100000 in
set_option maxHeartbeats 8000000 in
theorem gcdDigits_ge (w : World) (va vb : Value) (la lb : List Int) (ra : Row .u64 w va la) (rb : Row .u64 w vb lb) (da : M.Dig M.BB la) (db : M.Dig M.BB lb) (ta : M.Trm la) (tb : M.Trm lb) (na : la.length ≤ 17592186044416) (hT : Tab w) (hle : M.val M.BB lb ≤ M.val M.BB la) :
    Calls Tryz.prog 95 #[va, vb] w fun e w' => (∃ v l, e = .returned v ∧ Row .u64 w' v l ∧ M.Dig M.BB l ∧ M.Trm l ∧ M.val M.BB l = (Int.gcd (M.val M.BB la) (M.val M.BB lb) : Int)) ∧ Below w.heap.size w w' := by
  have C := hide (compareDigits_calls w _ _ la lb ra rb da db ta tb)
  have cge : 0 ≤ M.cmp (M.val M.BB la) (M.val M.BB lb) := by
    unfold M.cmp
    rw [if_neg (by omega)]
    split <;> decide
  generalize M.cmp (M.val M.BB la) (M.val M.BB lb) = cm at *
  obtain ⟨aa, ca, hva⟩ := row_len ra
  subst hva
  obtain ⟨L, hL⟩ : ∃ L, la.length = L := ⟨_, rfl⟩
  have HL := hide hL
  rw [hL] at C
  rw [hL] at ra ⊢
  obtain ⟨ZZ, hZ⟩ : ∃ ZZ : Array Value, ZZ = ((List.replicate L (0 : Int)).map (Value.int .u64)).toArray := ⟨_, rfl⟩
  have hmk : ∀ W : World, (Instr.makeSlice 88 (.int .i64 (L : Int)) (.int .i64 (L : Int))).run Tryz.prog W = .ok (.slice (some ⟨W.heap.size, 0, none⟩) L L) (W.alloc (.cells ZZ 87)) := by
    intro W
    rw [hZ]
    exact run_make_row W 88 87 .u64 8 sliceU64 infoU64 L (by decide) (by omega)
  have HZ := hide hZ
  have HLE := hide hle
  clear hZ hL hle
  go_enter Tryz.func95, Tryz.ntmps95
  go_wp2_with (go_at_call 107; refine C.out.mono ?_; rintro e w1 ⟨rfl, nd, hw1⟩; replace hw1 := hide hw1)
  go_region
  all_goals (try go_wp2)
  all_goals go_region
  all_goals (try go_wp2)
  all_goals
    go_loopw [0, 1, 5, 6, 7, 8] (fun s0 s1 s5 s6 s7 s8 wr => GInv w wr (Int.gcd (M.val M.BB la) (M.val M.BB lb)) L s0 s1 s5 s6 s7 s8) (fun _ s1 _ _ _ _ wr => @Classical.epsilon Nat ⟨0⟩ fun n => ∃ l, Row .u64 wr s1 l ∧ (M.val M.BB l).toNat = n)
    case atStart =>
      have e1 : w1 = w.drewN nd := hw1.out
      have b1 : Below w.heap.size w w1 := by rw [e1]; exact ⟨rfl, rfl, rfl, Nat.le_refl _, fun _ _ => rfl⟩
      have H := fun i j k m => GInv.mk4 (S := w1.heap.size) (W := ((((w1.alloc (Obj.cells ZZ 87)).alloc (Obj.cells ZZ 87)).alloc (Obj.cells ZZ 87)).alloc (Obj.cells ZZ 87)).drew.drew) HZ.out rfl rfl ⟨rfl, rfl, rfl⟩ b1 (ra.below b1) (rb.below b1) ⟨da, db, ta, tb⟩ HLE.out rfl (Nat.le_of_eq HL.out) i j k m
      first | exact H 0 1 2 3 (by decide) | exact H 1 0 2 3 (by decide) | exact H 0 1 3 2 (by decide) | exact H 1 0 3 2 (by decide)
    case round =>
      obtain ⟨x, y, r1, r2, g, h, z1, z2, z3, z4, rfl, rfl, rfl, rfl, rx, ry, ⟨dx, dy, tx, ty⟩, le, gc, xL, ⟨ag, ah, bg, bh⟩, ⟨o1, o2, o3, o4⟩, ⟨d1, d2, d3, d4⟩, ⟨l1, l2, l3, l4⟩, ⟨n1, n2, n3, n4, n5, n6⟩, ⟨m1, m2, m3, m4⟩, hg⟩ := hrel
      replace gc := hide gc
      replace le := hide le
      have lxy : y.length ≤ x.length := M.length_of_le M.BB_pos dy dx ty le.out
      have Ln : L ≤ 17592186044416 := by have := HL.out; omega
      have TB := hT.below hg
      obtain ⟨ab, cb, hvb⟩ := row_len ry
      obtain ⟨ax, cx, hvx⟩ := row_len rx
      subst hvb hvx
      replace l1 := hide l1
      replace l2 := hide l2
      replace l3 := hide l3
      replace l4 := hide l4
      clear hmk
      by_cases hbig : 1 < y.length
      · obtain ⟨n, hn⟩ : ∃ n, x.length = n + 2 := ⟨x.length - 2, by omega⟩
        have S := hide (simulate_calls _ _ _ x y n rx ry dx dy tx hn (by omega) (by omega) le.out)
        replace hn := hide hn
        have y0 : 0 < M.val M.BB y := by
          have h1 := ty.val_ge M.BB_pos dy (by rintro rfl; simp at hbig)
          have := M.pow_pos M.BB_pos (y.length - 1)
          omega
        have vx := M.val_lt M.BB_pos dx
        replace vx := hide vx
        go_wp2_with fail
        refine S.out.mono ?_
        clear S
        rintro e w2 ⟨⟨u0, u1, v0, v1, ev, rfl, p1, p2, p3, p4, p5, p6, p7, p8, GD⟩, b2⟩
        replace GD := hide GD
        have b3 := b2.then_below (grown_below (World.grownBy_alloc w2 (.cells #[.int .u64 u0, .int .u64 u1, .int .u64 v0, .int .u64 v1, .bool ev] 158) none))
        by_cases hv : v0 = 0
        · subst hv
          go_wp2_with fail
          refine (divDigits_calls _ _ _ x y (rx.below b3) (ry.below b3) dx dy tx ty (by rintro rfl; simp at hbig) (by omega)).mono ?_
          rintro e w4 ⟨⟨vq, vr, lq, lr, rfl, k1, k2, k3, k4, k5, k6, k7, k8, k9⟩, b4⟩
          have b34 := b3.then_below b4
          have fr := k3 le.out
          replace k8 := hide k8
          replace k9 := hide k9
          have m0 := Int.emod_lt_of_pos (M.val M.BB x) y0
          go_wp2
          go_roundw
          case rel =>
            have sz := o3.lt
            have sz4 := o4.lt
            have bs := b3.size
            refine ⟨y, lr, r1, r2, g, h, z1, z2, z3, z4, rfl, rfl, rfl, rfl, ry.below b34, k2, ⟨dy, k6, ty, k7⟩, by rw [k9.out]; omega, by rw [k9.out, gcd_mod]; exact gc.out, by omega, ⟨bg, bh, fr.apart (by omega), fr.apart (by omega)⟩, ⟨o1.below b34, o2.below b34, o3.below b34, o4.below b34⟩, ⟨d1, d2, d3, d4⟩, ⟨l1.out, l2.out, l3.out, l4.out⟩, ⟨n1, n2, n3, n4, n5, n6⟩, ⟨m1, m2, m3, m4⟩, hg.then_below b34⟩
          case measure =>
            rw [rowVal_eq k2, rowVal_eq ry, k9.out]
            have := Int.emod_nonneg (M.val M.BB x) (Int.ne_of_gt y0)
            omega
        · have G := GD.out hv
          have hv0 : (v0 == 0) = false := by simpa using hv
          have ga := G.ab hv
          have gb := G.ba
          have g0 := G.b0
          have gg := G.gcd
          generalize hA' : (if ev then u0 * M.val M.BB x - v0 * M.val M.BB y else v0 * M.val M.BB y - u0 * M.val M.BB x) = A' at *
          generalize hB' : (if ev then v1 * M.val M.BB y - u1 * M.val M.BB x else u1 * M.val M.BB x - v1 * M.val M.BB y) = B' at *
          have vxl := vx.out
          have lel := le.out
          have AP := hide (apply_calls (w2.alloc (.cells #[.int .u64 u0, .int .u64 u1, .int .u64 v0, .int .u64 v1, .bool ev] 158)).drew u0 u1 v0 v1 ev g h x.length L L z3 z4 _ _ x y (o3.below b3.drew) (o4.below b3.drew) d3 d4 n2 (rx.below b3.drew) (ry.below b3.drew) dx dy (by rw [l3.out]; exact xL) (by rw [l4.out]; exact xL) (by rw [l3.out]; omega) (by rw [l4.out]; omega) ag ah bg bh (Nat.le_refl _) lxy
            ⟨p1, by rw [M.BB_eq]; omega⟩ ⟨p3, by rw [M.BB_eq]; omega⟩ ⟨p5, by rw [M.BB_eq]; omega⟩ ⟨p7, by rw [M.BB_eq]; omega⟩ A' B' hA'.symm hB'.symm ⟨by omega, by omega⟩ ⟨g0, by omega⟩)
          replace gg := hide gg
          clear GD G vxl hA' hB'
          go_wp2_with fail
          go_region
          all_goals (go_wp2_with fail)
          refine AP.out.mono ?_
          rintro e w5 ⟨rfl, q1, q2, s1, s2, s3, s4, s5, s6, s7, s8, s9⟩
          have ra1 := s1.row 0 x.length L (by rw [s5, l3.out]; omega) (by omega) (by omega)
          have rb1 := s2.row 0 x.length L (by rw [s6, l4.out]; omega) (by omega) (by omega)
          rw [List.drop_zero] at ra1 rb1
          have tA := M.trimmed_val (B := M.BB) (q1.take x.length)
          have tB := M.trimmed_val (B := M.BB) (q2.take x.length)
          rw [s7] at tA
          rw [s8] at tB
          have tl := M.trimmed_le (q1.take x.length)
          rw [List.length_take] at tl
          replace s5 := hide s5
          replace s6 := hide s6
          replace tA := hide tA
          replace tB := hide tB
          replace tl := hide tl
          clear s7 s8 AP
          go_wp2_with fail
          refine (trim_calls _ _ _ ra1).mono ?_
          rintro e w6 ⟨⟨t1, rfl, rt1, ft1⟩, hw6⟩
          rw [hw6]
          clear hw6 w6
          go_wp2_with fail
          refine (trim_calls _ _ _ rb1).mono ?_
          rintro e w6 ⟨⟨t2, rfl, rt2, ft2⟩, hw6⟩
          rw [hw6]
          clear hw6 w6
          go_wp2
          go_roundw
          case rel =>
            have bd := b3.drew
            have apart : ∀ {t : Value} {l : List Int} {g q N C : Nat}, (∀ a n c, t = .slice (some a) n c → ∃ m, Value.slice (some ⟨g, 0, none⟩) N C = .slice (some a) m c) → g ≠ q → Apart t l q := by
              intro t l g q N C ft hne _ a n c e
              obtain ⟨m, e'⟩ := ft a n c e
              simp at e'
              rw [← e'.1]
              exact hne
            refine ⟨M.trimmed (q1.take x.length), M.trimmed (q2.take x.length), g, h, r1, r2, q1, q2, z1, z2, rfl, rfl, rfl, rfl, rt1, rt2, ⟨M.trimmed_dig (s3.take _), M.trimmed_dig (s4.take _), M.trimmed_trm _, M.trimmed_trm _⟩, by rw [tA.out, tB.out]; omega, by rw [tA.out, tB.out]; exact gg.out.trans gc.out, by have := tl.out; omega,
              ⟨apart ft1 n3.symm, apart ft1 n5.symm, apart ft2 n4.symm, apart ft2 n6.symm⟩, ⟨s1, s2, s9.own (o1.below bd) n3 n4, s9.own (o2.below bd) n5 n6⟩, ⟨s3, s4, d1, d2⟩, ⟨by rw [s5.out]; exact l3.out, by rw [s6.out]; exact l4.out, l1.out, l2.out⟩, ⟨n2, n1, n3.symm, n5.symm, n4.symm, n6.symm⟩, ⟨m3, m4, m1, m2⟩, s9.below (hg.then_below bd) m3 m4⟩
          case measure =>
            rw [rowVal_eq rt2, rowVal_eq ry, tB.out]
            omega
      · have GW := hide (gcdWithWord_calls _ _ _ x y rx ry dx dy tx ty (by omega) (by omega) TB)
        go_wp2_with fail
        refine GW.out.mono ?_
        rintro e w2 ⟨⟨v, l, rfl, q1, q2, q3, q4⟩, b2⟩
        rw [gc.out] at q4
        replace q4 := hide q4
        go_wp2
        go_ret
        exact ⟨⟨v, l, rfl, q1, q2, q3, q4.out⟩, hg.then_below b2⟩
end Go.Proofs.YtlepicdpelkmlaaGreatDoor
