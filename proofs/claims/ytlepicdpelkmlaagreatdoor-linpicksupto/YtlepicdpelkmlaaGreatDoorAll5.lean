/- Laid together of: GcdSwap, Nat1, Nat2, Nat3, NatMul, NatCmp, NatGcd, NatDiv. -/
import Derived.Test.YtlepicdpelkmlaaGreatDoorAll4
import Derived.Deep.RegionHeld3
import Derived.Deep.DeepMust
/- ==== GcdSwap ==== -/
namespace Go.Proofs.YtlepicdpelkmlaaGreatDoor
open Go.RowKit
set_option linter.unusedVariables false

set_option maxRecDepth 100000 in
set_option maxHeartbeats 8000000 in
theorem gcdDigits_lt (w : World) (va vb : Value) (la lb : List Int) (ra : Row .u64 w va la) (rb : Row .u64 w vb lb) (da : M.Dig M.BB la) (db : M.Dig M.BB lb) (ta : M.Trm la) (tb : M.Trm lb) (na : la.length ≤ 17592186044416) (hT : Tab w) (hlt : M.val M.BB lb < M.val M.BB la) :
    Calls Tryz.prog 95 #[vb, va] w fun e w' => (∃ v l, e = .returned v ∧ Row .u64 w' v l ∧ M.Dig M.BB l ∧ M.Trm l ∧ M.val M.BB l = (Int.gcd (M.val M.BB la) (M.val M.BB lb) : Int)) ∧ Below w.heap.size w w' := by
  have C := compareDigits_calls w _ _ lb la rb ra db da tb ta
  rw [M.cmp_lt hlt] at C
  replace C := hide C
  have hle : M.val M.BB lb ≤ M.val M.BB la := by omega
  clear hlt
  obtain ⟨aa, ca, hva⟩ := row_len ra
  subst hva
  obtain ⟨L, hL⟩ : ∃ L, la.length = L := ⟨_, rfl⟩
  have HL := hide hL
  rw [hL] at C
  rw [hL] at ra ⊢
  obtain ⟨ZZ, hZ⟩ : ∃ ZZ : Array Value, ZZ = ((List.replicate L (0 : Int)).map (Value.int .u64)).toArray := ⟨_, rfl⟩
  have hmk : ∀ W : World, (Instr.makeSlice 88 (.int .i64 (L : Int)) (.int .i64 (L : Int))).run Tryz.prog W = .ok (.slice (some ⟨W.heap.size, 0, none⟩) L L) (W.alloc (.cells ZZ 87)) := by
    intro W
    rw [hZ]
    exact run_make_row W 88 87 .u64 8 sliceU64 infoU64 L (by decide) (by omega)
  have HZ := hide hZ
  have HLE := hide hle
  clear hZ hL hle
  go_enter Tryz.func95, Tryz.ntmps95
  go_wp2_with (go_at_call 107; refine C.out.mono ?_; rintro e w1 ⟨rfl, nd, hw1⟩; replace hw1 := hide hw1)
  go_region
  all_goals (try go_wp2)
  all_goals go_region
  all_goals (try go_wp2)
  all_goals
    go_loopw [0, 1, 5, 6, 7, 8] (fun s0 s1 s5 s6 s7 s8 wr => GInv w wr (Int.gcd (M.val M.BB la) (M.val M.BB lb)) L s0 s1 s5 s6 s7 s8) (fun _ s1 _ _ _ _ wr => @Classical.epsilon Nat ⟨0⟩ fun n => ∃ l, Row .u64 wr s1 l ∧ (M.val M.BB l).toNat = n)
    case atStart =>
      have e1 : w1 = w.drewN nd := hw1.out
      have b1 : Below w.heap.size w w1 := by rw [e1]; exact ⟨rfl, rfl, rfl, Nat.le_refl _, fun _ _ => rfl⟩
      have H := fun i j k m => GInv.mk4 (S := w1.heap.size) (W := ((((w1.alloc (Obj.cells ZZ 87)).alloc (Obj.cells ZZ 87)).alloc (Obj.cells ZZ 87)).alloc (Obj.cells ZZ 87)).drew.drew) HZ.out rfl rfl ⟨rfl, rfl, rfl⟩ b1 (ra.below b1) (rb.below b1) ⟨da, db, ta, tb⟩ HLE.out rfl (Nat.le_of_eq HL.out) i j k m
      first | exact H 0 1 2 3 (by decide) | exact H 1 0 2 3 (by decide) | exact H 0 1 3 2 (by decide) | exact H 1 0 3 2 (by decide)
    case round =>
      obtain ⟨x, y, r1, r2, g, h, z1, z2, z3, z4, rfl, rfl, rfl, rfl, rx, ry, ⟨dx, dy, tx, ty⟩, le, gc, xL, ⟨ag, ah, bg, bh⟩, ⟨o1, o2, o3, o4⟩, ⟨d1, d2, d3, d4⟩, ⟨l1, l2, l3, l4⟩, ⟨n1, n2, n3, n4, n5, n6⟩, ⟨m1, m2, m3, m4⟩, hg⟩ := hrel
      replace gc := hide gc
      replace le := hide le
      have lxy : y.length ≤ x.length := M.length_of_le M.BB_pos dy dx ty le.out
      have Ln : L ≤ 17592186044416 := by have := HL.out; omega
      have TB := hT.below hg
      obtain ⟨ab, cb, hvb⟩ := row_len ry
      obtain ⟨ax, cx, hvx⟩ := row_len rx
      subst hvb hvx
      replace l1 := hide l1
      replace l2 := hide l2
      replace l3 := hide l3
      replace l4 := hide l4
      clear hmk
      by_cases hbig : 1 < y.length
      · obtain ⟨n, hn⟩ : ∃ n, x.length = n + 2 := ⟨x.length - 2, by omega⟩
        have S := hide (simulate_calls _ _ _ x y n rx ry dx dy tx hn (by omega) (by omega) le.out)
        replace hn := hide hn
        have y0 : 0 < M.val M.BB y := by
          have h1 := ty.val_ge M.BB_pos dy (by rintro rfl; simp at hbig)
          have := M.pow_pos M.BB_pos (y.length - 1)
          omega
        have vx := M.val_lt M.BB_pos dx
        replace vx := hide vx
        go_wp2_with fail
        refine S.out.mono ?_
        clear S
        rintro e w2 ⟨⟨u0, u1, v0, v1, ev, rfl, p1, p2, p3, p4, p5, p6, p7, p8, GD⟩, b2⟩
        replace GD := hide GD
        have b3 := b2.then_below (grown_below (World.grownBy_alloc w2 (.cells #[.int .u64 u0, .int .u64 u1, .int .u64 v0, .int .u64 v1, .bool ev] 158) none))
        by_cases hv : v0 = 0
        · subst hv
          go_wp2_with fail
          refine (divDigits_calls _ _ _ x y (rx.below b3) (ry.below b3) dx dy tx ty (by rintro rfl; simp at hbig) (by omega)).mono ?_
          rintro e w4 ⟨⟨vq, vr, lq, lr, rfl, k1, k2, k3, k4, k5, k6, k7, k8, k9⟩, b4⟩
          have b34 := b3.then_below b4
          have fr := k3 le.out
          replace k8 := hide k8
          replace k9 := hide k9
          have m0 := Int.emod_lt_of_pos (M.val M.BB x) y0
          go_wp2
          go_roundw
          case rel =>
            have sz := o3.lt
            have sz4 := o4.lt
            have bs := b3.size
            refine ⟨y, lr, r1, r2, g, h, z1, z2, z3, z4, rfl, rfl, rfl, rfl, ry.below b34, k2, ⟨dy, k6, ty, k7⟩, by rw [k9.out]; omega, by rw [k9.out, gcd_mod]; exact gc.out, by omega, ⟨bg, bh, fr.apart (by omega), fr.apart (by omega)⟩, ⟨o1.below b34, o2.below b34, o3.below b34, o4.below b34⟩, ⟨d1, d2, d3, d4⟩, ⟨l1.out, l2.out, l3.out, l4.out⟩, ⟨n1, n2, n3, n4, n5, n6⟩, ⟨m1, m2, m3, m4⟩, hg.then_below b34⟩
          case measure =>
            rw [rowVal_eq k2, rowVal_eq ry, k9.out]
            have := Int.emod_nonneg (M.val M.BB x) (Int.ne_of_gt y0)
            omega
        · have G := GD.out hv
          have hv0 : (v0 == 0) = false := by simpa using hv
          have ga := G.ab hv
          have gb := G.ba
          have g0 := G.b0
          have gg := G.gcd
          generalize hA' : (if ev then u0 * M.val M.BB x - v0 * M.val M.BB y else v0 * M.val M.BB y - u0 * M.val M.BB x) = A' at *
          generalize hB' : (if ev then v1 * M.val M.BB y - u1 * M.val M.BB x else u1 * M.val M.BB x - v1 * M.val M.BB y) = B' at *
          have vxl := vx.out
          have lel := le.out
          have AP := hide (apply_calls (w2.alloc (.cells #[.int .u64 u0, .int .u64 u1, .int .u64 v0, .int .u64 v1, .bool ev] 158)).drew u0 u1 v0 v1 ev g h x.length L L z3 z4 _ _ x y (o3.below b3.drew) (o4.below b3.drew) d3 d4 n2 (rx.below b3.drew) (ry.below b3.drew) dx dy (by rw [l3.out]; exact xL) (by rw [l4.out]; exact xL) (by rw [l3.out]; omega) (by rw [l4.out]; omega) ag ah bg bh (Nat.le_refl _) lxy
            ⟨p1, by rw [M.BB_eq]; omega⟩ ⟨p3, by rw [M.BB_eq]; omega⟩ ⟨p5, by rw [M.BB_eq]; omega⟩ ⟨p7, by rw [M.BB_eq]; omega⟩ A' B' hA'.symm hB'.symm ⟨by omega, by omega⟩ ⟨g0, by omega⟩)
          replace gg := hide gg
          clear GD G vxl hA' hB'
          go_wp2_with fail
          go_region
          all_goals (go_wp2_with fail)
          refine AP.out.mono ?_
          rintro e w5 ⟨rfl, q1, q2, s1, s2, s3, s4, s5, s6, s7, s8, s9⟩
          have ra1 := s1.row 0 x.length L (by rw [s5, l3.out]; omega) (by omega) (by omega)
          have rb1 := s2.row 0 x.length L (by rw [s6, l4.out]; omega) (by omega) (by omega)
          rw [List.drop_zero] at ra1 rb1
          have tA := M.trimmed_val (B := M.BB) (q1.take x.length)
          have tB := M.trimmed_val (B := M.BB) (q2.take x.length)
          rw [s7] at tA
          rw [s8] at tB
          have tl := M.trimmed_le (q1.take x.length)
          rw [List.length_take] at tl
          replace s5 := hide s5
          replace s6 := hide s6
          replace tA := hide tA
          replace tB := hide tB
          replace tl := hide tl
          clear s7 s8 AP
          go_wp2_with fail
          refine (trim_calls _ _ _ ra1).mono ?_
          rintro e w6 ⟨⟨t1, rfl, rt1, ft1⟩, hw6⟩
          rw [hw6]
          clear hw6 w6
          go_wp2_with fail
          refine (trim_calls _ _ _ rb1).mono ?_
          rintro e w6 ⟨⟨t2, rfl, rt2, ft2⟩, hw6⟩
          rw [hw6]
          clear hw6 w6
          go_wp2
          go_roundw
          case rel =>
            have bd := b3.drew
            have apart : ∀ {t : Value} {l : List Int} {g q N C : Nat}, (∀ a n c, t = .slice (some a) n c → ∃ m, Value.slice (some ⟨g, 0, none⟩) N C = .slice (some a) m c) → g ≠ q → Apart t l q := by
              intro t l g q N C ft hne _ a n c e
              obtain ⟨m, e'⟩ := ft a n c e
              simp at e'
              rw [← e'.1]
              exact hne
            refine ⟨M.trimmed (q1.take x.length), M.trimmed (q2.take x.length), g, h, r1, r2, q1, q2, z1, z2, rfl, rfl, rfl, rfl, rt1, rt2, ⟨M.trimmed_dig (s3.take _), M.trimmed_dig (s4.take _), M.trimmed_trm _, M.trimmed_trm _⟩, by rw [tA.out, tB.out]; omega, by rw [tA.out, tB.out]; exact gg.out.trans gc.out, by have := tl.out; omega,
              ⟨apart ft1 n3.symm, apart ft1 n5.symm, apart ft2 n4.symm, apart ft2 n6.symm⟩, ⟨s1, s2, s9.own (o1.below bd) n3 n4, s9.own (o2.below bd) n5 n6⟩, ⟨s3, s4, d1, d2⟩, ⟨by rw [s5.out]; exact l3.out, by rw [s6.out]; exact l4.out, l1.out, l2.out⟩, ⟨n2, n1, n3.symm, n5.symm, n4.symm, n6.symm⟩, ⟨m3, m4, m1, m2⟩, s9.below (hg.then_below bd) m3 m4⟩
          case measure =>
            rw [rowVal_eq rt2, rowVal_eq ry, tB.out]
            omega
      · have GW := hide (gcdWithWord_calls _ _ _ x y rx ry dx dy tx ty (by omega) (by omega) TB)
        go_wp2_with fail
        refine GW.out.mono ?_
        rintro e w2 ⟨⟨v, l, rfl, q1, q2, q3, q4⟩, b2⟩
        rw [gc.out] at q4
        replace q4 := hide q4
        go_wp2
        go_ret
        exact ⟨⟨v, l, rfl, q1, q2, q3, q4.out⟩, hg.then_below b2⟩

/-- gcdDigits: the greatest common divisor, whatever the order. -/
theorem gcdDigits_calls (w : World) (va vb : Value) (la lb : List Int) (ra : Row .u64 w va la) (rb : Row .u64 w vb lb) (da : M.Dig M.BB la) (db : M.Dig M.BB lb) (ta : M.Trm la) (tb : M.Trm lb) (na : la.length ≤ 17592186044416) (nb : lb.length ≤ 17592186044416) (hT : Tab w) :
    Calls Tryz.prog 95 #[va, vb] w fun e w' => (∃ v l, e = .returned v ∧ Row .u64 w' v l ∧ M.Dig M.BB l ∧ M.Trm l ∧ M.val M.BB l = (Int.gcd (M.val M.BB la) (M.val M.BB lb) : Int)) ∧ Below w.heap.size w w' := by
  by_cases h : M.val M.BB lb ≤ M.val M.BB la
  · exact gcdDigits_ge w va vb la lb ra rb da db ta tb na hT h
  · refine (gcdDigits_lt w vb va lb la rb ra db da tb ta nb hT (by omega)).mono ?_
    rintro e w' ⟨⟨v, l, h1, h2, h3, h4, h5⟩, h6⟩
    exact ⟨⟨v, l, h1, h2, h3, h4, by rw [h5, Int.gcd_comm]⟩, h6⟩
end Go.Proofs.YtlepicdpelkmlaaGreatDoor
/- ==== Nat1 ==== -/
namespace Go.Proofs.YtlepicdpelkmlaaGreatDoor
open Go.RowKit
set_option linter.unusedVariables false

/-- The value v is the number n: a word alone, or a list of two digits or more. -/
def Den (w : World) (v : Value) (n : Nat) : Prop :=
  (v = .agg #[.int .u64 n, .slice none 0 0] ∧ n < 18446744073709551616) ∨
  (∃ b o c l, v = .agg #[.int .u64 0, .slice (some ⟨b, o, none⟩) l.length c] ∧ Row .u64 w (.slice (some ⟨b, o, none⟩) l.length c) l ∧ M.Dig M.BB l ∧ M.Trm l ∧ 2 ≤ l.length ∧ M.val M.BB l = n)
theorem Den.below {w w' : World} {v : Value} {n : Nat} (h : Den w v n) (b : Below w.heap.size w w') : Den w' v n := by
  rcases h with h | ⟨b', o, c, l, h1, h2, h3⟩
  · exact .inl h
  · exact .inr ⟨b', o, c, l, h1, h2.below b, h3⟩
theorem digits_of_word (n : Nat) (h : n < 18446744073709551616) : M.Dig M.BB [(n : Int)] := M.Dig.cons (by omega) (by rw [M.BB_eq]; omega) M.Dig.nil

theorem Den.big {w : World} {b o c : Nat} {l : List Int} {n : Nat} (hd : M.Dig M.BB l) (ht : M.Trm l) (hl : 2 ≤ l.length) (hv : M.val M.BB l = n) : 18446744073709551616 ≤ n := by
  have h1 := ht.val_ge M.BB_pos hd (by rintro rfl; simp at hl)
  have h2 := M.pow_le M.BB_pos (show 1 ≤ l.length - 1 by omega)
  rw [Int.pow_one] at h2
  have := M.BB_eq
  omega
theorem alloc_below (w : World) (o : Obj) : Below w.heap.size w (w.alloc o) := grown_below (World.grownBy_alloc _ _ none)
theorem alloc2_below (w : World) (o o' : Obj) : Below w.heap.size w ((w.alloc o).alloc o') := (alloc_below w o).then_below (alloc_below _ o')

set_option maxRecDepth 100000 in
set_option maxHeartbeats 400000 in
theorem digits_calls (w : World) (v : Value) (n : Nat) (h : Den w v n) : Calls Tryz.prog 96 #[v] w fun e w' => (∃ u l, e = .returned u ∧ Row .u64 w' u l ∧ M.Dig M.BB l ∧ M.Trm l ∧ M.val M.BB l = n) ∧ Below w.heap.size w w' := by
  rcases h with ⟨rfl, hn⟩ | ⟨b, o, c, l, rfl, hr, hd, ht, hl, hv⟩
  · have D := digits_of_word n hn
    have o3 : Own .u64 87 ((w.alloc (.cells #[.int .u64 n, .slice none 0 0] 90)).alloc (.cells #[.int .u64 n] 87)) (w.heap.size + 1) [(n : Int)] := by
      show ((w.heap.push _).push _)[w.heap.size + 1]? = _
      rw [Array.getElem?_push, if_pos (by simp)]
      rfl
    have T := hide (trim_calls _ _ [(n : Int)] (o3.all 1 (by simp) (by decide)))
    go_enter Tryz.func96, Tryz.ntmps96
    go_wp2_with fail
    refine T.out.mono ?_
    rintro e w' ⟨⟨u, rfl, ru, fu⟩, hw'⟩
    rw [hw']
    clear hw' w'
    go_wp2
    go_ret
    exact ⟨⟨u, _, rfl, ru, M.trimmed_dig D, M.trimmed_trm _, by rw [M.trimmed_val, one_val]⟩, alloc2_below _ _ _⟩
  · have HV := hide hv
    clear hv
    go_enter Tryz.func96, Tryz.ntmps96
    go_wp2_with fail
    go_ret
    exact ⟨⟨_, l, rfl, hr.below (alloc_below _ _), hd, ht, HV.out⟩, alloc_below _ _⟩

theorem nil_eq (w : World) (a : Option Addr) (n c n' c' : Nat) : (binOp .eql 88 (.slice a n c) (.slice none n' c')).run Tryz.prog w = .ok (.bool a.isNone) w := Lib.run_eql_slice_nil w _ _ a n c n' c' sliceU64

set_option maxRecDepth 100000 in
set_option maxHeartbeats 400000 in
theorem short_yes (w : World) (x y : Int) : Calls Tryz.prog 92 #[.agg #[.int .u64 x, .slice none 0 0], .agg #[.int .u64 y, .slice none 0 0]] w fun e w' => e = .returned (.bool true) ∧ Below w.heap.size w w' := by
  have q1 := nil_eq
  go_enter Tryz.func92, Tryz.ntmps92
  go_wp2
  go_ret
  exact ⟨rfl, alloc2_below _ _ _⟩
set_option maxRecDepth 100000 in
set_option maxHeartbeats 400000 in
theorem short_no1 (w : World) (x : Int) (b o c k : Nat) (v : Value) (n : Nat) (h : Den w v n) : Calls Tryz.prog 92 #[.agg #[.int .u64 x, .slice (some ⟨b, o, none⟩) k c], v] w fun e w' => e = .returned (.bool false) ∧ Below w.heap.size w w' := by
  rcases h with ⟨rfl, hn⟩ | ⟨b', o', c', l', rfl, _⟩
  all_goals
    have q1 := nil_eq
    go_enter Tryz.func92, Tryz.ntmps92
    go_wp2
    go_ret
    exact ⟨rfl, alloc2_below _ _ _⟩
set_option maxRecDepth 100000 in
set_option maxHeartbeats 400000 in
theorem short_no2 (w : World) (x y : Int) (b o c k : Nat) : Calls Tryz.prog 92 #[.agg #[.int .u64 x, .slice none 0 0], .agg #[.int .u64 y, .slice (some ⟨b, o, none⟩) k c]] w fun e w' => e = .returned (.bool false) ∧ Below w.heap.size w w' := by
  have q1 := nil_eq
  go_enter Tryz.func92, Tryz.ntmps92
  go_wp2
  go_ret
  exact ⟨rfl, alloc2_below _ _ _⟩
/-- short: where one of the two is no word. -/
theorem short_no (w : World) (u v : Value) (n m : Nat) (h : Den w u n) (h' : Den w v m) (hb : 18446744073709551616 ≤ n ∨ 18446744073709551616 ≤ m) : Calls Tryz.prog 92 #[u, v] w fun e w' => e = .returned (.bool false) ∧ Below w.heap.size w w' := by
  rcases h with ⟨rfl, hn⟩ | ⟨b, o, c, l, rfl, _⟩
  · rcases h' with ⟨rfl, hm⟩ | ⟨b, o, c, l, rfl, _⟩
    · omega
    · exact short_no2 w _ _ b o c _
  · exact short_no1 w _ b o c _ v m h'
theorem Den.word {w : World} {v : Value} {n : Nat} (h : Den w v n) (hn : n < 18446744073709551616) : v = .agg #[.int .u64 n, .slice none 0 0] := by
  rcases h with ⟨rfl, _⟩ | ⟨b, o, c, l, rfl, hr, hd, ht, hl, hv⟩
  · rfl
  · have := Den.big (w := w) (b := b) (o := o) (c := c) hd ht hl hv
    omega
theorem den_word (w : World) (n : Nat) (h : n < 18446744073709551616) : Den w (.agg #[.int .u64 n, .slice none 0 0]) n := .inl ⟨rfl, h⟩
/-- The length of a number's list. -/
theorem len_of {l : List Int} {n K : Nat} (hd : M.Dig M.BB l) (ht : M.Trm l) (hv : M.val M.BB l = n) (h : (n : Int) < M.BB ^ K) : l.length ≤ K := M.length_le_of_lt M.BB_pos hd ht (by rw [hv]; exact h)

set_option maxRecDepth 100000 in
set_option maxHeartbeats 400000 in
theorem word_calls (w : World) (n : Nat) (h : n < 18446744073709551616) : Calls Tryz.prog 81 #[.int .u64 n] w fun e w' => e = .returned (.agg #[.int .u64 n, .slice none 0 0]) ∧ Below w.heap.size w w' := by
  go_enter Tryz.func81, Tryz.ntmps81
  go_wp2
  refine bodyPost_ret (v := .agg #[.int .u64 n, .slice none 0 0]) (by simp [results, Tryz.results81, go_sem]) rfl ?_
  exact ⟨rfl, alloc_below _ _⟩

set_option maxRecDepth 100000 in
set_option maxHeartbeats 800000 in
theorem natOf_calls (w : World) (u : Value) (l : List Int) (r : Row .u64 w u l) (hd : M.Dig M.BB l) (ht : M.Trm l) (n : Nat) (hv : M.val M.BB l = n) : Calls Tryz.prog 94 #[u] w fun e w' => (∃ v, e = .returned v ∧ Den w' v n ∧ ∀ x a k c, v = .agg #[x, .slice (some a) k c] → ∃ k' c', u = .slice (some a) k' c' ∧ l ≠ []) ∧ Below w.heap.size w w' := by
  match l, r, hd, ht, hv with
  | [], r, hd, ht, hv =>
    obtain ⟨aa, ca, rfl⟩ := row_len r
    have hn : n = 0 := by simp [M.val] at hv; omega
    subst hn
    clear hv
    go_enter Tryz.func94, Tryz.ntmps94
    go_wp2
    refine bodyPost_ret (v := .agg #[.int .u64 0, .slice none 0 0]) (by simp [results, Tryz.results94, go_sem]) rfl ?_
    exact ⟨⟨_, rfl, .inl ⟨rfl, by decide⟩, fun x a k c e => by simp at e⟩, alloc_below _ _⟩
  | [x], r, hd, ht, hv =>
    obtain ⟨bb, ob, cb, rfl⟩ := row_at r (by simp)
    have hx := hd x (by simp)
    have hk : w.cell? ⟨bb, ob, none⟩ = some (.int .u64 x) := by
      obtain ⟨_, _, e, _, _, _, c4⟩ := r
      simp at e
      obtain ⟨rfl, rfl⟩ := e
      obtain ⟨b', o', e, hc⟩ := c4 (by simp)
      simp at e
      obtain ⟨rfl, rfl⟩ := e
      exact hc 0 (by simp)
    rw [one_val] at hv
    subst hv
    have hn : n < 18446744073709551616 := by have := hx.2; rw [M.BB_eq] at this; omega
    have hlt := World.block_lt_of_cell? w _ hk
    have hk2 : (w.alloc (.cells #[.int .u64 0, .slice none 0 0] 90)).cell? ⟨bb, ob, none⟩ = some (.int .u64 n) := ((alloc_below w _).cell (p := ⟨bb, ob, none⟩) hlt).trans hk
    go_enter Tryz.func94, Tryz.ntmps94
    go_wp2
    refine bodyPost_ret (v := .agg #[.int .u64 n, .slice none 0 0]) (by simp [results, Tryz.results94, go_sem]) rfl ?_
    exact ⟨⟨_, rfl, .inl ⟨rfl, hn⟩, fun x a k c e => by simp at e⟩, alloc_below _ _⟩
  | x :: y :: l, r, hd, ht, hv =>
    obtain ⟨bb, ob, cb, rfl⟩ := row_at r (by simp)
    obtain ⟨L, hL⟩ : ∃ L, L = x :: y :: l := ⟨_, rfl⟩
    rw [← hL] at r hd ht hv ⊢
    have h2 : 2 ≤ L.length := by rw [hL]; simp
    have HV := hide hv
    clear hv hL
    go_enter Tryz.func94, Tryz.ntmps94
    go_wp2
    refine bodyPost_ret (v := .agg #[.int .u64 0, .slice (some ⟨bb, ob, none⟩) L.length cb]) (by simp [results, Tryz.results94, go_sem]) rfl ?_
    exact ⟨⟨_, rfl, .inr ⟨bb, ob, cb, L, rfl, r.below (alloc_below _ _), hd, ht, h2, HV.out⟩, fun x a k c e => by
      simp at e
      rw [← e.2.1]
      exact ⟨_, _, rfl, by rintro rfl; simp at h2⟩⟩, alloc_below _ _⟩

/-- A number stays, where its memory is not written. -/
theorem Den.kept {w w' : World} {v : Value} {n g : Nat} (h : Den w v n) (q : w.grownBy w' (some g)) (hg : ∀ x a k c, v = .agg #[x, .slice (some a) k c] → a.block ≠ g) : Den w' v n := by
  rcases h with h | ⟨b, o, c, l, rfl, h2, h3⟩
  · exact .inl h
  · exact .inr ⟨b, o, c, l, rfl, h2.kept q (by rintro r ⟨⟩ _ a k c' e; simp at e; rw [← e.1]; exact hg _ _ _ _ rfl), h3⟩
end Go.Proofs.YtlepicdpelkmlaaGreatDoor
/- ==== Nat2 ==== -/
namespace Go.Proofs.YtlepicdpelkmlaaGreatDoor
open Go.RowKit
set_option linter.unusedVariables false

/-- The two boxes of a call's arguments. -/
def Boxes (H : Nat) (a1 a2 b1 b2 : Value) (w : World) : Prop :=
  w.cell? ⟨H, 0, none⟩ = some a1 ∧ w.cell? ⟨H, 1, none⟩ = some a2 ∧ w.cell? ⟨H + 1, 0, none⟩ = some b1 ∧ w.cell? ⟨H + 1, 1, none⟩ = some b2
theorem Boxes.below {H : Nat} {a1 a2 b1 b2 : Value} {w w' : World} (h : Boxes H a1 a2 b1 b2 w) (b : Below w.heap.size w w') : Boxes H a1 a2 b1 b2 w' := by
  obtain ⟨h1, h2, h3, h4⟩ := h
  exact ⟨(b.cell (World.block_lt_of_cell? w _ h1)).trans h1, (b.cell (World.block_lt_of_cell? w _ h2)).trans h2, (b.cell (World.block_lt_of_cell? w _ h3)).trans h3, (b.cell (World.block_lt_of_cell? w _ h4)).trans h4⟩
theorem Den.shape {w : World} {v : Value} {n : Nat} (h : Den w v n) : ∃ x s, v = .agg #[x, s] := by
  rcases h with ⟨rfl, _⟩ | ⟨b, o, c, l, rfl, _⟩
  · exact ⟨_, _, rfl⟩
  · exact ⟨_, _, rfl⟩

/-- The boxes hold what they held, in every later world. -/
theorem boxes_keep {w W W2 : World} {H : Nat} {a1 a2 b1 b2 : Value} (h : W.cell? ⟨H, 0, none⟩ = some a1 ∧ W.cell? ⟨H, 1, none⟩ = some a2 ∧ W.cell? ⟨H + 1, 0, none⟩ = some b1 ∧ W.cell? ⟨H + 1, 1, none⟩ = some b2 ∧ Below w.heap.size w W) (b : Below W.heap.size W W2) :
    W2.cell? ⟨H, 0, none⟩ = some a1 ∧ W2.cell? ⟨H, 1, none⟩ = some a2 ∧ W2.cell? ⟨H + 1, 0, none⟩ = some b1 ∧ W2.cell? ⟨H + 1, 1, none⟩ = some b2 ∧ Below w.heap.size w W2 := by
  obtain ⟨h1, h2, h3, h4, h5⟩ := h
  exact ⟨(b.cell (World.block_lt_of_cell? W _ h1)).trans h1, (b.cell (World.block_lt_of_cell? W _ h2)).trans h2, (b.cell (World.block_lt_of_cell? W _ h3)).trans h3, (b.cell (World.block_lt_of_cell? W _ h4)).trans h4, h5.then_below b⟩
theorem resBlock {w1 wd : World} {g : Nat} {x y : Value} {t : TypeId} (h : w1.heap[g]? = some (.cells #[x, y] t (0, 0))) (b : Below w1.heap.size w1 wd) : wd.cell? ⟨g, 0, none⟩ = some x ∧ wd.cell? ⟨g, 1, none⟩ = some y ∧ wd.frozen? ⟨g, 0, none⟩ = false ∧ wd.frozen? ⟨g, 1, none⟩ = false := by
  have h' : wd.heap[g]? = some (.cells #[x, y] t (0, 0)) := by rw [b.block g (Array.getElem?_eq_some_iff.1 h).1]; exact h
  exact ⟨by rw [cell_of_row wd g 0 _ _ (0, 0) h']; rfl, by rw [cell_of_row wd g 1 _ _ (0, 0) h']; rfl, by simp [World.frozen?, h'], by simp [World.frozen?, h']⟩
theorem boxes_set {w W : World} {H : Nat} {a1 a2 b1 b2 x y : Value} (h : W.cell? ⟨H, 0, none⟩ = some a1 ∧ W.cell? ⟨H, 1, none⟩ = some a2 ∧ W.cell? ⟨H + 1, 0, none⟩ = some b1 ∧ W.cell? ⟨H + 1, 1, none⟩ = some b2 ∧ Below w.heap.size w W) (hH : w.heap.size ≤ H) :
    ((W.setCell ⟨H + 1 + 1, 0, none⟩ x).setCell ⟨H + 1 + 1, 1, none⟩ y).cell? ⟨H, 0, none⟩ = some a1 ∧ ((W.setCell ⟨H + 1 + 1, 0, none⟩ x).setCell ⟨H + 1 + 1, 1, none⟩ y).cell? ⟨H, 1, none⟩ = some a2 ∧ ((W.setCell ⟨H + 1 + 1, 0, none⟩ x).setCell ⟨H + 1 + 1, 1, none⟩ y).cell? ⟨H + 1, 0, none⟩ = some b1 ∧ ((W.setCell ⟨H + 1 + 1, 0, none⟩ x).setCell ⟨H + 1 + 1, 1, none⟩ y).cell? ⟨H + 1, 1, none⟩ = some b2 ∧ Below w.heap.size w ((W.setCell ⟨H + 1 + 1, 0, none⟩ x).setCell ⟨H + 1 + 1, 1, none⟩ y) := by
  obtain ⟨h1, h2, h3, h4, h5⟩ := h
  have q : W.grownBy ((W.setCell ⟨H + 1 + 1, 0, none⟩ x).setCell ⟨H + 1 + 1, 1, none⟩ y) (some (H + 1 + 1)) := grown_trans (grown_set _ _ _ _) (grown_set _ _ _ _)
  exact ⟨q.cell h1 (by simp; omega), q.cell h2 (by simp; omega), q.cell h3 (by simp), q.cell h4 (by simp), h5.then_grown q (by rintro g ⟨⟩; omega)⟩

theorem three_new (w : World) (o1 o2 o3 : Obj) : (((w.alloc o1).alloc o2).alloc o3).heap[w.heap.size]? = some o1 ∧ (((w.alloc o1).alloc o2).alloc o3).heap[w.heap.size + 1]? = some o2 ∧ (((w.alloc o1).alloc o2).alloc o3).heap[w.heap.size + 1 + 1]? = some o3 ∧ (((w.alloc o1).alloc o2).alloc o3).heap.size = w.heap.size + 3 := by
  refine ⟨?_, ?_, ?_, ?_⟩
  · show (((w.heap.push _).push _).push _)[_]? = _
    rw [Array.getElem?_push, if_neg (by simp only [Array.size_push]; omega), Array.getElem?_push, if_neg (by simp only [Array.size_push]; omega), Array.getElem?_push, if_pos rfl]
  · show (((w.heap.push _).push _).push _)[_]? = _
    rw [Array.getElem?_push, if_neg (by simp only [Array.size_push]; omega), Array.getElem?_push, if_pos (by simp only [Array.size_push])]
  · show (((w.heap.push _).push _).push _)[_]? = _
    rw [Array.getElem?_push, if_pos (by simp only [Array.size_push])]
  · show (((w.heap.push _).push _).push _).size = _
    simp only [Array.size_push]

theorem Den.shape2 {w : World} {v : Value} {n : Nat} (h : Den w v n) : ∃ (x : Int) (ao : Option Addr) (k c : Nat), v = .agg #[.int .u64 x, .slice ao k c] := by
  rcases h with ⟨rfl, _⟩ | ⟨b, o, c, l, rfl, _⟩
  · exact ⟨_, _, _, _, rfl⟩
  · exact ⟨_, _, _, _, rfl⟩

/-- A block of no two words side by side holds no long number. -/
def NoPair (cs : Array Value) : Prop := ∀ j x y, cs[j]? = some (.int .u64 x) → cs[j + 1]? = some (.int .u64 y) → False
theorem nopair2 (x : Int) (a : Option Addr) (k c : Nat) : NoPair #[.int .u64 x, .slice a k c] := by
  intro j x y h1 h2
  match j with
  | 0 => simp at h2
  | 1 => simp at h1
  | j + 2 => simp at h1
theorem Den.notin {w : World} {v : Value} {n g : Nat} {cs : Array Value} {t : TypeId} {fr : Nat × Nat} (h : Den w v n) (hp : NoPair cs) (hg : w.heap[g]? = some (.cells cs t fr)) : ∀ x a k c, v = .agg #[x, .slice (some a) k c] → a.block ≠ g := by
  intro x a k c e hb
  rcases h with ⟨rfl, _⟩ | ⟨b, o, c', l, rfl, hr, hd, ht, hl, _⟩
  · simp at e
  · simp at e
    obtain ⟨_, rfl, _⟩ := e
    obtain ⟨_, _, e, _, _, _, h4⟩ := hr
    simp at e
    obtain ⟨rfl, rfl⟩ := e
    obtain ⟨b', o', e, hc⟩ := h4 (by rintro rfl; simp at hl)
    simp at e
    obtain ⟨rfl, rfl⟩ := e
    simp at hb
    subst hb
    have h0 := hc 0 (by omega)
    have h1 := hc 1 (by omega)
    rw [cell_of_row _ _ _ _ _ fr hg] at h0 h1
    exact hp o _ _ h0 h1

set_option maxRecDepth 100000 in
set_option maxHeartbeats 2000000 in
theorem natAdd_long (w : World) (u v : Value) (n m K : Nat) (hu : Den w u n) (hv : Den w v m) (hn : (n : Int) < M.BB ^ K) (hm : (m : Int) < M.BB ^ K) (hK : K ≤ 4398046511104) (hb : 18446744073709551616 ≤ n ∨ 18446744073709551616 ≤ m) :
    Calls Tryz.prog 90 #[u, v] w fun e w' => (∃ r, e = .returned r ∧ Den w' r (n + m)) ∧ Below w.heap.size w w' := by
  obtain ⟨a1, a2, rfl⟩ := hu.shape
  obtain ⟨b1, b2, rfl⟩ := hv.shape
  have SH := hide (fun W hW => short_no W _ _ n m (hu.below hW) (hv.below hW) hb)
  go_enter Tryz.func90, Tryz.ntmps90
  have hH : ∀ o1 o2 o3, Below w.heap.size w (((w.alloc o1).alloc o2).alloc o3) := fun o1 o2 o3 => (alloc2_below w o1 o2).then_below (alloc_below _ o3)
  go_wp2_with fail
  refine (SH.out _ (hH _ _ _)).mono ?_
  rintro e w1 ⟨rfl, b1'⟩
  have S1 : w1.cell? ⟨w.heap.size, 0, none⟩ = some (a1) ∧ w1.cell? ⟨w.heap.size, 1, none⟩ = some (a2) ∧ w1.cell? ⟨w.heap.size + 1, 0, none⟩ = some (b1) ∧ w1.cell? ⟨w.heap.size + 1, 1, none⟩ = some (b2) ∧ Below w.heap.size w w1 := by
    obtain ⟨t1, t2, t3, t4⟩ := three_new w (.cells #[a1, a2] 90) (.cells #[b1, b2] 90) (.cells #[.int .u64 0, .slice none 0 0] 90)
    refine boxes_keep ⟨?_, ?_, ?_, ?_, hH _ _ _⟩ b1'
    · rw [cell_of_row _ _ 0 _ _ (0, 0) t1]; rfl
    · rw [cell_of_row _ _ 1 _ _ (0, 0) t1]; rfl
    · rw [cell_of_row _ _ 0 _ _ (0, 0) t2]; rfl
    · rw [cell_of_row _ _ 1 _ _ (0, 0) t2]; rfl
  have R1 : w1.heap[w.heap.size + 1 + 1]? = some (.cells #[.int .u64 0, .slice none 0 0] 90 (0, 0)) := by
    obtain ⟨t1, t2, t3, t4⟩ := three_new w (.cells #[a1, a2] 90) (.cells #[b1, b2] 90) (.cells #[.int .u64 0, .slice none 0 0] 90)
    rw [b1'.block _ (by rw [t4]; omega)]
    exact t3
  have rz := resBlock R1 (Below.refl _ _)
  have z0 := rz.1
  have z1 := rz.2.1
  have f0 := rz.2.2.1
  have f1 := rz.2.2.2
  clear rz
  clear hH SH
  have c1 := S1.1
  have c2 := S1.2.1
  have c3 := S1.2.2.1
  have c4 := S1.2.2.2.1
  clear z0 z1 f0 f1 c1 c2 c3 c4
  have D1 : Below w1.heap.size w1 w1.drew := (Below.refl _ _).drew
  have D0 : Below w.heap.size w w1.drew := S1.2.2.2.2.drew
  go_wp2_with fail
  go_region_held3
    (fun w' => w'.cell? ⟨w.heap.size, 0, none⟩ = some (a1) ∧ w'.cell? ⟨w.heap.size, 1, none⟩ = some (a2) ∧ w'.cell? ⟨w.heap.size + 1, 0, none⟩ = some (b1) ∧ w'.cell? ⟨w.heap.size + 1, 1, none⟩ = some (b2) ∧ Below w.heap.size w w')
    (first | (refine boxes_set (w := w) ?_ (Nat.le_refl _); assumption) | exact ⟨S1.1, S1.2.1, S1.2.2.1, S1.2.2.2.1, S1.2.2.2.2.drew⟩ | (refine boxes_keep (w := w) ?_ (by assumption); assumption) | (exact boxes_keep (w := w) ⟨by assumption, by assumption, by assumption, by assumption, by assumption⟩ (by assumption)))
    (first
      | (go_at_call_of 96 (Value.agg #[a1, a2]); refine (digits_calls _ _ n (hu.below (by first | exact D0 | exact D0.then_below (by assumption) | exact (D0.then_below (by assumption)).then_below (by assumption)))).mono ?_; rintro e wa ⟨⟨ua, la, rfl, ra, da, ta, va⟩, ba⟩)
      | (go_at_call_of 96 (Value.agg #[b1, b2]); refine (digits_calls _ _ m (hv.below (by first | exact D0 | exact D0.then_below (by assumption) | exact (D0.then_below (by assumption)).then_below (by assumption)))).mono ?_; rintro e wb ⟨⟨ub, lb, rfl, rb, db, tb, vb⟩, bb⟩)
      | (go_at_call 114; refine (addDigits_calls _ _ _ la lb (by first | exact ra | exact ra.below (by assumption)) (by first | exact rb | exact rb.below (by assumption)) da db (by have := len_of da ta va hn; omega) (by have := len_of db tb vb hm; omega)).mono ?_; rintro e wc ⟨⟨uc, lc, rfl, rc, fc, dc, tc, vc⟩, bc⟩)
      | (go_at_call 94; refine (natOf_calls _ _ lc rc dc tc (n + m) (by rw [vc, va, vb]; simp)).mono ?_; rintro e wd ⟨⟨ud, rfl, rd, sd⟩, bd⟩; obtain ⟨x1, x2, x3, x4, rfl⟩ := rd.shape2; have hw : Below w1.heap.size w1 wd := (by first | exact (((D1.then_below ba).then_below bb).then_below bc).then_below bd | exact (((D1.then_below bb).then_below ba).then_below bc).then_below bd); have rz := resBlock R1 hw; have z0 := rz.1; have z1 := rz.2.1; have f0 := rz.2.2.1; have f1 := rz.2.2.2; clear rz))
  go_wp2
  refine bodyPost_ret (v := .agg #[.int .u64 x1, .slice x2 x3 x4]) (by simp [results, Tryz.results90, go_sem, z0, z1]) rfl ?_
  have q : wd.grownBy ((wd.setCell ⟨w.heap.size + 1 + 1, 0, none⟩ (.int .u64 x1)).setCell ⟨w.heap.size + 1 + 1, 1, none⟩ (.slice x2 x3 x4)) (some (w.heap.size + 1 + 1)) := grown_trans (grown_set _ _ _ _) (grown_set _ _ _ _)
  refine ⟨⟨_, rfl, rd.kept q (rd.notin (nopair2 _ _ _ _) (by rw [hw.block _ (Array.getElem?_eq_some_iff.1 R1).1]; exact R1))⟩, (S1.2.2.2.2.then_below hw).then_grown q (by rintro g ⟨⟩; omega)⟩

set_option maxRecDepth 100000 in
set_option maxHeartbeats 2000000 in
theorem natAdd_word (w : World) (n m : Nat) (h : n + m < 18446744073709551616) :
    Calls Tryz.prog 90 #[.agg #[.int .u64 n, .slice none 0 0], .agg #[.int .u64 m, .slice none 0 0]] w fun e w' => (∃ r, e = .returned r ∧ Den w' r (n + m)) ∧ Below w.heap.size w w' := by
  have SH := hide (fun W (_ : Below w.heap.size w W) => short_yes W n m)
  go_enter Tryz.func90, Tryz.ntmps90
  have hH : ∀ o1 o2 o3, Below w.heap.size w (((w.alloc o1).alloc o2).alloc o3) := fun o1 o2 o3 => (alloc2_below w o1 o2).then_below (alloc_below _ o3)
  go_wp2_with fail
  refine (SH.out _ (hH _ _ _)).mono ?_
  rintro e w1 ⟨rfl, b1'⟩
  have S1 : w1.cell? ⟨w.heap.size, 0, none⟩ = some (.int .u64 n) ∧ w1.cell? ⟨w.heap.size, 1, none⟩ = some (.slice none 0 0) ∧ w1.cell? ⟨w.heap.size + 1, 0, none⟩ = some (.int .u64 m) ∧ w1.cell? ⟨w.heap.size + 1, 1, none⟩ = some (.slice none 0 0) ∧ Below w.heap.size w w1 := by
    obtain ⟨t1, t2, t3, t4⟩ := three_new w (.cells #[.int .u64 n, .slice none 0 0] 90) (.cells #[.int .u64 m, .slice none 0 0] 90) (.cells #[.int .u64 0, .slice none 0 0] 90)
    refine boxes_keep ⟨?_, ?_, ?_, ?_, hH _ _ _⟩ b1'
    · rw [cell_of_row _ _ 0 _ _ (0, 0) t1]; rfl
    · rw [cell_of_row _ _ 1 _ _ (0, 0) t1]; rfl
    · rw [cell_of_row _ _ 0 _ _ (0, 0) t2]; rfl
    · rw [cell_of_row _ _ 1 _ _ (0, 0) t2]; rfl
  have R1 : w1.heap[w.heap.size + 1 + 1]? = some (.cells #[.int .u64 0, .slice none 0 0] 90 (0, 0)) := by
    obtain ⟨t1, t2, t3, t4⟩ := three_new w (.cells #[.int .u64 n, .slice none 0 0] 90) (.cells #[.int .u64 m, .slice none 0 0] 90) (.cells #[.int .u64 0, .slice none 0 0] 90)
    rw [b1'.block _ (by rw [t4]; omega)]
    exact t3
  have rz := resBlock R1 (Below.refl _ _)
  have z0 := rz.1
  have z1 := rz.2.1
  have f0 := rz.2.2.1
  have f1 := rz.2.2.2
  clear rz
  clear hH SH
  have c1 := S1.1
  have c2 := S1.2.1
  have c3 := S1.2.2.1
  have c4 := S1.2.2.2.1
  have q1 := add64_00 n m (by omega) (by omega)
  have e1 : M.hi ((n : Int) + m) = 0 := by unfold M.hi; omega
  have e2 : M.lo ((n : Int) + m) = ((n + m : Nat) : Int) := by unfold M.lo; omega
  rw [e1, e2] at q1
  clear e1 e2
  go_wp2
  refine bodyPost_ret (v := .agg #[.int .u64 (((n + m : Nat) : Int)), .slice none 0 0]) (by simp [results, Tryz.results90, go_sem, z0, z1]) rfl ?_
  refine ⟨⟨_, rfl, den_word _ _ (by exact h)⟩, S1.2.2.2.2.then_grown (r := some (w.heap.size + 1 + 1)) (grown_trans (grown_set _ _ _ _) (grown_set _ _ _ _)) (by rintro g ⟨⟩; omega)⟩

set_option maxRecDepth 100000 in
set_option maxHeartbeats 2000000 in
theorem natAdd_carry (w : World) (n m : Nat) (hn : n < 18446744073709551616) (hm : m < 18446744073709551616) (h : 18446744073709551616 ≤ n + m) :
    Calls Tryz.prog 90 #[.agg #[.int .u64 n, .slice none 0 0], .agg #[.int .u64 m, .slice none 0 0]] w fun e w' => (∃ r, e = .returned r ∧ Den w' r (n + m)) ∧ Below w.heap.size w w' := by
  have hu := den_word w n hn
  have hv := den_word w m hm
  have SH := hide (fun W (_ : Below w.heap.size w W) => short_yes W n m)
  go_enter Tryz.func90, Tryz.ntmps90
  have hH : ∀ o1 o2 o3, Below w.heap.size w (((w.alloc o1).alloc o2).alloc o3) := fun o1 o2 o3 => (alloc2_below w o1 o2).then_below (alloc_below _ o3)
  go_wp2_with fail
  refine (SH.out _ (hH _ _ _)).mono ?_
  rintro e w1 ⟨rfl, b1'⟩
  have S1 : w1.cell? ⟨w.heap.size, 0, none⟩ = some (.int .u64 n) ∧ w1.cell? ⟨w.heap.size, 1, none⟩ = some (.slice none 0 0) ∧ w1.cell? ⟨w.heap.size + 1, 0, none⟩ = some (.int .u64 m) ∧ w1.cell? ⟨w.heap.size + 1, 1, none⟩ = some (.slice none 0 0) ∧ Below w.heap.size w w1 := by
    obtain ⟨t1, t2, t3, t4⟩ := three_new w (.cells #[.int .u64 n, .slice none 0 0] 90) (.cells #[.int .u64 m, .slice none 0 0] 90) (.cells #[.int .u64 0, .slice none 0 0] 90)
    refine boxes_keep ⟨?_, ?_, ?_, ?_, hH _ _ _⟩ b1'
    · rw [cell_of_row _ _ 0 _ _ (0, 0) t1]; rfl
    · rw [cell_of_row _ _ 1 _ _ (0, 0) t1]; rfl
    · rw [cell_of_row _ _ 0 _ _ (0, 0) t2]; rfl
    · rw [cell_of_row _ _ 1 _ _ (0, 0) t2]; rfl
  have R1 : w1.heap[w.heap.size + 1 + 1]? = some (.cells #[.int .u64 0, .slice none 0 0] 90 (0, 0)) := by
    obtain ⟨t1, t2, t3, t4⟩ := three_new w (.cells #[.int .u64 n, .slice none 0 0] 90) (.cells #[.int .u64 m, .slice none 0 0] 90) (.cells #[.int .u64 0, .slice none 0 0] 90)
    rw [b1'.block _ (by rw [t4]; omega)]
    exact t3
  have rz := resBlock R1 (Below.refl _ _)
  have z0 := rz.1
  have z1 := rz.2.1
  have f0 := rz.2.2.1
  have f1 := rz.2.2.2
  clear rz
  clear hH SH
  have c1 := S1.1
  have c2 := S1.2.1
  have c3 := S1.2.2.1
  have c4 := S1.2.2.2.1
  have q1 := add64_00 n m (by omega) (by omega)
  have e1 : M.hi ((n : Int) + m) = 1 := by unfold M.hi; omega
  rw [e1] at q1
  clear e1
  clear z0 z1 f0 f1 c1 c2 c3 c4
  have D1 : Below w1.heap.size w1 w1.drew := (Below.refl _ _).drew
  have D0 : Below w.heap.size w w1.drew := S1.2.2.2.2.drew
  go_wp2_with fail
  go_region_held3
    (fun w' => w'.cell? ⟨w.heap.size, 0, none⟩ = some (.int .u64 n) ∧ w'.cell? ⟨w.heap.size, 1, none⟩ = some (.slice none 0 0) ∧ w'.cell? ⟨w.heap.size + 1, 0, none⟩ = some (.int .u64 m) ∧ w'.cell? ⟨w.heap.size + 1, 1, none⟩ = some (.slice none 0 0) ∧ Below w.heap.size w w')
    (first | (refine boxes_set (w := w) ?_ (Nat.le_refl _); assumption) | exact ⟨S1.1, S1.2.1, S1.2.2.1, S1.2.2.2.1, S1.2.2.2.2.drew⟩ | (refine boxes_keep (w := w) ?_ (by assumption); assumption) | (exact boxes_keep (w := w) ⟨by assumption, by assumption, by assumption, by assumption, by assumption⟩ (by assumption)))
    (first
      | (go_at_call_of 96 (Value.agg #[.int .u64 n, .slice none 0 0]); refine (digits_calls _ _ n (hu.below (by first | exact D0 | exact D0.then_below (by assumption) | exact (D0.then_below (by assumption)).then_below (by assumption)))).mono ?_; rintro e wa ⟨⟨ua, la, rfl, ra, da, ta, va⟩, ba⟩)
      | (go_at_call_of 96 (Value.agg #[.int .u64 m, .slice none 0 0]); refine (digits_calls _ _ m (hv.below (by first | exact D0 | exact D0.then_below (by assumption) | exact (D0.then_below (by assumption)).then_below (by assumption)))).mono ?_; rintro e wb ⟨⟨ub, lb, rfl, rb, db, tb, vb⟩, bb⟩)
      | (go_at_call 114; refine (addDigits_calls _ _ _ la lb (by first | exact ra | exact ra.below (by assumption)) (by first | exact rb | exact rb.below (by assumption)) da db (by have := len_of da ta va (K := 1) (by rw [Int.pow_one, M.BB_eq]; omega); omega) (by have := len_of db tb vb (K := 1) (by rw [Int.pow_one, M.BB_eq]; omega); omega)).mono ?_; rintro e wc ⟨⟨uc, lc, rfl, rc, fc, dc, tc, vc⟩, bc⟩)
      | (go_at_call 94; refine (natOf_calls _ _ lc rc dc tc (n + m) (by rw [vc, va, vb]; simp)).mono ?_; rintro e wd ⟨⟨ud, rfl, rd, sd⟩, bd⟩; obtain ⟨x1, x2, x3, x4, rfl⟩ := rd.shape2; have hw : Below w1.heap.size w1 wd := (by first | exact (((D1.then_below ba).then_below bb).then_below bc).then_below bd | exact (((D1.then_below bb).then_below ba).then_below bc).then_below bd); have rz := resBlock R1 hw; have z0 := rz.1; have z1 := rz.2.1; have f0 := rz.2.2.1; have f1 := rz.2.2.2; clear rz))
  go_wp2
  refine bodyPost_ret (v := .agg #[.int .u64 x1, .slice x2 x3 x4]) (by simp [results, Tryz.results90, go_sem, z0, z1]) rfl ?_
  have q : wd.grownBy ((wd.setCell ⟨w.heap.size + 1 + 1, 0, none⟩ (.int .u64 x1)).setCell ⟨w.heap.size + 1 + 1, 1, none⟩ (.slice x2 x3 x4)) (some (w.heap.size + 1 + 1)) := grown_trans (grown_set _ _ _ _) (grown_set _ _ _ _)
  refine ⟨⟨_, rfl, rd.kept q (rd.notin (nopair2 _ _ _ _) (by rw [hw.block _ (Array.getElem?_eq_some_iff.1 R1).1]; exact R1))⟩, (S1.2.2.2.2.then_below hw).then_grown q (by rintro g ⟨⟩; omega)⟩

theorem natAdd_calls (w : World) (u v : Value) (n m K : Nat) (hu : Den w u n) (hv : Den w v m) (hn : (n : Int) < M.BB ^ K) (hm : (m : Int) < M.BB ^ K) (hK : K ≤ 4398046511104) :
    Calls Tryz.prog 90 #[u, v] w fun e w' => (∃ r, e = .returned r ∧ Den w' r (n + m)) ∧ Below w.heap.size w w' := by
  by_cases hb : 18446744073709551616 ≤ n ∨ 18446744073709551616 ≤ m
  · exact natAdd_long w u v n m K hu hv hn hm hK hb
  · obtain rfl := hu.word (by omega)
    obtain rfl := hv.word (by omega)
    by_cases h : n + m < 18446744073709551616
    · exact natAdd_word w n m h
    · exact natAdd_carry w n m (by omega) (by omega) (by omega)
end Go.Proofs.YtlepicdpelkmlaaGreatDoor
/- ==== Nat3 ==== -/
namespace Go.Proofs.YtlepicdpelkmlaaGreatDoor
open Go.RowKit
set_option linter.unusedVariables false

set_option maxRecDepth 100000 in
set_option maxHeartbeats 2000000 in
theorem natSub_long (w : World) (u v : Value) (n m K : Nat) (hu : Den w u n) (hv : Den w v m) (hn : (n : Int) < M.BB ^ K) (hnm : m ≤ n) (hK : K ≤ 4398046511104) (hb : 18446744073709551616 ≤ n ∨ 18446744073709551616 ≤ m) :
    Calls Tryz.prog 91 #[u, v] w fun e w' => (∃ r, e = .returned r ∧ Den w' r (n - m)) ∧ Below w.heap.size w w' := by
  obtain ⟨a1, a2, rfl⟩ := hu.shape
  obtain ⟨b1, b2, rfl⟩ := hv.shape
  have SH := hide (fun W hW => short_no W _ _ n m (hu.below hW) (hv.below hW) hb)
  go_enter Tryz.func91, Tryz.ntmps91
  have hH : ∀ o1 o2 o3, Below w.heap.size w (((w.alloc o1).alloc o2).alloc o3) := fun o1 o2 o3 => (alloc2_below w o1 o2).then_below (alloc_below _ o3)
  go_wp2_with fail
  refine (SH.out _ (hH _ _ _)).mono ?_
  rintro e w1 ⟨rfl, b1'⟩
  have S1 : w1.cell? ⟨w.heap.size, 0, none⟩ = some (a1) ∧ w1.cell? ⟨w.heap.size, 1, none⟩ = some (a2) ∧ w1.cell? ⟨w.heap.size + 1, 0, none⟩ = some (b1) ∧ w1.cell? ⟨w.heap.size + 1, 1, none⟩ = some (b2) ∧ Below w.heap.size w w1 := by
    obtain ⟨t1, t2, t3, t4⟩ := three_new w (.cells #[a1, a2] 90) (.cells #[b1, b2] 90) (.cells #[.int .u64 0, .slice none 0 0] 90)
    refine boxes_keep ⟨?_, ?_, ?_, ?_, hH _ _ _⟩ b1'
    · rw [cell_of_row _ _ 0 _ _ (0, 0) t1]; rfl
    · rw [cell_of_row _ _ 1 _ _ (0, 0) t1]; rfl
    · rw [cell_of_row _ _ 0 _ _ (0, 0) t2]; rfl
    · rw [cell_of_row _ _ 1 _ _ (0, 0) t2]; rfl
  have R1 : w1.heap[w.heap.size + 1 + 1]? = some (.cells #[.int .u64 0, .slice none 0 0] 90 (0, 0)) := by
    obtain ⟨t1, t2, t3, t4⟩ := three_new w (.cells #[a1, a2] 90) (.cells #[b1, b2] 90) (.cells #[.int .u64 0, .slice none 0 0] 90)
    rw [b1'.block _ (by rw [t4]; omega)]
    exact t3
  have rz := resBlock R1 (Below.refl _ _)
  have z0 := rz.1
  have z1 := rz.2.1
  have f0 := rz.2.2.1
  have f1 := rz.2.2.2
  clear rz
  clear hH SH
  have c1 := S1.1
  have c2 := S1.2.1
  have c3 := S1.2.2.1
  have c4 := S1.2.2.2.1
  clear z0 z1 f0 f1 c1 c2 c3 c4
  have D1 : Below w1.heap.size w1 w1.drew := (Below.refl _ _).drew
  have D0 : Below w.heap.size w w1.drew := S1.2.2.2.2.drew
  go_wp2_with fail
  go_region_held3
    (fun w' => w'.cell? ⟨w.heap.size, 0, none⟩ = some (a1) ∧ w'.cell? ⟨w.heap.size, 1, none⟩ = some (a2) ∧ w'.cell? ⟨w.heap.size + 1, 0, none⟩ = some (b1) ∧ w'.cell? ⟨w.heap.size + 1, 1, none⟩ = some (b2) ∧ Below w.heap.size w w')
    (first | (refine boxes_set (w := w) ?_ (Nat.le_refl _); assumption) | exact ⟨S1.1, S1.2.1, S1.2.2.1, S1.2.2.2.1, S1.2.2.2.2.drew⟩ | (refine boxes_keep (w := w) ?_ (by assumption); assumption) | (exact boxes_keep (w := w) ⟨by assumption, by assumption, by assumption, by assumption, by assumption⟩ (by assumption)))
    (first
      | (go_at_call_of 96 (Value.agg #[a1, a2]); refine (digits_calls _ _ n (hu.below (by first | exact D0 | exact D0.then_below (by assumption) | exact (D0.then_below (by assumption)).then_below (by assumption)))).mono ?_; rintro e wa ⟨⟨ua, la, rfl, ra, da, ta, va⟩, ba⟩)
      | (go_at_call_of 96 (Value.agg #[b1, b2]); refine (digits_calls _ _ m (hv.below (by first | exact D0 | exact D0.then_below (by assumption) | exact (D0.then_below (by assumption)).then_below (by assumption)))).mono ?_; rintro e wb ⟨⟨ub, lb, rfl, rb, db, tb, vb⟩, bb⟩)
      | (go_at_call 115; refine (subDigits_calls _ _ _ la lb (by first | exact ra | exact ra.below (by assumption)) (by first | exact rb | exact rb.below (by assumption)) da db (by have := len_of da ta va hn; omega) (M.length_le_of_lt M.BB_pos db tb (Int.lt_of_le_of_lt (by rw [va, vb]; omega) (M.val_lt M.BB_pos da))) (by rw [va, vb]; omega)).mono ?_; rintro e wc ⟨⟨uc, lc, rfl, rc, fc, dc, tc, vc⟩, bc⟩)
      | (go_at_call 94; refine (natOf_calls _ _ lc rc dc tc (n - m) (by rw [vc, va, vb]; omega)).mono ?_; rintro e wd ⟨⟨ud, rfl, rd, sd⟩, bd⟩; obtain ⟨x1, x2, x3, x4, rfl⟩ := rd.shape2; have hw : Below w1.heap.size w1 wd := (by first | exact (((D1.then_below ba).then_below bb).then_below bc).then_below bd | exact (((D1.then_below bb).then_below ba).then_below bc).then_below bd); have rz := resBlock R1 hw; have z0 := rz.1; have z1 := rz.2.1; have f0 := rz.2.2.1; have f1 := rz.2.2.2; clear rz))
  go_wp2
  refine bodyPost_ret (v := .agg #[.int .u64 x1, .slice x2 x3 x4]) (by simp [results, Tryz.results91, go_sem, z0, z1]) rfl ?_
  have q : wd.grownBy ((wd.setCell ⟨w.heap.size + 1 + 1, 0, none⟩ (.int .u64 x1)).setCell ⟨w.heap.size + 1 + 1, 1, none⟩ (.slice x2 x3 x4)) (some (w.heap.size + 1 + 1)) := grown_trans (grown_set _ _ _ _) (grown_set _ _ _ _)
  refine ⟨⟨_, rfl, rd.kept q (rd.notin (nopair2 _ _ _ _) (by rw [hw.block _ (Array.getElem?_eq_some_iff.1 R1).1]; exact R1))⟩, (S1.2.2.2.2.then_below hw).then_grown q (by rintro g ⟨⟩; omega)⟩

set_option maxRecDepth 100000 in
set_option maxHeartbeats 2000000 in
theorem natSub_word (w : World) (n m : Nat) (h : n < 18446744073709551616) (hnm : m ≤ n) :
    Calls Tryz.prog 91 #[.agg #[.int .u64 n, .slice none 0 0], .agg #[.int .u64 m, .slice none 0 0]] w fun e w' => (∃ r, e = .returned r ∧ Den w' r (n - m)) ∧ Below w.heap.size w w' := by
  have SH := hide (fun W (_ : Below w.heap.size w W) => short_yes W n m)
  go_enter Tryz.func91, Tryz.ntmps91
  have hH : ∀ o1 o2 o3, Below w.heap.size w (((w.alloc o1).alloc o2).alloc o3) := fun o1 o2 o3 => (alloc2_below w o1 o2).then_below (alloc_below _ o3)
  go_wp2_with fail
  refine (SH.out _ (hH _ _ _)).mono ?_
  rintro e w1 ⟨rfl, b1'⟩
  have S1 : w1.cell? ⟨w.heap.size, 0, none⟩ = some (.int .u64 n) ∧ w1.cell? ⟨w.heap.size, 1, none⟩ = some (.slice none 0 0) ∧ w1.cell? ⟨w.heap.size + 1, 0, none⟩ = some (.int .u64 m) ∧ w1.cell? ⟨w.heap.size + 1, 1, none⟩ = some (.slice none 0 0) ∧ Below w.heap.size w w1 := by
    obtain ⟨t1, t2, t3, t4⟩ := three_new w (.cells #[.int .u64 n, .slice none 0 0] 90) (.cells #[.int .u64 m, .slice none 0 0] 90) (.cells #[.int .u64 0, .slice none 0 0] 90)
    refine boxes_keep ⟨?_, ?_, ?_, ?_, hH _ _ _⟩ b1'
    · rw [cell_of_row _ _ 0 _ _ (0, 0) t1]; rfl
    · rw [cell_of_row _ _ 1 _ _ (0, 0) t1]; rfl
    · rw [cell_of_row _ _ 0 _ _ (0, 0) t2]; rfl
    · rw [cell_of_row _ _ 1 _ _ (0, 0) t2]; rfl
  have R1 : w1.heap[w.heap.size + 1 + 1]? = some (.cells #[.int .u64 0, .slice none 0 0] 90 (0, 0)) := by
    obtain ⟨t1, t2, t3, t4⟩ := three_new w (.cells #[.int .u64 n, .slice none 0 0] 90) (.cells #[.int .u64 m, .slice none 0 0] 90) (.cells #[.int .u64 0, .slice none 0 0] 90)
    rw [b1'.block _ (by rw [t4]; omega)]
    exact t3
  have rz := resBlock R1 (Below.refl _ _)
  have z0 := rz.1
  have z1 := rz.2.1
  have f0 := rz.2.2.1
  have f1 := rz.2.2.2
  clear rz
  clear hH SH
  have c1 := S1.1
  have c2 := S1.2.1
  have c3 := S1.2.2.1
  have c4 := S1.2.2.2.1
  have e2 : IntKind.u64.wrap ((n : Int) - m) = ((n - m : Nat) : Int) := by rw [IntKind.wrap_u64]; omega
  go_wp2
  refine bodyPost_ret (v := .agg #[.int .u64 (((n - m : Nat) : Int)), .slice none 0 0]) (by simp [results, Tryz.results91, go_sem, z0, z1]) rfl ?_
  refine ⟨⟨_, rfl, den_word _ _ (by omega)⟩, S1.2.2.2.2.then_grown (r := some (w.heap.size + 1 + 1)) (grown_trans (grown_set _ _ _ _) (grown_set _ _ _ _)) (by rintro g ⟨⟩; omega)⟩
theorem natSub_calls (w : World) (u v : Value) (n m K : Nat) (hu : Den w u n) (hv : Den w v m) (hn : (n : Int) < M.BB ^ K) (hnm : m ≤ n) (hK : K ≤ 4398046511104) :
    Calls Tryz.prog 91 #[u, v] w fun e w' => (∃ r, e = .returned r ∧ Den w' r (n - m)) ∧ Below w.heap.size w w' := by
  by_cases hb : 18446744073709551616 ≤ n ∨ 18446744073709551616 ≤ m
  · exact natSub_long w u v n m K hu hv hn hnm hK hb
  · obtain rfl := hu.word (by omega)
    obtain rfl := hv.word (by omega)
    exact natSub_word w n m (by omega) hnm
end Go.Proofs.YtlepicdpelkmlaaGreatDoor
/- ==== NatMul ==== -/
namespace Go.Proofs.YtlepicdpelkmlaaGreatDoor
open Go.RowKit
set_option linter.unusedVariables false

set_option maxRecDepth 100000 in
set_option maxHeartbeats 2000000 in
theorem natMul_long (w : World) (u v : Value) (n m K : Nat) (hu : Den w u n) (hv : Den w v m) (hn : (n : Int) < M.BB ^ K) (hm : (m : Int) < M.BB ^ K) (hK : K ≤ 4398046511104) (hb : 18446744073709551616 ≤ n ∨ 18446744073709551616 ≤ m) :
    Calls Tryz.prog 75 #[u, v] w fun e w' => (∃ r, e = .returned r ∧ Den w' r (n * m)) ∧ Below w.heap.size w w' := by
  obtain ⟨a1, a2, rfl⟩ := hu.shape
  obtain ⟨b1, b2, rfl⟩ := hv.shape
  have SH := hide (fun W hW => short_no W _ _ n m (hu.below hW) (hv.below hW) hb)
  go_enter Tryz.func75, Tryz.ntmps75
  have hH : ∀ o1 o2 o3, Below w.heap.size w (((w.alloc o1).alloc o2).alloc o3) := fun o1 o2 o3 => (alloc2_below w o1 o2).then_below (alloc_below _ o3)
  go_wp2_with fail
  refine (SH.out _ (hH _ _ _)).mono ?_
  rintro e w1 ⟨rfl, b1'⟩
  have S1 : w1.cell? ⟨w.heap.size, 0, none⟩ = some (a1) ∧ w1.cell? ⟨w.heap.size, 1, none⟩ = some (a2) ∧ w1.cell? ⟨w.heap.size + 1, 0, none⟩ = some (b1) ∧ w1.cell? ⟨w.heap.size + 1, 1, none⟩ = some (b2) ∧ Below w.heap.size w w1 := by
    obtain ⟨t1, t2, t3, t4⟩ := three_new w (.cells #[a1, a2] 90) (.cells #[b1, b2] 90) (.cells #[.int .u64 0, .slice none 0 0] 90)
    refine boxes_keep ⟨?_, ?_, ?_, ?_, hH _ _ _⟩ b1'
    · rw [cell_of_row _ _ 0 _ _ (0, 0) t1]; rfl
    · rw [cell_of_row _ _ 1 _ _ (0, 0) t1]; rfl
    · rw [cell_of_row _ _ 0 _ _ (0, 0) t2]; rfl
    · rw [cell_of_row _ _ 1 _ _ (0, 0) t2]; rfl
  have R1 : w1.heap[w.heap.size + 1 + 1]? = some (.cells #[.int .u64 0, .slice none 0 0] 90 (0, 0)) := by
    obtain ⟨t1, t2, t3, t4⟩ := three_new w (.cells #[a1, a2] 90) (.cells #[b1, b2] 90) (.cells #[.int .u64 0, .slice none 0 0] 90)
    rw [b1'.block _ (by rw [t4]; omega)]
    exact t3
  have rz := resBlock R1 (Below.refl _ _)
  have z0 := rz.1
  have z1 := rz.2.1
  have f0 := rz.2.2.1
  have f1 := rz.2.2.2
  clear rz
  clear hH SH
  have c1 := S1.1
  have c2 := S1.2.1
  have c3 := S1.2.2.1
  have c4 := S1.2.2.2.1
  clear z0 z1 f0 f1 c1 c2 c3 c4
  have D1 : Below w1.heap.size w1 w1.drew := (Below.refl _ _).drew
  have D0 : Below w.heap.size w w1.drew := S1.2.2.2.2.drew
  go_wp2_with fail
  go_region_held3
    (fun w' => w'.cell? ⟨w.heap.size, 0, none⟩ = some (a1) ∧ w'.cell? ⟨w.heap.size, 1, none⟩ = some (a2) ∧ w'.cell? ⟨w.heap.size + 1, 0, none⟩ = some (b1) ∧ w'.cell? ⟨w.heap.size + 1, 1, none⟩ = some (b2) ∧ Below w.heap.size w w')
    (first | (refine boxes_set (w := w) ?_ (Nat.le_refl _); assumption) | exact ⟨S1.1, S1.2.1, S1.2.2.1, S1.2.2.2.1, S1.2.2.2.2.drew⟩ | (refine boxes_keep (w := w) ?_ (by assumption); assumption) | (exact boxes_keep (w := w) ⟨by assumption, by assumption, by assumption, by assumption, by assumption⟩ (by assumption)))
    (first
      | (go_at_call_of 96 (Value.agg #[a1, a2]); refine (digits_calls _ _ n (hu.below (by first | exact D0 | exact D0.then_below (by assumption) | exact (D0.then_below (by assumption)).then_below (by assumption)))).mono ?_; rintro e wa ⟨⟨ua, la, rfl, ra, da, ta, va⟩, ba⟩)
      | (go_at_call_of 96 (Value.agg #[b1, b2]); refine (digits_calls _ _ m (hv.below (by first | exact D0 | exact D0.then_below (by assumption) | exact (D0.then_below (by assumption)).then_below (by assumption)))).mono ?_; rintro e wb ⟨⟨ub, lb, rfl, rb, db, tb, vb⟩, bb⟩)
      | (go_at_call 99; refine (mulDigits_calls _ _ _ la lb (by first | exact ra | exact ra.below (by assumption)) (by first | exact rb | exact rb.below (by assumption)) da db (by have := len_of da ta va hn; have := len_of db tb vb hm; omega)).mono ?_; rintro e wc ⟨⟨uc, lc, rfl, rc, fc, dc, tc, vc⟩, bc⟩)
      | (go_at_call 94; refine (natOf_calls _ _ lc rc dc tc (n * m) (by rw [vc, va, vb]; simp)).mono ?_; rintro e wd ⟨⟨ud, rfl, rd, sd⟩, bd⟩; obtain ⟨x1, x2, x3, x4, rfl⟩ := rd.shape2; have hw : Below w1.heap.size w1 wd := (by first | exact (((D1.then_below ba).then_below bb).then_below bc).then_below bd | exact (((D1.then_below bb).then_below ba).then_below bc).then_below bd); have rz := resBlock R1 hw; have z0 := rz.1; have z1 := rz.2.1; have f0 := rz.2.2.1; have f1 := rz.2.2.2; clear rz))
  go_wp2
  refine bodyPost_ret (v := .agg #[.int .u64 x1, .slice x2 x3 x4]) (by simp [results, Tryz.results75, go_sem, z0, z1]) rfl ?_
  have q : wd.grownBy ((wd.setCell ⟨w.heap.size + 1 + 1, 0, none⟩ (.int .u64 x1)).setCell ⟨w.heap.size + 1 + 1, 1, none⟩ (.slice x2 x3 x4)) (some (w.heap.size + 1 + 1)) := grown_trans (grown_set _ _ _ _) (grown_set _ _ _ _)
  refine ⟨⟨_, rfl, rd.kept q (rd.notin (nopair2 _ _ _ _) (by rw [hw.block _ (Array.getElem?_eq_some_iff.1 R1).1]; exact R1))⟩, (S1.2.2.2.2.then_below hw).then_grown q (by rintro g ⟨⟩; omega)⟩

set_option maxRecDepth 100000 in
set_option maxHeartbeats 2000000 in
theorem natMul_word (w : World) (n m : Nat) (hn : n < 18446744073709551616) (hm : m < 18446744073709551616) (h : n * m < 18446744073709551616) :
    Calls Tryz.prog 75 #[.agg #[.int .u64 n, .slice none 0 0], .agg #[.int .u64 m, .slice none 0 0]] w fun e w' => (∃ r, e = .returned r ∧ Den w' r (n * m)) ∧ Below w.heap.size w w' := by
  have SH := hide (fun W (_ : Below w.heap.size w W) => short_yes W n m)
  go_enter Tryz.func75, Tryz.ntmps75
  have hH : ∀ o1 o2 o3, Below w.heap.size w (((w.alloc o1).alloc o2).alloc o3) := fun o1 o2 o3 => (alloc2_below w o1 o2).then_below (alloc_below _ o3)
  go_wp2_with fail
  refine (SH.out _ (hH _ _ _)).mono ?_
  rintro e w1 ⟨rfl, b1'⟩
  have S1 : w1.cell? ⟨w.heap.size, 0, none⟩ = some (.int .u64 n) ∧ w1.cell? ⟨w.heap.size, 1, none⟩ = some (.slice none 0 0) ∧ w1.cell? ⟨w.heap.size + 1, 0, none⟩ = some (.int .u64 m) ∧ w1.cell? ⟨w.heap.size + 1, 1, none⟩ = some (.slice none 0 0) ∧ Below w.heap.size w w1 := by
    obtain ⟨t1, t2, t3, t4⟩ := three_new w (.cells #[.int .u64 n, .slice none 0 0] 90) (.cells #[.int .u64 m, .slice none 0 0] 90) (.cells #[.int .u64 0, .slice none 0 0] 90)
    refine boxes_keep ⟨?_, ?_, ?_, ?_, hH _ _ _⟩ b1'
    · rw [cell_of_row _ _ 0 _ _ (0, 0) t1]; rfl
    · rw [cell_of_row _ _ 1 _ _ (0, 0) t1]; rfl
    · rw [cell_of_row _ _ 0 _ _ (0, 0) t2]; rfl
    · rw [cell_of_row _ _ 1 _ _ (0, 0) t2]; rfl
  have R1 : w1.heap[w.heap.size + 1 + 1]? = some (.cells #[.int .u64 0, .slice none 0 0] 90 (0, 0)) := by
    obtain ⟨t1, t2, t3, t4⟩ := three_new w (.cells #[.int .u64 n, .slice none 0 0] 90) (.cells #[.int .u64 m, .slice none 0 0] 90) (.cells #[.int .u64 0, .slice none 0 0] 90)
    rw [b1'.block _ (by rw [t4]; omega)]
    exact t3
  have rz := resBlock R1 (Below.refl _ _)
  have z0 := rz.1
  have z1 := rz.2.1
  have f0 := rz.2.2.1
  have f1 := rz.2.2.2
  clear rz
  clear hH SH
  have c1 := S1.1
  have c2 := S1.2.1
  have c3 := S1.2.2.1
  have c4 := S1.2.2.2.1
  have q1 := mul64_calls n m w1 ⟨by omega, by rw [M.BB_eq]; omega⟩ ⟨by omega, by rw [M.BB_eq]; omega⟩
  have e1 : M.hi ((n : Int) * m) = 0 := by unfold M.hi; rw [← Int.natCast_mul]; omega
  have e2 : M.lo ((n : Int) * m) = ((n * m : Nat) : Int) := by unfold M.lo; rw [← Int.natCast_mul]; omega
  rw [e1, e2] at q1
  replace q1 := hide q1
  clear e1 e2
  go_wp2_with fail
  refine q1.out.mono ?_
  rintro e w2 ⟨rfl, hw2⟩
  rw [hw2]
  clear hw2 w2 q1
  go_wp2
  refine bodyPost_ret (v := .agg #[.int .u64 (((n * m : Nat) : Int)), .slice none 0 0]) (by simp [results, Tryz.results75, go_sem, z0, z1]) rfl ?_
  refine ⟨⟨_, rfl, den_word _ _ (by exact h)⟩, S1.2.2.2.2.then_grown (r := some (w.heap.size + 1 + 1)) (grown_trans (grown_set _ _ _ _) (grown_set _ _ _ _)) (by rintro g ⟨⟩; omega)⟩

set_option maxRecDepth 100000 in
set_option maxHeartbeats 2000000 in
theorem natMul_carry (w : World) (n m : Nat) (hn : n < 18446744073709551616) (hm : m < 18446744073709551616) (h : 18446744073709551616 ≤ n * m) :
    Calls Tryz.prog 75 #[.agg #[.int .u64 n, .slice none 0 0], .agg #[.int .u64 m, .slice none 0 0]] w fun e w' => (∃ r, e = .returned r ∧ Den w' r (n * m)) ∧ Below w.heap.size w w' := by
  have hu := den_word w n hn
  have hv := den_word w m hm
  have SH := hide (fun W (_ : Below w.heap.size w W) => short_yes W n m)
  go_enter Tryz.func75, Tryz.ntmps75
  have hH : ∀ o1 o2 o3, Below w.heap.size w (((w.alloc o1).alloc o2).alloc o3) := fun o1 o2 o3 => (alloc2_below w o1 o2).then_below (alloc_below _ o3)
  go_wp2_with fail
  refine (SH.out _ (hH _ _ _)).mono ?_
  rintro e w1 ⟨rfl, b1'⟩
  have S1 : w1.cell? ⟨w.heap.size, 0, none⟩ = some (.int .u64 n) ∧ w1.cell? ⟨w.heap.size, 1, none⟩ = some (.slice none 0 0) ∧ w1.cell? ⟨w.heap.size + 1, 0, none⟩ = some (.int .u64 m) ∧ w1.cell? ⟨w.heap.size + 1, 1, none⟩ = some (.slice none 0 0) ∧ Below w.heap.size w w1 := by
    obtain ⟨t1, t2, t3, t4⟩ := three_new w (.cells #[.int .u64 n, .slice none 0 0] 90) (.cells #[.int .u64 m, .slice none 0 0] 90) (.cells #[.int .u64 0, .slice none 0 0] 90)
    refine boxes_keep ⟨?_, ?_, ?_, ?_, hH _ _ _⟩ b1'
    · rw [cell_of_row _ _ 0 _ _ (0, 0) t1]; rfl
    · rw [cell_of_row _ _ 1 _ _ (0, 0) t1]; rfl
    · rw [cell_of_row _ _ 0 _ _ (0, 0) t2]; rfl
    · rw [cell_of_row _ _ 1 _ _ (0, 0) t2]; rfl
  have R1 : w1.heap[w.heap.size + 1 + 1]? = some (.cells #[.int .u64 0, .slice none 0 0] 90 (0, 0)) := by
    obtain ⟨t1, t2, t3, t4⟩ := three_new w (.cells #[.int .u64 n, .slice none 0 0] 90) (.cells #[.int .u64 m, .slice none 0 0] 90) (.cells #[.int .u64 0, .slice none 0 0] 90)
    rw [b1'.block _ (by rw [t4]; omega)]
    exact t3
  have rz := resBlock R1 (Below.refl _ _)
  have z0 := rz.1
  have z1 := rz.2.1
  have f0 := rz.2.2.1
  have f1 := rz.2.2.2
  clear rz
  clear hH SH
  have c1 := S1.1
  have c2 := S1.2.1
  have c3 := S1.2.2.1
  have c4 := S1.2.2.2.1
  have q1 := mul64_calls n m w1 ⟨by omega, by rw [M.BB_eq]; omega⟩ ⟨by omega, by rw [M.BB_eq]; omega⟩
  have e1 : ¬ M.hi ((n : Int) * m) = 0 := by unfold M.hi; rw [← Int.natCast_mul]; omega
  generalize M.hi ((n : Int) * m) = X at q1 e1
  generalize M.lo ((n : Int) * m) = Y at q1
  replace q1 := hide q1
  go_wp2_with fail
  refine q1.out.mono ?_
  rintro e w2 ⟨rfl, hw2⟩
  rw [hw2]
  clear hw2 w2 q1
  clear z0 z1 f0 f1 c1 c2 c3 c4
  have D1 : Below w1.heap.size w1 w1.drew := (Below.refl _ _).drew
  have D0 : Below w.heap.size w w1.drew := S1.2.2.2.2.drew
  go_wp2_with fail
  go_region_held3
    (fun w' => w'.cell? ⟨w.heap.size, 0, none⟩ = some (.int .u64 n) ∧ w'.cell? ⟨w.heap.size, 1, none⟩ = some (.slice none 0 0) ∧ w'.cell? ⟨w.heap.size + 1, 0, none⟩ = some (.int .u64 m) ∧ w'.cell? ⟨w.heap.size + 1, 1, none⟩ = some (.slice none 0 0) ∧ Below w.heap.size w w')
    (first | (refine boxes_set (w := w) ?_ (Nat.le_refl _); assumption) | exact ⟨S1.1, S1.2.1, S1.2.2.1, S1.2.2.2.1, S1.2.2.2.2.drew⟩ | (refine boxes_keep (w := w) ?_ (by assumption); assumption) | (exact boxes_keep (w := w) ⟨by assumption, by assumption, by assumption, by assumption, by assumption⟩ (by assumption)))
    (first
      | (go_at_call_of 96 (Value.agg #[.int .u64 n, .slice none 0 0]); refine (digits_calls _ _ n (hu.below (by first | exact D0 | exact D0.then_below (by assumption) | exact (D0.then_below (by assumption)).then_below (by assumption)))).mono ?_; rintro e wa ⟨⟨ua, la, rfl, ra, da, ta, va⟩, ba⟩)
      | (go_at_call_of 96 (Value.agg #[.int .u64 m, .slice none 0 0]); refine (digits_calls _ _ m (hv.below (by first | exact D0 | exact D0.then_below (by assumption) | exact (D0.then_below (by assumption)).then_below (by assumption)))).mono ?_; rintro e wb ⟨⟨ub, lb, rfl, rb, db, tb, vb⟩, bb⟩)
      | (go_at_call 99; refine (mulDigits_calls _ _ _ la lb (by first | exact ra | exact ra.below (by assumption)) (by first | exact rb | exact rb.below (by assumption)) da db (by have := len_of da ta va (K := 1) (by rw [Int.pow_one, M.BB_eq]; omega); have := len_of db tb vb (K := 1) (by rw [Int.pow_one, M.BB_eq]; omega); omega)).mono ?_; rintro e wc ⟨⟨uc, lc, rfl, rc, fc, dc, tc, vc⟩, bc⟩)
      | (go_at_call 94; refine (natOf_calls _ _ lc rc dc tc (n * m) (by rw [vc, va, vb]; simp)).mono ?_; rintro e wd ⟨⟨ud, rfl, rd, sd⟩, bd⟩; obtain ⟨x1, x2, x3, x4, rfl⟩ := rd.shape2; have hw : Below w1.heap.size w1 wd := (by first | exact (((D1.then_below ba).then_below bb).then_below bc).then_below bd | exact (((D1.then_below bb).then_below ba).then_below bc).then_below bd); have rz := resBlock R1 hw; have z0 := rz.1; have z1 := rz.2.1; have f0 := rz.2.2.1; have f1 := rz.2.2.2; clear rz))
  go_wp2
  refine bodyPost_ret (v := .agg #[.int .u64 x1, .slice x2 x3 x4]) (by simp [results, Tryz.results75, go_sem, z0, z1]) rfl ?_
  have q : wd.grownBy ((wd.setCell ⟨w.heap.size + 1 + 1, 0, none⟩ (.int .u64 x1)).setCell ⟨w.heap.size + 1 + 1, 1, none⟩ (.slice x2 x3 x4)) (some (w.heap.size + 1 + 1)) := grown_trans (grown_set _ _ _ _) (grown_set _ _ _ _)
  refine ⟨⟨_, rfl, rd.kept q (rd.notin (nopair2 _ _ _ _) (by rw [hw.block _ (Array.getElem?_eq_some_iff.1 R1).1]; exact R1))⟩, (S1.2.2.2.2.then_below hw).then_grown q (by rintro g ⟨⟩; omega)⟩
theorem natMul_calls (w : World) (u v : Value) (n m K : Nat) (hu : Den w u n) (hv : Den w v m) (hn : (n : Int) < M.BB ^ K) (hm : (m : Int) < M.BB ^ K) (hK : K ≤ 4398046511104) :
    Calls Tryz.prog 75 #[u, v] w fun e w' => (∃ r, e = .returned r ∧ Den w' r (n * m)) ∧ Below w.heap.size w w' := by
  by_cases hb : 18446744073709551616 ≤ n ∨ 18446744073709551616 ≤ m
  · exact natMul_long w u v n m K hu hv hn hm hK hb
  · obtain rfl := hu.word (by omega)
    obtain rfl := hv.word (by omega)
    by_cases h : n * m < 18446744073709551616
    · exact natMul_word w n m (by omega) (by omega) h
    · exact natMul_carry w n m (by omega) (by omega) (by omega)
end Go.Proofs.YtlepicdpelkmlaaGreatDoor
/- ==== NatCmp ==== -/
namespace Go.Proofs.YtlepicdpelkmlaaGreatDoor
open Go.RowKit
set_option linter.unusedVariables false

set_option maxRecDepth 100000 in
set_option maxHeartbeats 400000 in
theorem isZero_calls (w : World) (v : Value) (n : Nat) (h : Den w v n) : Calls Tryz.prog 57 #[v] w fun e w' => e = .returned (.bool (decide (n = 0))) ∧ Below w.heap.size w w' := by
  rcases h with ⟨rfl, hn⟩ | ⟨b, o, c, l, rfl, hr, hd, ht, hl, hv⟩
  · have q1 := nil_eq
    by_cases h0 : n = 0
    · subst h0
      go_enter Tryz.func57, Tryz.ntmps57
      go_wp2
      go_ret
      exact ⟨by simp, alloc_below _ _⟩
    · have e0 : ¬ (n : Int) = 0 := by omega
      go_enter Tryz.func57, Tryz.ntmps57
      go_wp2
      go_ret
      exact ⟨by simp [h0] <;> omega, alloc_below _ _⟩
  · have q1 := nil_eq
    have hb := Den.big (w := w) (b := b) (o := o) (c := c) hd ht hl hv
    replace hb := hide hb
    clear hv
    go_enter Tryz.func57, Tryz.ntmps57
    go_wp2
    go_ret
    have hb' := hb.out
    exact ⟨by rw [decide_eq_false (by omega)]; rfl, alloc_below _ _⟩
set_option maxRecDepth 100000 in
set_option maxHeartbeats 400000 in
theorem isOne_calls (w : World) (v : Value) (n : Nat) (h : Den w v n) : Calls Tryz.prog 80 #[v] w fun e w' => e = .returned (.bool (decide (n = 1))) ∧ Below w.heap.size w w' := by
  rcases h with ⟨rfl, hn⟩ | ⟨b, o, c, l, rfl, hr, hd, ht, hl, hv⟩
  · have q1 := nil_eq
    by_cases h0 : n = 1
    · subst h0
      go_enter Tryz.func80, Tryz.ntmps80
      go_wp2
      go_ret
      exact ⟨by simp, alloc_below _ _⟩
    · have e0 : ¬ (n : Int) = 1 := by omega
      go_enter Tryz.func80, Tryz.ntmps80
      go_wp2
      go_ret
      exact ⟨by simp [h0] <;> omega, alloc_below _ _⟩
  · have q1 := nil_eq
    have hb := Den.big (w := w) (b := b) (o := o) (c := c) hd ht hl hv
    replace hb := hide hb
    clear hv
    go_enter Tryz.func80, Tryz.ntmps80
    go_wp2
    go_ret
    have hb' := hb.out
    exact ⟨by rw [decide_eq_false (by omega)]; rfl, alloc_below _ _⟩

theorem two_new (w : World) (o1 o2 : Obj) : ((w.alloc o1).alloc o2).heap[w.heap.size]? = some o1 ∧ ((w.alloc o1).alloc o2).heap[w.heap.size + 1]? = some o2 ∧ ((w.alloc o1).alloc o2).heap.size = w.heap.size + 2 := by
  refine ⟨?_, ?_, ?_⟩
  · show ((w.heap.push _).push _)[_]? = _
    rw [Array.getElem?_push, if_neg (by simp only [Array.size_push]; omega), Array.getElem?_push, if_pos rfl]
  · show ((w.heap.push _).push _)[_]? = _
    rw [Array.getElem?_push, if_pos (by simp only [Array.size_push])]
  · show ((w.heap.push _).push _).size = _
    simp only [Array.size_push]
theorem drewN_below (w : World) (n : Nat) : Below w.heap.size w (w.drewN n) := ⟨rfl, rfl, rfl, Nat.le_refl _, fun _ _ => rfl⟩
set_option maxRecDepth 100000 in
set_option maxHeartbeats 2000000 in
theorem natCmp_long (w : World) (u v : Value) (n m : Nat) (hu : Den w u n) (hv : Den w v m) (hb : 18446744073709551616 ≤ n ∨ 18446744073709551616 ≤ m) :
    Calls Tryz.prog 84 #[u, v] w fun e w' => e = .returned (.int .i64 (M.cmp n m)) ∧ Below w.heap.size w w' := by
  obtain ⟨a1, a2, rfl⟩ := hu.shape
  obtain ⟨b1, b2, rfl⟩ := hv.shape
  have SH := hide (fun W hW => short_no W _ _ n m (hu.below hW) (hv.below hW) hb)
  go_enter Tryz.func84, Tryz.ntmps84
  have hH : ∀ o1 o2, Below w.heap.size w ((w.alloc o1).alloc o2) := fun o1 o2 => (alloc2_below w o1 o2)
  go_wp2_with fail
  refine (SH.out _ (hH _ _)).mono ?_
  rintro e w1 ⟨rfl, b1'⟩
  have S1 : w1.cell? ⟨w.heap.size, 0, none⟩ = some (a1) ∧ w1.cell? ⟨w.heap.size, 1, none⟩ = some (a2) ∧ w1.cell? ⟨w.heap.size + 1, 0, none⟩ = some (b1) ∧ w1.cell? ⟨w.heap.size + 1, 1, none⟩ = some (b2) ∧ Below w.heap.size w w1 := by
    obtain ⟨t1, t2, t4⟩ := two_new w (.cells #[a1, a2] 90) (.cells #[b1, b2] 90)
    refine boxes_keep ⟨?_, ?_, ?_, ?_, hH _ _⟩ b1'
    · rw [cell_of_row _ _ 0 _ _ (0, 0) t1]; rfl
    · rw [cell_of_row _ _ 1 _ _ (0, 0) t1]; rfl
    · rw [cell_of_row _ _ 0 _ _ (0, 0) t2]; rfl
    · rw [cell_of_row _ _ 1 _ _ (0, 0) t2]; rfl
  clear hH SH
  have c1 := S1.1
  have c2 := S1.2.1
  have c3 := S1.2.2.1
  have c4 := S1.2.2.2.1
  clear c1 c2 c3 c4
  have D1 : Below w1.heap.size w1 w1.drew := (Below.refl _ _).drew
  have D0 : Below w.heap.size w w1.drew := S1.2.2.2.2.drew
  go_wp2_with fail
  go_region_held3
    (fun w' => w'.cell? ⟨w.heap.size, 0, none⟩ = some (a1) ∧ w'.cell? ⟨w.heap.size, 1, none⟩ = some (a2) ∧ w'.cell? ⟨w.heap.size + 1, 0, none⟩ = some (b1) ∧ w'.cell? ⟨w.heap.size + 1, 1, none⟩ = some (b2) ∧ Below w.heap.size w w')
    (first | (refine boxes_set (w := w) ?_ (Nat.le_refl _); assumption) | exact ⟨S1.1, S1.2.1, S1.2.2.1, S1.2.2.2.1, S1.2.2.2.2.drew⟩ | (refine boxes_keep (w := w) ?_ (by assumption); assumption) | (exact boxes_keep (w := w) ⟨by assumption, by assumption, by assumption, by assumption, by assumption⟩ (by assumption)))
    (first
      | (go_at_call_of 96 (Value.agg #[a1, a2]); refine (digits_calls _ _ n (hu.below (by first | exact D0 | exact D0.then_below (by assumption) | exact (D0.then_below (by assumption)).then_below (by assumption)))).mono ?_; rintro e wa ⟨⟨ua, la, rfl, ra, da, ta, va⟩, ba⟩)
      | (go_at_call_of 96 (Value.agg #[b1, b2]); refine (digits_calls _ _ m (hv.below (by first | exact D0 | exact D0.then_below (by assumption) | exact (D0.then_below (by assumption)).then_below (by assumption)))).mono ?_; rintro e wb ⟨⟨ub, lb, rfl, rb, db, tb, vb⟩, bb⟩)
      | (go_at_call 107; refine (compareDigits_calls _ _ _ la lb (by first | exact ra | exact ra.below (by assumption)) (by first | exact rb | exact rb.below (by assumption)) da db ta tb).mono ?_; rintro e wc ⟨rfl, nc, hwc⟩; have bc := (hwc ▸ drewN_below _ nc : Below _ _ wc); rw [va, vb]; replace hwc := hide hwc; have hw : Below w1.heap.size w1 wc := (by first | exact ((D1.then_below ba).then_below bb).then_below bc | exact ((D1.then_below bb).then_below ba).then_below bc)))
  go_wp2
  go_ret
  exact ⟨rfl, S1.2.2.2.2.then_below hw⟩
set_option maxRecDepth 100000 in
set_option maxHeartbeats 2000000 in
theorem natCmp_word (w : World) (n m : Nat) :
    Calls Tryz.prog 84 #[.agg #[.int .u64 n, .slice none 0 0], .agg #[.int .u64 m, .slice none 0 0]] w fun e w' => e = .returned (.int .i64 (M.cmp n m)) ∧ Below w.heap.size w w' := by
  have SH := hide (fun W (_ : Below w.heap.size w W) => short_yes W n m)
  go_enter Tryz.func84, Tryz.ntmps84
  have hH : ∀ o1 o2, Below w.heap.size w ((w.alloc o1).alloc o2) := fun o1 o2 => (alloc2_below w o1 o2)
  go_wp2_with fail
  refine (SH.out _ (hH _ _)).mono ?_
  rintro e w1 ⟨rfl, b1'⟩
  have S1 : w1.cell? ⟨w.heap.size, 0, none⟩ = some (.int .u64 n) ∧ w1.cell? ⟨w.heap.size, 1, none⟩ = some (.slice none 0 0) ∧ w1.cell? ⟨w.heap.size + 1, 0, none⟩ = some (.int .u64 m) ∧ w1.cell? ⟨w.heap.size + 1, 1, none⟩ = some (.slice none 0 0) ∧ Below w.heap.size w w1 := by
    obtain ⟨t1, t2, t4⟩ := two_new w (.cells #[.int .u64 n, .slice none 0 0] 90) (.cells #[.int .u64 m, .slice none 0 0] 90)
    refine boxes_keep ⟨?_, ?_, ?_, ?_, hH _ _⟩ b1'
    · rw [cell_of_row _ _ 0 _ _ (0, 0) t1]; rfl
    · rw [cell_of_row _ _ 1 _ _ (0, 0) t1]; rfl
    · rw [cell_of_row _ _ 0 _ _ (0, 0) t2]; rfl
    · rw [cell_of_row _ _ 1 _ _ (0, 0) t2]; rfl
  clear hH SH
  have c1 := S1.1
  have c2 := S1.2.1
  have c3 := S1.2.2.1
  have c4 := S1.2.2.2.1
  have q1 := hide (compareU64_calls n m w1)
  go_wp2_with fail
  refine q1.out.mono ?_
  rintro e w2 ⟨rfl, hw2⟩
  rw [hw2]
  clear hw2 w2 q1
  go_wp2
  go_ret
  exact ⟨rfl, S1.2.2.2.2⟩
theorem natCmp_calls (w : World) (u v : Value) (n m : Nat) (hu : Den w u n) (hv : Den w v m) :
    Calls Tryz.prog 84 #[u, v] w fun e w' => e = .returned (.int .i64 (M.cmp n m)) ∧ Below w.heap.size w w' := by
  by_cases hb : 18446744073709551616 ≤ n ∨ 18446744073709551616 ≤ m
  · exact natCmp_long w u v n m hu hv hb
  · obtain rfl := hu.word (by omega)
    obtain rfl := hv.word (by omega)
    exact natCmp_word w n m
end Go.Proofs.YtlepicdpelkmlaaGreatDoor
/- ==== NatGcd ==== -/
namespace Go.Proofs.YtlepicdpelkmlaaGreatDoor
open Go.RowKit
set_option linter.unusedVariables false

theorem kept_block {w w' : World} {g : Nat} {o : Obj} (h : w.heap[g]? = some o) (b : Below w.heap.size w w') : w'.heap[g]? = some o := by
  rw [b.block _ (Array.getElem?_eq_some_iff.1 h).1]; exact h
set_option maxRecDepth 100000 in
set_option maxHeartbeats 4000000 in
theorem natGcd_1 (w : World) (u v : Value) (n m K : Nat) (hu : Den w u n) (hv : Den w v m) (hn : (n : Int) < M.BB ^ K) (hm : (m : Int) < M.BB ^ K) (hK : K ≤ 4398046511104) (hT : Tab w) (hb : 18446744073709551616 ≤ n ∨ 18446744073709551616 ≤ m) (h1 : n = 0) :
    Calls Tryz.prog 73 #[u, v] w fun e w' => (∃ r, e = .returned r ∧ Den w' r (Nat.gcd n m)) ∧ Below w.heap.size w w' := by
  obtain ⟨x1, x2, x3, x4, rfl⟩ := hu.shape2
  obtain ⟨y1, y2, y3, y4, rfl⟩ := hv.shape2
  have SH := hide (fun W hW => short_no W _ _ n m (hu.below hW) (hv.below hW) hb)
  go_enter Tryz.func73, Tryz.ntmps73
  have hH : ∀ o1 o2 o3, Below w.heap.size w (((w.alloc o1).alloc o2).alloc o3) := fun o1 o2 o3 => (alloc2_below w o1 o2).then_below (alloc_below _ o3)
  go_wp2_with fail
  refine (SH.out _ (hH _ _ _)).mono ?_
  rintro e w1 ⟨rfl, b1'⟩
  have S1 : w1.cell? ⟨w.heap.size, 0, none⟩ = some (.int .u64 x1) ∧ w1.cell? ⟨w.heap.size, 1, none⟩ = some (.slice x2 x3 x4) ∧ w1.cell? ⟨w.heap.size + 1, 0, none⟩ = some (.int .u64 y1) ∧ w1.cell? ⟨w.heap.size + 1, 1, none⟩ = some (.slice y2 y3 y4) ∧ Below w.heap.size w w1 := by
    obtain ⟨t1, t2, t3, t4⟩ := three_new w (.cells #[.int .u64 x1, .slice x2 x3 x4] 90) (.cells #[.int .u64 y1, .slice y2 y3 y4] 90) (.cells #[.int .u64 0, .slice none 0 0] 90)
    refine boxes_keep ⟨?_, ?_, ?_, ?_, hH _ _ _⟩ b1'
    · rw [cell_of_row _ _ 0 _ _ (0, 0) t1]; rfl
    · rw [cell_of_row _ _ 1 _ _ (0, 0) t1]; rfl
    · rw [cell_of_row _ _ 0 _ _ (0, 0) t2]; rfl
    · rw [cell_of_row _ _ 1 _ _ (0, 0) t2]; rfl
  have R1 : w1.heap[w.heap.size + 1 + 1]? = some (.cells #[.int .u64 0, .slice none 0 0] 90 (0, 0)) := by
    obtain ⟨t1, t2, t3, t4⟩ := three_new w (.cells #[.int .u64 x1, .slice x2 x3 x4] 90) (.cells #[.int .u64 y1, .slice y2 y3 y4] 90) (.cells #[.int .u64 0, .slice none 0 0] 90)
    rw [b1'.block _ (by rw [t4]; omega)]
    exact t3
  have rz := resBlock R1 (Below.refl _ _)
  have z0 := rz.1
  have z1 := rz.2.1
  have f0 := rz.2.2.1
  have f1 := rz.2.2.2
  clear rz
  clear hH SH
  have c1 := S1.1
  have c2 := S1.2.1
  have c3 := S1.2.2.1
  have c4 := S1.2.2.2.1
  go_wp2_with fail
  refine (isZero_calls _ _ n (hu.below S1.2.2.2.2)).mono ?_
  rintro e w2 ⟨rfl, b2⟩
  rw [decide_eq_true h1]
  replace S1 := boxes_keep S1 b2
  replace R1 := kept_block R1 b2
  clear c1 c2 c3 c4 z0 z1 f0 f1 b2
  try clear b1'
  clear w1
  rename World => w1
  have c1 := S1.1
  have c2 := S1.2.1
  have c3 := S1.2.2.1
  have c4 := S1.2.2.2.1
  have rz := resBlock R1 (Below.refl _ _)
  have z0 := rz.1
  have z1 := rz.2.1
  have f0 := rz.2.2.1
  have f1 := rz.2.2.2
  clear rz
  go_wp2
  refine bodyPost_ret (v := .agg #[.int .u64 y1, .slice y2 y3 y4]) (by simp [results, Tryz.results73, go_sem, z0, z1]) rfl ?_
  have D := hv.below S1.2.2.2.2
  have q : w1.grownBy ((w1.setCell ⟨w.heap.size + 1 + 1, 0, none⟩ (.int .u64 y1)).setCell ⟨w.heap.size + 1 + 1, 1, none⟩ (.slice y2 y3 y4)) (some (w.heap.size + 1 + 1)) := grown_trans (grown_set _ _ _ _) (grown_set _ _ _ _)
  refine ⟨⟨_, rfl, by subst h1; rw [Nat.gcd_zero_left]; exact (D.kept q (D.notin (nopair2 _ _ _ _) R1))⟩, S1.2.2.2.2.then_grown q (by rintro g ⟨⟩; omega)⟩
set_option maxRecDepth 100000 in
set_option maxHeartbeats 4000000 in
theorem natGcd_2 (w : World) (u v : Value) (n m K : Nat) (hu : Den w u n) (hv : Den w v m) (hn : (n : Int) < M.BB ^ K) (hm : (m : Int) < M.BB ^ K) (hK : K ≤ 4398046511104) (hT : Tab w) (hb : 18446744073709551616 ≤ n ∨ 18446744073709551616 ≤ m) (h1 : n ≠ 0) (h2 : m = 1) :
    Calls Tryz.prog 73 #[u, v] w fun e w' => (∃ r, e = .returned r ∧ Den w' r (Nat.gcd n m)) ∧ Below w.heap.size w w' := by
  obtain ⟨x1, x2, x3, x4, rfl⟩ := hu.shape2
  obtain ⟨y1, y2, y3, y4, rfl⟩ := hv.shape2
  have SH := hide (fun W hW => short_no W _ _ n m (hu.below hW) (hv.below hW) hb)
  go_enter Tryz.func73, Tryz.ntmps73
  have hH : ∀ o1 o2 o3, Below w.heap.size w (((w.alloc o1).alloc o2).alloc o3) := fun o1 o2 o3 => (alloc2_below w o1 o2).then_below (alloc_below _ o3)
  go_wp2_with fail
  refine (SH.out _ (hH _ _ _)).mono ?_
  rintro e w1 ⟨rfl, b1'⟩
  have S1 : w1.cell? ⟨w.heap.size, 0, none⟩ = some (.int .u64 x1) ∧ w1.cell? ⟨w.heap.size, 1, none⟩ = some (.slice x2 x3 x4) ∧ w1.cell? ⟨w.heap.size + 1, 0, none⟩ = some (.int .u64 y1) ∧ w1.cell? ⟨w.heap.size + 1, 1, none⟩ = some (.slice y2 y3 y4) ∧ Below w.heap.size w w1 := by
    obtain ⟨t1, t2, t3, t4⟩ := three_new w (.cells #[.int .u64 x1, .slice x2 x3 x4] 90) (.cells #[.int .u64 y1, .slice y2 y3 y4] 90) (.cells #[.int .u64 0, .slice none 0 0] 90)
    refine boxes_keep ⟨?_, ?_, ?_, ?_, hH _ _ _⟩ b1'
    · rw [cell_of_row _ _ 0 _ _ (0, 0) t1]; rfl
    · rw [cell_of_row _ _ 1 _ _ (0, 0) t1]; rfl
    · rw [cell_of_row _ _ 0 _ _ (0, 0) t2]; rfl
    · rw [cell_of_row _ _ 1 _ _ (0, 0) t2]; rfl
  have R1 : w1.heap[w.heap.size + 1 + 1]? = some (.cells #[.int .u64 0, .slice none 0 0] 90 (0, 0)) := by
    obtain ⟨t1, t2, t3, t4⟩ := three_new w (.cells #[.int .u64 x1, .slice x2 x3 x4] 90) (.cells #[.int .u64 y1, .slice y2 y3 y4] 90) (.cells #[.int .u64 0, .slice none 0 0] 90)
    rw [b1'.block _ (by rw [t4]; omega)]
    exact t3
  have rz := resBlock R1 (Below.refl _ _)
  have z0 := rz.1
  have z1 := rz.2.1
  have f0 := rz.2.2.1
  have f1 := rz.2.2.2
  clear rz
  clear hH SH
  have c1 := S1.1
  have c2 := S1.2.1
  have c3 := S1.2.2.1
  have c4 := S1.2.2.2.1
  go_wp2_with fail
  refine (isZero_calls _ _ n (hu.below S1.2.2.2.2)).mono ?_
  rintro e w2 ⟨rfl, b2⟩
  rw [decide_eq_false h1]
  replace S1 := boxes_keep S1 b2
  replace R1 := kept_block R1 b2
  clear c1 c2 c3 c4 z0 z1 f0 f1 b2
  try clear b1'
  clear w1
  rename World => w1
  have c1 := S1.1
  have c2 := S1.2.1
  have c3 := S1.2.2.1
  have c4 := S1.2.2.2.1
  have rz := resBlock R1 (Below.refl _ _)
  have z0 := rz.1
  have z1 := rz.2.1
  have f0 := rz.2.2.1
  have f1 := rz.2.2.2
  clear rz
  go_wp2_with fail
  refine (isOne_calls _ _ m (hv.below S1.2.2.2.2)).mono ?_
  rintro e w2 ⟨rfl, b2⟩
  rw [decide_eq_true h2]
  replace S1 := boxes_keep S1 b2
  replace R1 := kept_block R1 b2
  clear c1 c2 c3 c4 z0 z1 f0 f1 b2
  try clear b1'
  clear w1
  rename World => w1
  have c1 := S1.1
  have c2 := S1.2.1
  have c3 := S1.2.2.1
  have c4 := S1.2.2.2.1
  have rz := resBlock R1 (Below.refl _ _)
  have z0 := rz.1
  have z1 := rz.2.1
  have f0 := rz.2.2.1
  have f1 := rz.2.2.2
  clear rz
  go_wp2
  refine bodyPost_ret (v := .agg #[.int .u64 y1, .slice y2 y3 y4]) (by simp [results, Tryz.results73, go_sem, z0, z1]) rfl ?_
  have D := hv.below S1.2.2.2.2
  have q : w1.grownBy ((w1.setCell ⟨w.heap.size + 1 + 1, 0, none⟩ (.int .u64 y1)).setCell ⟨w.heap.size + 1 + 1, 1, none⟩ (.slice y2 y3 y4)) (some (w.heap.size + 1 + 1)) := grown_trans (grown_set _ _ _ _) (grown_set _ _ _ _)
  refine ⟨⟨_, rfl, by subst h2; rw [Nat.gcd_one_right]; exact (D.kept q (D.notin (nopair2 _ _ _ _) R1))⟩, S1.2.2.2.2.then_grown q (by rintro g ⟨⟩; omega)⟩
set_option maxRecDepth 100000 in
set_option maxHeartbeats 4000000 in
theorem natGcd_3 (w : World) (u v : Value) (n m K : Nat) (hu : Den w u n) (hv : Den w v m) (hn : (n : Int) < M.BB ^ K) (hm : (m : Int) < M.BB ^ K) (hK : K ≤ 4398046511104) (hT : Tab w) (hb : 18446744073709551616 ≤ n ∨ 18446744073709551616 ≤ m) (h1 : n ≠ 0) (h2 : m ≠ 1) (h3 : m = 0) :
    Calls Tryz.prog 73 #[u, v] w fun e w' => (∃ r, e = .returned r ∧ Den w' r (Nat.gcd n m)) ∧ Below w.heap.size w w' := by
  obtain ⟨x1, x2, x3, x4, rfl⟩ := hu.shape2
  obtain ⟨y1, y2, y3, y4, rfl⟩ := hv.shape2
  have SH := hide (fun W hW => short_no W _ _ n m (hu.below hW) (hv.below hW) hb)
  go_enter Tryz.func73, Tryz.ntmps73
  have hH : ∀ o1 o2 o3, Below w.heap.size w (((w.alloc o1).alloc o2).alloc o3) := fun o1 o2 o3 => (alloc2_below w o1 o2).then_below (alloc_below _ o3)
  go_wp2_with fail
  refine (SH.out _ (hH _ _ _)).mono ?_
  rintro e w1 ⟨rfl, b1'⟩
  have S1 : w1.cell? ⟨w.heap.size, 0, none⟩ = some (.int .u64 x1) ∧ w1.cell? ⟨w.heap.size, 1, none⟩ = some (.slice x2 x3 x4) ∧ w1.cell? ⟨w.heap.size + 1, 0, none⟩ = some (.int .u64 y1) ∧ w1.cell? ⟨w.heap.size + 1, 1, none⟩ = some (.slice y2 y3 y4) ∧ Below w.heap.size w w1 := by
    obtain ⟨t1, t2, t3, t4⟩ := three_new w (.cells #[.int .u64 x1, .slice x2 x3 x4] 90) (.cells #[.int .u64 y1, .slice y2 y3 y4] 90) (.cells #[.int .u64 0, .slice none 0 0] 90)
    refine boxes_keep ⟨?_, ?_, ?_, ?_, hH _ _ _⟩ b1'
    · rw [cell_of_row _ _ 0 _ _ (0, 0) t1]; rfl
    · rw [cell_of_row _ _ 1 _ _ (0, 0) t1]; rfl
    · rw [cell_of_row _ _ 0 _ _ (0, 0) t2]; rfl
    · rw [cell_of_row _ _ 1 _ _ (0, 0) t2]; rfl
  have R1 : w1.heap[w.heap.size + 1 + 1]? = some (.cells #[.int .u64 0, .slice none 0 0] 90 (0, 0)) := by
    obtain ⟨t1, t2, t3, t4⟩ := three_new w (.cells #[.int .u64 x1, .slice x2 x3 x4] 90) (.cells #[.int .u64 y1, .slice y2 y3 y4] 90) (.cells #[.int .u64 0, .slice none 0 0] 90)
    rw [b1'.block _ (by rw [t4]; omega)]
    exact t3
  have rz := resBlock R1 (Below.refl _ _)
  have z0 := rz.1
  have z1 := rz.2.1
  have f0 := rz.2.2.1
  have f1 := rz.2.2.2
  clear rz
  clear hH SH
  have c1 := S1.1
  have c2 := S1.2.1
  have c3 := S1.2.2.1
  have c4 := S1.2.2.2.1
  go_wp2_with fail
  refine (isZero_calls _ _ n (hu.below S1.2.2.2.2)).mono ?_
  rintro e w2 ⟨rfl, b2⟩
  rw [decide_eq_false h1]
  replace S1 := boxes_keep S1 b2
  replace R1 := kept_block R1 b2
  clear c1 c2 c3 c4 z0 z1 f0 f1 b2
  try clear b1'
  clear w1
  rename World => w1
  have c1 := S1.1
  have c2 := S1.2.1
  have c3 := S1.2.2.1
  have c4 := S1.2.2.2.1
  have rz := resBlock R1 (Below.refl _ _)
  have z0 := rz.1
  have z1 := rz.2.1
  have f0 := rz.2.2.1
  have f1 := rz.2.2.2
  clear rz
  go_wp2_with fail
  refine (isOne_calls _ _ m (hv.below S1.2.2.2.2)).mono ?_
  rintro e w2 ⟨rfl, b2⟩
  rw [decide_eq_false h2]
  replace S1 := boxes_keep S1 b2
  replace R1 := kept_block R1 b2
  clear c1 c2 c3 c4 z0 z1 f0 f1 b2
  try clear b1'
  clear w1
  rename World => w1
  have c1 := S1.1
  have c2 := S1.2.1
  have c3 := S1.2.2.1
  have c4 := S1.2.2.2.1
  have rz := resBlock R1 (Below.refl _ _)
  have z0 := rz.1
  have z1 := rz.2.1
  have f0 := rz.2.2.1
  have f1 := rz.2.2.2
  clear rz
  go_wp2_with fail
  refine (isZero_calls _ _ m (hv.below S1.2.2.2.2)).mono ?_
  rintro e w2 ⟨rfl, b2⟩
  rw [decide_eq_true h3]
  replace S1 := boxes_keep S1 b2
  replace R1 := kept_block R1 b2
  clear c1 c2 c3 c4 z0 z1 f0 f1 b2
  try clear b1'
  clear w1
  rename World => w1
  have c1 := S1.1
  have c2 := S1.2.1
  have c3 := S1.2.2.1
  have c4 := S1.2.2.2.1
  have rz := resBlock R1 (Below.refl _ _)
  have z0 := rz.1
  have z1 := rz.2.1
  have f0 := rz.2.2.1
  have f1 := rz.2.2.2
  clear rz
  go_wp2
  refine bodyPost_ret (v := .agg #[.int .u64 x1, .slice x2 x3 x4]) (by simp [results, Tryz.results73, go_sem, z0, z1]) rfl ?_
  have D := hu.below S1.2.2.2.2
  have q : w1.grownBy ((w1.setCell ⟨w.heap.size + 1 + 1, 0, none⟩ (.int .u64 x1)).setCell ⟨w.heap.size + 1 + 1, 1, none⟩ (.slice x2 x3 x4)) (some (w.heap.size + 1 + 1)) := grown_trans (grown_set _ _ _ _) (grown_set _ _ _ _)
  refine ⟨⟨_, rfl, by subst h3; rw [Nat.gcd_zero_right]; exact (D.kept q (D.notin (nopair2 _ _ _ _) R1))⟩, S1.2.2.2.2.then_grown q (by rintro g ⟨⟩; omega)⟩
set_option maxRecDepth 100000 in
set_option maxHeartbeats 4000000 in
theorem natGcd_4 (w : World) (u v : Value) (n m K : Nat) (hu : Den w u n) (hv : Den w v m) (hn : (n : Int) < M.BB ^ K) (hm : (m : Int) < M.BB ^ K) (hK : K ≤ 4398046511104) (hT : Tab w) (hb : 18446744073709551616 ≤ n ∨ 18446744073709551616 ≤ m) (h1 : n ≠ 0) (h2 : m ≠ 1) (h3 : m ≠ 0) (h4 : n = 1) :
    Calls Tryz.prog 73 #[u, v] w fun e w' => (∃ r, e = .returned r ∧ Den w' r (Nat.gcd n m)) ∧ Below w.heap.size w w' := by
  obtain ⟨x1, x2, x3, x4, rfl⟩ := hu.shape2
  obtain ⟨y1, y2, y3, y4, rfl⟩ := hv.shape2
  have SH := hide (fun W hW => short_no W _ _ n m (hu.below hW) (hv.below hW) hb)
  go_enter Tryz.func73, Tryz.ntmps73
  have hH : ∀ o1 o2 o3, Below w.heap.size w (((w.alloc o1).alloc o2).alloc o3) := fun o1 o2 o3 => (alloc2_below w o1 o2).then_below (alloc_below _ o3)
  go_wp2_with fail
  refine (SH.out _ (hH _ _ _)).mono ?_
  rintro e w1 ⟨rfl, b1'⟩
  have S1 : w1.cell? ⟨w.heap.size, 0, none⟩ = some (.int .u64 x1) ∧ w1.cell? ⟨w.heap.size, 1, none⟩ = some (.slice x2 x3 x4) ∧ w1.cell? ⟨w.heap.size + 1, 0, none⟩ = some (.int .u64 y1) ∧ w1.cell? ⟨w.heap.size + 1, 1, none⟩ = some (.slice y2 y3 y4) ∧ Below w.heap.size w w1 := by
    obtain ⟨t1, t2, t3, t4⟩ := three_new w (.cells #[.int .u64 x1, .slice x2 x3 x4] 90) (.cells #[.int .u64 y1, .slice y2 y3 y4] 90) (.cells #[.int .u64 0, .slice none 0 0] 90)
    refine boxes_keep ⟨?_, ?_, ?_, ?_, hH _ _ _⟩ b1'
    · rw [cell_of_row _ _ 0 _ _ (0, 0) t1]; rfl
    · rw [cell_of_row _ _ 1 _ _ (0, 0) t1]; rfl
    · rw [cell_of_row _ _ 0 _ _ (0, 0) t2]; rfl
    · rw [cell_of_row _ _ 1 _ _ (0, 0) t2]; rfl
  have R1 : w1.heap[w.heap.size + 1 + 1]? = some (.cells #[.int .u64 0, .slice none 0 0] 90 (0, 0)) := by
    obtain ⟨t1, t2, t3, t4⟩ := three_new w (.cells #[.int .u64 x1, .slice x2 x3 x4] 90) (.cells #[.int .u64 y1, .slice y2 y3 y4] 90) (.cells #[.int .u64 0, .slice none 0 0] 90)
    rw [b1'.block _ (by rw [t4]; omega)]
    exact t3
  have rz := resBlock R1 (Below.refl _ _)
  have z0 := rz.1
  have z1 := rz.2.1
  have f0 := rz.2.2.1
  have f1 := rz.2.2.2
  clear rz
  clear hH SH
  have c1 := S1.1
  have c2 := S1.2.1
  have c3 := S1.2.2.1
  have c4 := S1.2.2.2.1
  go_wp2_with fail
  refine (isZero_calls _ _ n (hu.below S1.2.2.2.2)).mono ?_
  rintro e w2 ⟨rfl, b2⟩
  rw [decide_eq_false h1]
  replace S1 := boxes_keep S1 b2
  replace R1 := kept_block R1 b2
  clear c1 c2 c3 c4 z0 z1 f0 f1 b2
  try clear b1'
  clear w1
  rename World => w1
  have c1 := S1.1
  have c2 := S1.2.1
  have c3 := S1.2.2.1
  have c4 := S1.2.2.2.1
  have rz := resBlock R1 (Below.refl _ _)
  have z0 := rz.1
  have z1 := rz.2.1
  have f0 := rz.2.2.1
  have f1 := rz.2.2.2
  clear rz
  go_wp2_with fail
  refine (isOne_calls _ _ m (hv.below S1.2.2.2.2)).mono ?_
  rintro e w2 ⟨rfl, b2⟩
  rw [decide_eq_false h2]
  replace S1 := boxes_keep S1 b2
  replace R1 := kept_block R1 b2
  clear c1 c2 c3 c4 z0 z1 f0 f1 b2
  try clear b1'
  clear w1
  rename World => w1
  have c1 := S1.1
  have c2 := S1.2.1
  have c3 := S1.2.2.1
  have c4 := S1.2.2.2.1
  have rz := resBlock R1 (Below.refl _ _)
  have z0 := rz.1
  have z1 := rz.2.1
  have f0 := rz.2.2.1
  have f1 := rz.2.2.2
  clear rz
  go_wp2_with fail
  refine (isZero_calls _ _ m (hv.below S1.2.2.2.2)).mono ?_
  rintro e w2 ⟨rfl, b2⟩
  rw [decide_eq_false h3]
  replace S1 := boxes_keep S1 b2
  replace R1 := kept_block R1 b2
  clear c1 c2 c3 c4 z0 z1 f0 f1 b2
  try clear b1'
  clear w1
  rename World => w1
  have c1 := S1.1
  have c2 := S1.2.1
  have c3 := S1.2.2.1
  have c4 := S1.2.2.2.1
  have rz := resBlock R1 (Below.refl _ _)
  have z0 := rz.1
  have z1 := rz.2.1
  have f0 := rz.2.2.1
  have f1 := rz.2.2.2
  clear rz
  go_wp2_with fail
  refine (isOne_calls _ _ n (hu.below S1.2.2.2.2)).mono ?_
  rintro e w2 ⟨rfl, b2⟩
  rw [decide_eq_true h4]
  replace S1 := boxes_keep S1 b2
  replace R1 := kept_block R1 b2
  clear c1 c2 c3 c4 z0 z1 f0 f1 b2
  try clear b1'
  clear w1
  rename World => w1
  have c1 := S1.1
  have c2 := S1.2.1
  have c3 := S1.2.2.1
  have c4 := S1.2.2.2.1
  have rz := resBlock R1 (Below.refl _ _)
  have z0 := rz.1
  have z1 := rz.2.1
  have f0 := rz.2.2.1
  have f1 := rz.2.2.2
  clear rz
  go_wp2
  refine bodyPost_ret (v := .agg #[.int .u64 x1, .slice x2 x3 x4]) (by simp [results, Tryz.results73, go_sem, z0, z1]) rfl ?_
  have D := hu.below S1.2.2.2.2
  have q : w1.grownBy ((w1.setCell ⟨w.heap.size + 1 + 1, 0, none⟩ (.int .u64 x1)).setCell ⟨w.heap.size + 1 + 1, 1, none⟩ (.slice x2 x3 x4)) (some (w.heap.size + 1 + 1)) := grown_trans (grown_set _ _ _ _) (grown_set _ _ _ _)
  refine ⟨⟨_, rfl, by subst h4; rw [Nat.gcd_one_left]; exact (D.kept q (D.notin (nopair2 _ _ _ _) R1))⟩, S1.2.2.2.2.then_grown q (by rintro g ⟨⟩; omega)⟩
set_option maxRecDepth 100000 in
set_option maxHeartbeats 4000000 in
theorem natGcd_5 (w : World) (u v : Value) (n m K : Nat) (hu : Den w u n) (hv : Den w v m) (hn : (n : Int) < M.BB ^ K) (hm : (m : Int) < M.BB ^ K) (hK : K ≤ 4398046511104) (hT : Tab w) (hb : 18446744073709551616 ≤ n ∨ 18446744073709551616 ≤ m) (h1 : n ≠ 0) (h2 : m ≠ 1) (h3 : m ≠ 0) (h4 : n ≠ 1) :
    Calls Tryz.prog 73 #[u, v] w fun e w' => (∃ r, e = .returned r ∧ Den w' r (Nat.gcd n m)) ∧ Below w.heap.size w w' := by
  obtain ⟨p1, p2, p3, p4, rfl⟩ := hu.shape2
  obtain ⟨q1, q2, q3, q4, rfl⟩ := hv.shape2
  have SH := hide (fun W hW => short_no W _ _ n m (hu.below hW) (hv.below hW) hb)
  go_enter Tryz.func73, Tryz.ntmps73
  have hH : ∀ o1 o2 o3, Below w.heap.size w (((w.alloc o1).alloc o2).alloc o3) := fun o1 o2 o3 => (alloc2_below w o1 o2).then_below (alloc_below _ o3)
  go_wp2_with fail
  refine (SH.out _ (hH _ _ _)).mono ?_
  rintro e w1 ⟨rfl, b1'⟩
  have S1 : w1.cell? ⟨w.heap.size, 0, none⟩ = some (.int .u64 p1) ∧ w1.cell? ⟨w.heap.size, 1, none⟩ = some (.slice p2 p3 p4) ∧ w1.cell? ⟨w.heap.size + 1, 0, none⟩ = some (.int .u64 q1) ∧ w1.cell? ⟨w.heap.size + 1, 1, none⟩ = some (.slice q2 q3 q4) ∧ Below w.heap.size w w1 := by
    obtain ⟨t1, t2, t3, t4⟩ := three_new w (.cells #[.int .u64 p1, .slice p2 p3 p4] 90) (.cells #[.int .u64 q1, .slice q2 q3 q4] 90) (.cells #[.int .u64 0, .slice none 0 0] 90)
    refine boxes_keep ⟨?_, ?_, ?_, ?_, hH _ _ _⟩ b1'
    · rw [cell_of_row _ _ 0 _ _ (0, 0) t1]; rfl
    · rw [cell_of_row _ _ 1 _ _ (0, 0) t1]; rfl
    · rw [cell_of_row _ _ 0 _ _ (0, 0) t2]; rfl
    · rw [cell_of_row _ _ 1 _ _ (0, 0) t2]; rfl
  have R1 : w1.heap[w.heap.size + 1 + 1]? = some (.cells #[.int .u64 0, .slice none 0 0] 90 (0, 0)) := by
    obtain ⟨t1, t2, t3, t4⟩ := three_new w (.cells #[.int .u64 p1, .slice p2 p3 p4] 90) (.cells #[.int .u64 q1, .slice q2 q3 q4] 90) (.cells #[.int .u64 0, .slice none 0 0] 90)
    rw [b1'.block _ (by rw [t4]; omega)]
    exact t3
  have rz := resBlock R1 (Below.refl _ _)
  have z0 := rz.1
  have z1 := rz.2.1
  have f0 := rz.2.2.1
  have f1 := rz.2.2.2
  clear rz
  clear hH SH
  have c1 := S1.1
  have c2 := S1.2.1
  have c3 := S1.2.2.1
  have c4 := S1.2.2.2.1
  go_wp2_with fail
  refine (isZero_calls _ _ n (hu.below S1.2.2.2.2)).mono ?_
  rintro e w2 ⟨rfl, b2⟩
  rw [decide_eq_false h1]
  replace S1 := boxes_keep S1 b2
  replace R1 := kept_block R1 b2
  clear c1 c2 c3 c4 z0 z1 f0 f1 b2
  try clear b1'
  clear w1
  rename World => w1
  have c1 := S1.1
  have c2 := S1.2.1
  have c3 := S1.2.2.1
  have c4 := S1.2.2.2.1
  have rz := resBlock R1 (Below.refl _ _)
  have z0 := rz.1
  have z1 := rz.2.1
  have f0 := rz.2.2.1
  have f1 := rz.2.2.2
  clear rz
  go_wp2_with fail
  refine (isOne_calls _ _ m (hv.below S1.2.2.2.2)).mono ?_
  rintro e w2 ⟨rfl, b2⟩
  rw [decide_eq_false h2]
  replace S1 := boxes_keep S1 b2
  replace R1 := kept_block R1 b2
  clear c1 c2 c3 c4 z0 z1 f0 f1 b2
  try clear b1'
  clear w1
  rename World => w1
  have c1 := S1.1
  have c2 := S1.2.1
  have c3 := S1.2.2.1
  have c4 := S1.2.2.2.1
  have rz := resBlock R1 (Below.refl _ _)
  have z0 := rz.1
  have z1 := rz.2.1
  have f0 := rz.2.2.1
  have f1 := rz.2.2.2
  clear rz
  go_wp2_with fail
  refine (isZero_calls _ _ m (hv.below S1.2.2.2.2)).mono ?_
  rintro e w2 ⟨rfl, b2⟩
  rw [decide_eq_false h3]
  replace S1 := boxes_keep S1 b2
  replace R1 := kept_block R1 b2
  clear c1 c2 c3 c4 z0 z1 f0 f1 b2
  try clear b1'
  clear w1
  rename World => w1
  have c1 := S1.1
  have c2 := S1.2.1
  have c3 := S1.2.2.1
  have c4 := S1.2.2.2.1
  have rz := resBlock R1 (Below.refl _ _)
  have z0 := rz.1
  have z1 := rz.2.1
  have f0 := rz.2.2.1
  have f1 := rz.2.2.2
  clear rz
  go_wp2_with fail
  refine (isOne_calls _ _ n (hu.below S1.2.2.2.2)).mono ?_
  rintro e w2 ⟨rfl, b2⟩
  rw [decide_eq_false h4]
  replace S1 := boxes_keep S1 b2
  replace R1 := kept_block R1 b2
  clear c1 c2 c3 c4 z0 z1 f0 f1 b2
  try clear b1'
  clear w1
  rename World => w1
  have c1 := S1.1
  have c2 := S1.2.1
  have c3 := S1.2.2.1
  have c4 := S1.2.2.2.1
  have rz := resBlock R1 (Below.refl _ _)
  have z0 := rz.1
  have z1 := rz.2.1
  have f0 := rz.2.2.1
  have f1 := rz.2.2.2
  clear rz
  clear z0 z1 f0 f1 c1 c2 c3 c4
  have D1 : Below w1.heap.size w1 w1.drew := (Below.refl _ _).drew
  have D0 : Below w.heap.size w w1.drew := S1.2.2.2.2.drew
  go_wp2_with fail
  go_region_held3
    (fun w' => w'.cell? ⟨w.heap.size, 0, none⟩ = some (.int .u64 p1) ∧ w'.cell? ⟨w.heap.size, 1, none⟩ = some (.slice p2 p3 p4) ∧ w'.cell? ⟨w.heap.size + 1, 0, none⟩ = some (.int .u64 q1) ∧ w'.cell? ⟨w.heap.size + 1, 1, none⟩ = some (.slice q2 q3 q4) ∧ Below w.heap.size w w')
    (first | (refine boxes_set (w := w) ?_ (Nat.le_refl _); assumption) | exact ⟨S1.1, S1.2.1, S1.2.2.1, S1.2.2.2.1, S1.2.2.2.2.drew⟩ | (refine boxes_keep (w := w) ?_ (by assumption); assumption) | (exact boxes_keep (w := w) ⟨by assumption, by assumption, by assumption, by assumption, by assumption⟩ (by assumption)))
    (first
      | (go_at_call_of 96 (Value.agg #[.int .u64 p1, .slice p2 p3 p4]); refine (digits_calls _ _ n (hu.below (by first | exact D0 | exact D0.then_below (by assumption) | exact (D0.then_below (by assumption)).then_below (by assumption)))).mono ?_; rintro e wa ⟨⟨ua, la, rfl, ra, da, ta, va⟩, ba⟩)
      | (go_at_call_of 96 (Value.agg #[.int .u64 q1, .slice q2 q3 q4]); refine (digits_calls _ _ m (hv.below (by first | exact D0 | exact D0.then_below (by assumption) | exact (D0.then_below (by assumption)).then_below (by assumption)))).mono ?_; rintro e wb ⟨⟨ub, lb, rfl, rb, db, tb, vb⟩, bb⟩)
      | (go_at_call 95; refine (gcdDigits_calls _ _ _ la lb (by first | exact ra | exact ra.below (by assumption)) (by first | exact rb | exact rb.below (by assumption)) da db ta tb (by have := len_of da ta va hn; omega) (by have := len_of db tb vb hm; omega) (hT.below ((D0.then_below (by assumption)).then_below (by assumption)))).mono ?_; rintro e wc ⟨⟨uc, lc, rfl, rc, dc, tc, vc⟩, bc⟩)
      | (go_at_call 94; refine (natOf_calls _ _ lc rc dc tc (Nat.gcd n m) (by rw [vc, va, vb]; rfl)).mono ?_; rintro e wd ⟨⟨ud, rfl, rd, sd⟩, bd⟩; obtain ⟨x1, x2, x3, x4, rfl⟩ := rd.shape2; have hw : Below w1.heap.size w1 wd := (by first | exact (((D1.then_below ba).then_below bb).then_below bc).then_below bd | exact (((D1.then_below bb).then_below ba).then_below bc).then_below bd); have rz := resBlock R1 hw; have z0 := rz.1; have z1 := rz.2.1; have f0 := rz.2.2.1; have f1 := rz.2.2.2; clear rz))
  go_wp2
  refine bodyPost_ret (v := .agg #[.int .u64 x1, .slice x2 x3 x4]) (by simp [results, Tryz.results73, go_sem, z0, z1]) rfl ?_
  have q : wd.grownBy ((wd.setCell ⟨w.heap.size + 1 + 1, 0, none⟩ (.int .u64 x1)).setCell ⟨w.heap.size + 1 + 1, 1, none⟩ (.slice x2 x3 x4)) (some (w.heap.size + 1 + 1)) := grown_trans (grown_set _ _ _ _) (grown_set _ _ _ _)
  refine ⟨⟨_, rfl, rd.kept q (rd.notin (nopair2 _ _ _ _) (by rw [hw.block _ (Array.getElem?_eq_some_iff.1 R1).1]; exact R1))⟩, (S1.2.2.2.2.then_below hw).then_grown q (by rintro g ⟨⟩; omega)⟩

set_option maxRecDepth 100000 in
set_option maxHeartbeats 2000000 in
theorem natGcd_word (w : World) (n m : Nat) (hn : n < 18446744073709551616) (hm : m < 18446744073709551616) (hT : Tab w) :
    Calls Tryz.prog 73 #[.agg #[.int .u64 n, .slice none 0 0], .agg #[.int .u64 m, .slice none 0 0]] w fun e w' => (∃ r, e = .returned r ∧ Den w' r (Nat.gcd n m)) ∧ Below w.heap.size w w' := by
  have SH := hide (fun W (_ : Below w.heap.size w W) => short_yes W n m)
  go_enter Tryz.func73, Tryz.ntmps73
  have hH : ∀ o1 o2 o3, Below w.heap.size w (((w.alloc o1).alloc o2).alloc o3) := fun o1 o2 o3 => (alloc2_below w o1 o2).then_below (alloc_below _ o3)
  go_wp2_with fail
  refine (SH.out _ (hH _ _ _)).mono ?_
  rintro e w1 ⟨rfl, b1'⟩
  have S1 : w1.cell? ⟨w.heap.size, 0, none⟩ = some (.int .u64 n) ∧ w1.cell? ⟨w.heap.size, 1, none⟩ = some (.slice none 0 0) ∧ w1.cell? ⟨w.heap.size + 1, 0, none⟩ = some (.int .u64 m) ∧ w1.cell? ⟨w.heap.size + 1, 1, none⟩ = some (.slice none 0 0) ∧ Below w.heap.size w w1 := by
    obtain ⟨t1, t2, t3, t4⟩ := three_new w (.cells #[.int .u64 n, .slice none 0 0] 90) (.cells #[.int .u64 m, .slice none 0 0] 90) (.cells #[.int .u64 0, .slice none 0 0] 90)
    refine boxes_keep ⟨?_, ?_, ?_, ?_, hH _ _ _⟩ b1'
    · rw [cell_of_row _ _ 0 _ _ (0, 0) t1]; rfl
    · rw [cell_of_row _ _ 1 _ _ (0, 0) t1]; rfl
    · rw [cell_of_row _ _ 0 _ _ (0, 0) t2]; rfl
    · rw [cell_of_row _ _ 1 _ _ (0, 0) t2]; rfl
  have R1 : w1.heap[w.heap.size + 1 + 1]? = some (.cells #[.int .u64 0, .slice none 0 0] 90 (0, 0)) := by
    obtain ⟨t1, t2, t3, t4⟩ := three_new w (.cells #[.int .u64 n, .slice none 0 0] 90) (.cells #[.int .u64 m, .slice none 0 0] 90) (.cells #[.int .u64 0, .slice none 0 0] 90)
    rw [b1'.block _ (by rw [t4]; omega)]
    exact t3
  have rz := resBlock R1 (Below.refl _ _)
  have z0 := rz.1
  have z1 := rz.2.1
  have f0 := rz.2.2.1
  have f1 := rz.2.2.2
  clear rz
  clear hH SH
  have c1 := S1.1
  have c2 := S1.2.1
  have c3 := S1.2.2.1
  have c4 := S1.2.2.2.1
  have q1 := hide (gcdWords_calls n m hn hm w1 (hT.below S1.2.2.2.2))
  go_wp2_with fail
  refine q1.out.mono ?_
  rintro e w2 ⟨rfl, hw2⟩
  rw [hw2]
  clear hw2 w2 q1
  go_wp2
  refine bodyPost_ret (v := .agg #[.int .u64 (((Nat.gcd n m : Nat) : Int)), .slice none 0 0]) (by simp [results, Tryz.results73, go_sem, z0, z1]) rfl ?_
  refine ⟨⟨_, rfl, den_word _ _ (by (by_cases h : n = 0; (subst h; simpa using hm); exact Nat.lt_of_le_of_lt (Nat.gcd_le_left m (Nat.pos_of_ne_zero h)) hn))⟩, S1.2.2.2.2.then_grown (r := some (w.heap.size + 1 + 1)) (grown_trans (grown_set _ _ _ _) (grown_set _ _ _ _)) (by rintro g ⟨⟩; omega)⟩
theorem natGcd_calls (w : World) (u v : Value) (n m K : Nat) (hu : Den w u n) (hv : Den w v m) (hn : (n : Int) < M.BB ^ K) (hm : (m : Int) < M.BB ^ K) (hK : K ≤ 4398046511104) (hT : Tab w) :
    Calls Tryz.prog 73 #[u, v] w fun e w' => (∃ r, e = .returned r ∧ Den w' r (Nat.gcd n m)) ∧ Below w.heap.size w w' := by
  by_cases hb : 18446744073709551616 ≤ n ∨ 18446744073709551616 ≤ m
  · by_cases h1 : n = 0
    · exact natGcd_1 w u v n m K hu hv hn hm hK hT hb h1
    by_cases h2 : m = 1
    · exact natGcd_2 w u v n m K hu hv hn hm hK hT hb h1 h2
    by_cases h3 : m = 0
    · exact natGcd_3 w u v n m K hu hv hn hm hK hT hb h1 h2 h3
    by_cases h4 : n = 1
    · exact natGcd_4 w u v n m K hu hv hn hm hK hT hb h1 h2 h3 h4
    · exact natGcd_5 w u v n m K hu hv hn hm hK hT hb h1 h2 h3 h4
  · obtain rfl := hu.word (by omega)
    obtain rfl := hv.word (by omega)
    exact natGcd_word w n m (by omega) (by omega) hT
end Go.Proofs.YtlepicdpelkmlaaGreatDoor
/- ==== NatDiv ==== -/
namespace Go.Proofs.YtlepicdpelkmlaaGreatDoor
open Go.RowKit
set_option linter.unusedVariables false

theorem four_new (w : World) (o1 o2 o3 o4 : Obj) : ((((w.alloc o1).alloc o2).alloc o3).alloc o4).heap[w.heap.size]? = some o1 ∧ ((((w.alloc o1).alloc o2).alloc o3).alloc o4).heap[w.heap.size + 1]? = some o2 ∧ ((((w.alloc o1).alloc o2).alloc o3).alloc o4).heap[w.heap.size + 1 + 1]? = some o3 ∧ ((((w.alloc o1).alloc o2).alloc o3).alloc o4).heap[w.heap.size + 1 + 1 + 1]? = some o4 ∧ ((((w.alloc o1).alloc o2).alloc o3).alloc o4).heap.size = w.heap.size + 4 := by
  obtain ⟨h1, h2, h3, h4⟩ := three_new w o1 o2 o3
  have b := alloc_below (((w.alloc o1).alloc o2).alloc o3) o4
  refine ⟨kept_block h1 b, kept_block h2 b, kept_block h3 b, ?_, ?_⟩
  · show (((((w.heap.push _).push _).push _).push _) : Array Obj)[_]? = _
    rw [Array.getElem?_push, if_pos (by simp only [Array.size_push])]
  · show (((((w.heap.push _).push _).push _).push _) : Array Obj).size = _
    simp only [Array.size_push]

theorem wrap_nat (x : Nat) (h : x < 18446744073709551616) : IntKind.u64.wrap (x : Int) = x := by rw [IntKind.wrap_u64]; omega
/-- Two results in their boxes. -/
theorem two_boxes {w w1 : World} {H : Nat} (x1 y1 : Int) (x2 y2 : Option Addr) (x3 x4 y3 y4 : Nat) {t t' : TypeId} (R : w1.heap[H]? = some (.cells #[.int .u64 0, .slice none 0 0] t (0, 0))) (Q : w1.heap[H + 1]? = some (.cells #[.int .u64 0, .slice none 0 0] t' (0, 0))) {p q : Nat}
    (hp : Den w1 (.agg #[.int .u64 x1, .slice x2 x3 x4]) p) (hq : Den w1 (.agg #[.int .u64 y1, .slice y2 y3 y4]) q) (b : Below w.heap.size w w1) (hH : w.heap.size ≤ H) :
    Den ((((w1.setCell ⟨H, 0, none⟩ (.int .u64 x1)).setCell ⟨H, 1, none⟩ (.slice x2 x3 x4)).setCell ⟨H + 1, 0, none⟩ (.int .u64 y1)).setCell ⟨H + 1, 1, none⟩ (.slice y2 y3 y4)) (.agg #[.int .u64 x1, .slice x2 x3 x4]) p ∧
    Den ((((w1.setCell ⟨H, 0, none⟩ (.int .u64 x1)).setCell ⟨H, 1, none⟩ (.slice x2 x3 x4)).setCell ⟨H + 1, 0, none⟩ (.int .u64 y1)).setCell ⟨H + 1, 1, none⟩ (.slice y2 y3 y4)) (.agg #[.int .u64 y1, .slice y2 y3 y4]) q ∧
    Below w.heap.size w ((((w1.setCell ⟨H, 0, none⟩ (.int .u64 x1)).setCell ⟨H, 1, none⟩ (.slice x2 x3 x4)).setCell ⟨H + 1, 0, none⟩ (.int .u64 y1)).setCell ⟨H + 1, 1, none⟩ (.slice y2 y3 y4)) := by
  have q1 : w1.grownBy ((w1.setCell ⟨H, 0, none⟩ (.int .u64 x1)).setCell ⟨H, 1, none⟩ (.slice x2 x3 x4)) (some H) := grown_trans (grown_set _ _ _ _) (grown_set _ _ _ _)
  have hp1 := hp.kept q1 (hp.notin (nopair2 _ _ _ _) R)
  have hq1 := hq.kept q1 (hq.notin (nopair2 _ _ _ _) R)
  have Q' : ((w1.setCell ⟨H, 0, none⟩ (.int .u64 x1)).setCell ⟨H, 1, none⟩ (.slice x2 x3 x4)).heap[H + 1]? = some (.cells #[.int .u64 0, .slice none 0 0] t' (0, 0)) := by
    rw [q1.block _ (Array.getElem?_eq_some_iff.1 Q).1 (by simp)]; exact Q
  generalize ((w1.setCell ⟨H, 0, none⟩ (.int .u64 x1)).setCell ⟨H, 1, none⟩ (.slice x2 x3 x4)) = w2 at *
  have q2 : w2.grownBy ((w2.setCell ⟨H + 1, 0, none⟩ (.int .u64 y1)).setCell ⟨H + 1, 1, none⟩ (.slice y2 y3 y4)) (some (H + 1)) := grown_trans (grown_set _ _ _ _) (grown_set _ _ _ _)
  refine ⟨hp1.kept q2 (hp1.notin (nopair2 _ _ _ _) Q'), hq1.kept q2 (hq1.notin (nopair2 _ _ _ _) Q'), (b.then_grown q1 (by rintro g ⟨⟩; omega)).then_grown q2 (by rintro g ⟨⟩; omega)⟩

set_option maxRecDepth 100000 in
set_option maxHeartbeats 4000000 in
theorem divMod_long (w : World) (u v : Value) (n m K : Nat) (hu : Den w u n) (hv : Den w v m) (hn : (n : Int) < M.BB ^ K) (hm0 : m ≠ 0) (hK : K ≤ 4398046511104) (hb : 18446744073709551616 ≤ n ∨ 18446744073709551616 ≤ m) :
    Calls Tryz.prog 97 #[u, v] w fun e w' => (∃ q r, e = .returned (.tuple #[q, r]) ∧ Den w' q (n / m) ∧ Den w' r (n % m)) ∧ Below w.heap.size w w' := by
  obtain ⟨a1, a2, rfl⟩ := hu.shape
  obtain ⟨b1, b2, rfl⟩ := hv.shape
  have SH := hide (fun W hW => short_no W _ _ n m (hu.below hW) (hv.below hW) hb)
  go_enter Tryz.func97, Tryz.ntmps97
  have hH : ∀ o1 o2 o3 o4, Below w.heap.size w ((((w.alloc o1).alloc o2).alloc o3).alloc o4) := fun o1 o2 o3 o4 => (alloc2_below w o1 o2).then_below (alloc2_below _ o3 o4)
  go_wp2_with fail
  refine (SH.out _ (hH _ _ _ _)).mono ?_
  rintro e w1 ⟨rfl, b1'⟩
  obtain ⟨t1, t2, t3, t4, t5⟩ := four_new w (.cells #[a1, a2] 90) (.cells #[b1, b2] 90) (.cells #[.int .u64 0, .slice none 0 0] 90) (.cells #[.int .u64 0, .slice none 0 0] 90)
  have S1 : w1.cell? ⟨w.heap.size, 0, none⟩ = some (a1) ∧ w1.cell? ⟨w.heap.size, 1, none⟩ = some (a2) ∧ w1.cell? ⟨w.heap.size + 1, 0, none⟩ = some (b1) ∧ w1.cell? ⟨w.heap.size + 1, 1, none⟩ = some (b2) ∧ Below w.heap.size w w1 := by
    refine boxes_keep ⟨?_, ?_, ?_, ?_, hH _ _ _ _⟩ b1'
    · rw [cell_of_row _ _ 0 _ _ (0, 0) t1]; rfl
    · rw [cell_of_row _ _ 1 _ _ (0, 0) t1]; rfl
    · rw [cell_of_row _ _ 0 _ _ (0, 0) t2]; rfl
    · rw [cell_of_row _ _ 1 _ _ (0, 0) t2]; rfl
  have R1 : w1.heap[w.heap.size + 1 + 1]? = some (.cells #[.int .u64 0, .slice none 0 0] 90 (0, 0)) := kept_block t3 b1'
  have Q1 : w1.heap[w.heap.size + 1 + 1 + 1]? = some (.cells #[.int .u64 0, .slice none 0 0] 90 (0, 0)) := kept_block t4 b1'
  clear hH SH t1 t2 t3 t4 t5
  have D1 : Below w1.heap.size w1 w1.drew := (Below.refl _ _).drew
  have D0 : Below w.heap.size w w1.drew := S1.2.2.2.2.drew
  go_wp2_with fail
  go_region_held3
    (fun w' => w'.cell? ⟨w.heap.size, 0, none⟩ = some (a1) ∧ w'.cell? ⟨w.heap.size, 1, none⟩ = some (a2) ∧ w'.cell? ⟨w.heap.size + 1, 0, none⟩ = some (b1) ∧ w'.cell? ⟨w.heap.size + 1, 1, none⟩ = some (b2) ∧ Below w.heap.size w w')
    (first | (refine boxes_set (w := w) ?_ (Nat.le_refl _); assumption) | exact ⟨S1.1, S1.2.1, S1.2.2.1, S1.2.2.2.1, S1.2.2.2.2.drew⟩ | (refine boxes_keep (w := w) ?_ (by assumption); assumption) | (exact boxes_keep (w := w) ⟨by assumption, by assumption, by assumption, by assumption, by assumption⟩ (by assumption)))
    (first
      | (go_at_call_of 96 (Value.agg #[a1, a2]); refine (digits_calls _ _ n (hu.below (by first | exact D0 | exact D0.then_below (by assumption) | exact (D0.then_below (by assumption)).then_below (by assumption)))).mono ?_; rintro e wa ⟨⟨ua, la, rfl, ra, da, ta, va⟩, ba⟩)
      | (go_at_call_of 96 (Value.agg #[b1, b2]); refine (digits_calls _ _ m (hv.below (by first | exact D0 | exact D0.then_below (by assumption) | exact (D0.then_below (by assumption)).then_below (by assumption)))).mono ?_; rintro e wb ⟨⟨ub, lb, rfl, rb, db, tb, vb⟩, bb⟩)
      | (go_at_call 118; refine (divDigits_calls _ _ _ la lb (by first | exact ra | exact ra.below (by assumption)) (by first | exact rb | exact rb.below (by assumption)) da db ta tb (by rintro rfl; simp [M.val] at vb; omega) (by have := len_of da ta va hn; omega)).mono ?_; rintro e wc ⟨⟨uq, ur, lq, lr, rfl, rq, rr, _, dq, tq, dr, tr, vq, vr⟩, bc⟩; have hw : Below w1.heap.size w1 wc := (by first | exact ((D1.then_below ba).then_below bb).then_below bc | exact ((D1.then_below bb).then_below ba).then_below bc)))
  rw [va, vb] at vq vr
  replace vq := hide vq
  replace vr := hide vr
  clear ba bb bc ra rb D1 D0
  go_wp2_with fail
  refine (natOf_calls _ _ lq rq dq tq (n / m) (by rw [vq.out]; omega)).mono ?_
  rintro e wd ⟨⟨ud, rfl, rd, _⟩, bd⟩
  obtain ⟨x1, x2, x3, x4, rfl⟩ := rd.shape2
  go_wp2_with fail
  refine (natOf_calls _ _ lr (rr.below bd) dr tr (n % m) (by rw [vr.out]; omega)).mono ?_
  rintro e we ⟨⟨ue, rfl, re, _⟩, be⟩
  obtain ⟨y1, y2, y3, y4, rfl⟩ := re.shape2
  replace rd := rd.below be
  replace R1 := kept_block (kept_block (kept_block R1 hw) bd) be
  replace Q1 := kept_block (kept_block (kept_block Q1 hw) bd) be
  have B1 := ((S1.2.2.2.2.then_below hw).then_below bd).then_below be
  clear S1 hw bd be rq rr
  have rz := resBlock R1 (Below.refl _ _)
  have z0 := rz.1
  have z1 := rz.2.1
  have f0 := rz.2.2.1
  have f1 := rz.2.2.2
  clear rz
  have rz := resBlock Q1 (Below.refl _ _)
  have q0 := rz.1
  have q1 := rz.2.1
  have g0 := rz.2.2.1
  have g1 := rz.2.2.2
  clear rz
  go_wp2
  refine bodyPost_ret (v := .tuple #[.agg #[.int .u64 x1, .slice x2 x3 x4], .agg #[.int .u64 y1, .slice y2 y3 y4]]) (by simp [results, Tryz.results97, go_sem, z0, z1, q0, q1]) rfl ?_
  obtain ⟨e1, e2, e3⟩ := two_boxes x1 y1 x2 y2 x3 x4 y3 y4 R1 Q1 rd re B1 (by omega)
  exact ⟨⟨_, _, rfl, e1, e2⟩, e3⟩

set_option maxRecDepth 100000 in
set_option maxHeartbeats 4000000 in
theorem divMod_word (w : World) (n m : Nat) (hn : n < 18446744073709551616) (hm : m < 18446744073709551616) (hm0 : m ≠ 0) :
    Calls Tryz.prog 97 #[.agg #[.int .u64 n, .slice none 0 0], .agg #[.int .u64 m, .slice none 0 0]] w fun e w' => (∃ q r, e = .returned (.tuple #[q, r]) ∧ Den w' q (n / m) ∧ Den w' r (n % m)) ∧ Below w.heap.size w w' := by
  have SH := hide (fun W (_ : Below w.heap.size w W) => short_yes W n m)
  go_enter Tryz.func97, Tryz.ntmps97
  have hH : ∀ o1 o2 o3 o4, Below w.heap.size w ((((w.alloc o1).alloc o2).alloc o3).alloc o4) := fun o1 o2 o3 o4 => (alloc2_below w o1 o2).then_below (alloc2_below _ o3 o4)
  go_wp2_with fail
  refine (SH.out _ (hH _ _ _ _)).mono ?_
  rintro e w1 ⟨rfl, b1'⟩
  obtain ⟨t1, t2, t3, t4, t5⟩ := four_new w (.cells #[.int .u64 n, .slice none 0 0] 90) (.cells #[.int .u64 m, .slice none 0 0] 90) (.cells #[.int .u64 0, .slice none 0 0] 90) (.cells #[.int .u64 0, .slice none 0 0] 90)
  have S1 : w1.cell? ⟨w.heap.size, 0, none⟩ = some (.int .u64 n) ∧ w1.cell? ⟨w.heap.size, 1, none⟩ = some (.slice none 0 0) ∧ w1.cell? ⟨w.heap.size + 1, 0, none⟩ = some (.int .u64 m) ∧ w1.cell? ⟨w.heap.size + 1, 1, none⟩ = some (.slice none 0 0) ∧ Below w.heap.size w w1 := by
    refine boxes_keep ⟨?_, ?_, ?_, ?_, hH _ _ _ _⟩ b1'
    · rw [cell_of_row _ _ 0 _ _ (0, 0) t1]; rfl
    · rw [cell_of_row _ _ 1 _ _ (0, 0) t1]; rfl
    · rw [cell_of_row _ _ 0 _ _ (0, 0) t2]; rfl
    · rw [cell_of_row _ _ 1 _ _ (0, 0) t2]; rfl
  have R1 : w1.heap[w.heap.size + 1 + 1]? = some (.cells #[.int .u64 0, .slice none 0 0] 90 (0, 0)) := kept_block t3 b1'
  have Q1 : w1.heap[w.heap.size + 1 + 1 + 1]? = some (.cells #[.int .u64 0, .slice none 0 0] 90 (0, 0)) := kept_block t4 b1'
  clear hH SH t1 t2 t3 t4 t5
  have c1 := S1.1
  have c2 := S1.2.1
  have c3 := S1.2.2.1
  have c4 := S1.2.2.2.1
  have rz := resBlock R1 (Below.refl _ _)
  have z0 := rz.1
  have z1 := rz.2.1
  have f0 := rz.2.2.1
  have f1 := rz.2.2.2
  clear rz
  have rz := resBlock Q1 (Below.refl _ _)
  have y0 := rz.1
  have y1 := rz.2.1
  have g0 := rz.2.2.1
  have g1 := rz.2.2.2
  clear rz
  have n0 : ¬ (m : Int) = 0 := by omega
  have k1 : n / m ≤ n := Nat.div_le_self n m
  have k2 : n % m < m := Nat.mod_lt _ (by omega)
  have u1 := wrap_nat (n / m) (by omega)
  have hp := den_word w1 (n / m) (by omega)
  have hq := den_word w1 (n % m) (by omega)
  rw [Int.natCast_ediv] at u1 hp
  rw [Int.natCast_emod] at hq
  replace k1 := hide k1
  replace k2 := hide k2
  go_wp2
  go_region
  go_wp2
  refine bodyPost_ret (v := .tuple #[.agg #[.int .u64 ((n : Int) / m), .slice none 0 0], .agg #[.int .u64 ((n : Int) % m), .slice none 0 0]]) (by simp [results, Tryz.results97, go_sem, z0, z1, y0, y1]) rfl ?_
  obtain ⟨e1, e2, e3⟩ := two_boxes ((n : Int) / m) ((n : Int) % m) none none 0 0 0 0 (w := w) (w1 := w1) (H := w.heap.size + 1 + 1) R1 Q1 hp hq S1.2.2.2.2 (by omega)
  exact ⟨⟨_, _, rfl, e1.below ((Below.refl _ _).drew), e2.below ((Below.refl _ _).drew)⟩, e3.drew⟩
theorem divMod_calls (w : World) (u v : Value) (n m K : Nat) (hu : Den w u n) (hv : Den w v m) (hn : (n : Int) < M.BB ^ K) (hm0 : m ≠ 0) (hK : K ≤ 4398046511104) :
    Calls Tryz.prog 97 #[u, v] w fun e w' => (∃ q r, e = .returned (.tuple #[q, r]) ∧ Den w' q (n / m) ∧ Den w' r (n % m)) ∧ Below w.heap.size w w' := by
  by_cases hb : 18446744073709551616 ≤ n ∨ 18446744073709551616 ≤ m
  · exact divMod_long w u v n m K hu hv hn hm0 hK hb
  · obtain rfl := hu.word (by omega)
    obtain rfl := hv.word (by omega)
    exact divMod_word w n m (by omega) (by omega) hm0

set_option maxRecDepth 100000 in
set_option maxHeartbeats 4000000 in
theorem over_one (w : World) (u v : Value) (n m : Nat) (hu : Den w u n) (hv : Den w v m) (hm : m = 1) :
    Calls Tryz.prog 74 #[u, v] w fun e w' => (∃ r, e = .returned r ∧ Den w' r n) ∧ Below w.heap.size w w' := by
  obtain ⟨x1, x2, x3, x4, rfl⟩ := hu.shape2
  obtain ⟨y1, y2, y3, y4, rfl⟩ := hv.shape2
  have SH := hide (fun W hW => isOne_calls W _ m (hv.below hW))
  go_enter Tryz.func74, Tryz.ntmps74
  have hH : ∀ o1 o2 o3, Below w.heap.size w (((w.alloc o1).alloc o2).alloc o3) := fun o1 o2 o3 => (alloc2_below w o1 o2).then_below (alloc_below _ o3)
  go_wp2_with fail
  refine (SH.out _ (hH _ _ _)).mono ?_
  rintro e w1 ⟨rfl, b1'⟩
  have S1 : w1.cell? ⟨w.heap.size, 0, none⟩ = some (.int .u64 x1) ∧ w1.cell? ⟨w.heap.size, 1, none⟩ = some (.slice x2 x3 x4) ∧ w1.cell? ⟨w.heap.size + 1, 0, none⟩ = some (.int .u64 y1) ∧ w1.cell? ⟨w.heap.size + 1, 1, none⟩ = some (.slice y2 y3 y4) ∧ Below w.heap.size w w1 := by
    obtain ⟨t1, t2, t3, t4⟩ := three_new w (.cells #[.int .u64 x1, .slice x2 x3 x4] 90) (.cells #[.int .u64 y1, .slice y2 y3 y4] 90) (.cells #[.int .u64 0, .slice none 0 0] 90)
    refine boxes_keep ⟨?_, ?_, ?_, ?_, hH _ _ _⟩ b1'
    · rw [cell_of_row _ _ 0 _ _ (0, 0) t1]; rfl
    · rw [cell_of_row _ _ 1 _ _ (0, 0) t1]; rfl
    · rw [cell_of_row _ _ 0 _ _ (0, 0) t2]; rfl
    · rw [cell_of_row _ _ 1 _ _ (0, 0) t2]; rfl
  have R1 : w1.heap[w.heap.size + 1 + 1]? = some (.cells #[.int .u64 0, .slice none 0 0] 90 (0, 0)) := by
    obtain ⟨t1, t2, t3, t4⟩ := three_new w (.cells #[.int .u64 x1, .slice x2 x3 x4] 90) (.cells #[.int .u64 y1, .slice y2 y3 y4] 90) (.cells #[.int .u64 0, .slice none 0 0] 90)
    rw [b1'.block _ (by rw [t4]; omega)]
    exact t3
  have rz := resBlock R1 (Below.refl _ _)
  have z0 := rz.1
  have z1 := rz.2.1
  have f0 := rz.2.2.1
  have f1 := rz.2.2.2
  clear rz
  clear hH SH
  have c1 := S1.1
  have c2 := S1.2.1
  have c3 := S1.2.2.1
  have c4 := S1.2.2.2.1
  rw [decide_eq_true hm]
  go_wp2
  refine bodyPost_ret (v := .agg #[.int .u64 x1, .slice x2 x3 x4]) (by simp [results, Tryz.results74, go_sem, z0, z1]) rfl ?_
  have D := hu.below S1.2.2.2.2
  have q : w1.grownBy ((w1.setCell ⟨w.heap.size + 1 + 1, 0, none⟩ (.int .u64 x1)).setCell ⟨w.heap.size + 1 + 1, 1, none⟩ (.slice x2 x3 x4)) (some (w.heap.size + 1 + 1)) := grown_trans (grown_set _ _ _ _) (grown_set _ _ _ _)
  refine ⟨⟨_, rfl, id (D.kept q (D.notin (nopair2 _ _ _ _) R1))⟩, S1.2.2.2.2.then_grown q (by rintro g ⟨⟩; omega)⟩
set_option maxRecDepth 100000 in
set_option maxHeartbeats 4000000 in
theorem over_more (w : World) (u v : Value) (n m K : Nat) (hu : Den w u n) (hv : Den w v m) (hn : (n : Int) < M.BB ^ K) (hm0 : m ≠ 0) (hm1 : m ≠ 1) (hK : K ≤ 4398046511104) :
    Calls Tryz.prog 74 #[u, v] w fun e w' => (∃ r, e = .returned r ∧ Den w' r (n / m)) ∧ Below w.heap.size w w' := by
  obtain ⟨x1, x2, x3, x4, rfl⟩ := hu.shape2
  obtain ⟨y1, y2, y3, y4, rfl⟩ := hv.shape2
  have SH := hide (fun W hW => isOne_calls W _ m (hv.below hW))
  go_enter Tryz.func74, Tryz.ntmps74
  have hH : ∀ o1 o2 o3, Below w.heap.size w (((w.alloc o1).alloc o2).alloc o3) := fun o1 o2 o3 => (alloc2_below w o1 o2).then_below (alloc_below _ o3)
  go_wp2_with fail
  refine (SH.out _ (hH _ _ _)).mono ?_
  rintro e w1 ⟨rfl, b1'⟩
  have S1 : w1.cell? ⟨w.heap.size, 0, none⟩ = some (.int .u64 x1) ∧ w1.cell? ⟨w.heap.size, 1, none⟩ = some (.slice x2 x3 x4) ∧ w1.cell? ⟨w.heap.size + 1, 0, none⟩ = some (.int .u64 y1) ∧ w1.cell? ⟨w.heap.size + 1, 1, none⟩ = some (.slice y2 y3 y4) ∧ Below w.heap.size w w1 := by
    obtain ⟨t1, t2, t3, t4⟩ := three_new w (.cells #[.int .u64 x1, .slice x2 x3 x4] 90) (.cells #[.int .u64 y1, .slice y2 y3 y4] 90) (.cells #[.int .u64 0, .slice none 0 0] 90)
    refine boxes_keep ⟨?_, ?_, ?_, ?_, hH _ _ _⟩ b1'
    · rw [cell_of_row _ _ 0 _ _ (0, 0) t1]; rfl
    · rw [cell_of_row _ _ 1 _ _ (0, 0) t1]; rfl
    · rw [cell_of_row _ _ 0 _ _ (0, 0) t2]; rfl
    · rw [cell_of_row _ _ 1 _ _ (0, 0) t2]; rfl
  have R1 : w1.heap[w.heap.size + 1 + 1]? = some (.cells #[.int .u64 0, .slice none 0 0] 90 (0, 0)) := by
    obtain ⟨t1, t2, t3, t4⟩ := three_new w (.cells #[.int .u64 x1, .slice x2 x3 x4] 90) (.cells #[.int .u64 y1, .slice y2 y3 y4] 90) (.cells #[.int .u64 0, .slice none 0 0] 90)
    rw [b1'.block _ (by rw [t4]; omega)]
    exact t3
  have rz := resBlock R1 (Below.refl _ _)
  have z0 := rz.1
  have z1 := rz.2.1
  have f0 := rz.2.2.1
  have f1 := rz.2.2.2
  clear rz
  clear hH SH
  have c1 := S1.1
  have c2 := S1.2.1
  have c3 := S1.2.2.1
  have c4 := S1.2.2.2.1
  rw [decide_eq_false hm1]
  go_wp2_with fail
  refine (divMod_calls _ _ _ n m K (hu.below S1.2.2.2.2) (hv.below S1.2.2.2.2) hn hm0 hK).mono ?_
  rintro e w2 ⟨⟨q, r, rfl, hq, hr⟩, b2⟩
  obtain ⟨p1, p2, p3, p4, rfl⟩ := hq.shape2
  obtain ⟨r1, r2, r3, r4, rfl⟩ := hr.shape2
  clear hr
  replace S1 := boxes_keep S1 b2
  replace R1 := kept_block R1 b2
  clear c1 c2 c3 c4 z0 z1 f0 f1 b2
  try clear b1'
  clear w1
  rename World => w1
  have c1 := S1.1
  have c2 := S1.2.1
  have c3 := S1.2.2.1
  have c4 := S1.2.2.2.1
  have rz := resBlock R1 (Below.refl _ _)
  have z0 := rz.1
  have z1 := rz.2.1
  have f0 := rz.2.2.1
  have f1 := rz.2.2.2
  clear rz
  have hb2 := alloc2_below w1 (.cells #[.int .u64 p1, .slice p2 p3 p4] 90) (.cells #[.int .u64 r1, .slice r2 r3 r4] 90)
  have rz := resBlock R1 hb2
  have v0 := rz.1
  have v1 := rz.2.1
  have h0 := rz.2.2.1
  have h1 := rz.2.2.2
  clear rz
  have R2 := hide (kept_block R1 hb2)
  have D := hq.below hb2
  have B2 := S1.2.2.2.2.then_below hb2
  go_wp2
  generalize ((w1.alloc (.cells #[.int .u64 p1, .slice p2 p3 p4] 90)).alloc (.cells #[.int .u64 r1, .slice r2 r3 r4] 90)) = w2 at *
  refine bodyPost_ret (v := .agg #[.int .u64 p1, .slice p2 p3 p4]) (by simp [results, Tryz.results74, go_sem, v0, v1]) rfl ?_
  have q : w2.grownBy ((w2.setCell ⟨w.heap.size + 1 + 1, 0, none⟩ (.int .u64 p1)).setCell ⟨w.heap.size + 1 + 1, 1, none⟩ (.slice p2 p3 p4)) (some (w.heap.size + 1 + 1)) := grown_trans (grown_set _ _ _ _) (grown_set _ _ _ _)
  exact ⟨⟨_, rfl, D.kept q (D.notin (nopair2 _ _ _ _) R2.out)⟩, B2.then_grown q (by rintro g ⟨⟩; omega)⟩
theorem over_calls (w : World) (u v : Value) (n m K : Nat) (hu : Den w u n) (hv : Den w v m) (hn : (n : Int) < M.BB ^ K) (hm0 : m ≠ 0) (hK : K ≤ 4398046511104) :
    Calls Tryz.prog 74 #[u, v] w fun e w' => (∃ r, e = .returned r ∧ Den w' r (n / m)) ∧ Below w.heap.size w w' := by
  by_cases h : m = 1
  · have := over_one w u v n m hu hv h
    subst h
    rw [Nat.div_one]
    exact this
  · exact over_more w u v n m K hu hv hn hm0 h hK
end Go.Proofs.YtlepicdpelkmlaaGreatDoor
