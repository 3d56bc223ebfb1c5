/-
  The document's side (arbiterref1): Decimal.
-/
import Derived.Test.YtebnjolkolobhaaGreatDoorRefStrip
import Derived.Test.YtebnjolkolobhaaGreatDoorRefB
import Derived.Test.YtebnjolkolobhaaGreatDoorRefE
import Derived.Test.YtebnjolkolobhaaGreatDoorRefD
import Derived.Test.YtebnjolkolobhaaGreatDoorDecPure
/- ==== RefDec ==== -/
namespace Go.Proofs.YtebnjolkolobhaaGreatDoor
open Go.RowKit
set_option linter.unusedVariables false
theorem cmp_one {n : Nat} : (M.cmp (n : Int) ((Int.toNat 1 : Nat) : Int) = 0) ↔ n = 1 := by
  have e1 : ((Int.toNat 1 : Nat) : Int) = 1 := by decide
  rw [e1]
  unfold M.cmp
  split
  · omega
  · split <;> omega
theorem can_bd2 {l : List UInt8} (h : CanT l) {K : Nat} (hK : l.length + 1 ≤ K) : ((M.dec (cup l) : Nat) : Int) < M.NB ^ K ∧ ((M.dec (clow l) : Nat) : Int) < M.NB ^ K ∧ 0 < M.dec (clow l) := by
  have ht : (Lib.trimPrefix l [45]).length ≤ l.length := by unfold Lib.trimPrefix; split <;> simp
  have h1 := cut_le1 (Lib.trimPrefix l [45])
  have h2 := cut_le2 (Lib.trimPrefix l [45])
  have h3 : (cup l).length ≤ K := by unfold cup; omega
  have h4 : (clow l).length ≤ K := by
    unfold clow
    split
    · omega
    · simp; omega
  have hl := can_low h
  exact ⟨dec_NB h.1.1.2 h3, dec_NB hl.1.1.2 h4, Nat.pos_of_ne_zero (fun e => hl.2 ((dec_zero hl.1).1 e))⟩
/-- The zeros ahead, one by one. -/
def Zer (T : List UInt8) (P : Nat) (l : List UInt8) : Prop := ∃ j, l = List.replicate j 48 ++ T ∧ (j = 0 ∨ j + T.length ≤ P + 1)
theorem Zer.begin (T : List UInt8) (P : Nat) : Zer T P T := ⟨0, rfl, .inl rfl⟩
theorem Zer.more {T l : List UInt8} {P : Nat} (h : Zer T P l) (hl : l.length ≤ P) : Zer T P (48 :: l) := by
  obtain ⟨j, rfl, -⟩ := h
  rw [List.length_append, List.length_replicate] at hl
  exact ⟨j + 1, by rw [List.replicate_succ]; rfl, .inr (by omega)⟩
theorem Zer.done {T l : List UInt8} {P : Nat} (h : Zer T P l) (hl : ¬ l.length ≤ P) : l = padB T P := by
  obtain ⟨j, rfl, hj⟩ := h
  rw [List.length_append, List.length_replicate] at hl
  unfold padB
  rcases hj with rfl | hj
  · rw [if_neg (by omega)]; rfl
  · by_cases hT : T.length ≤ P
    · rw [if_pos hT]
      have : j = P + 1 - T.length := by omega
      rw [this]
    · rw [if_neg hT]
      have : j = 0 := by omega
      rw [this]; rfl
theorem Zer.len {T l : List UInt8} {P : Nat} (h : Zer T P l) : l.length ≤ T.length + P + 1 := by
  obtain ⟨j, rfl, hj⟩ := h
  rw [List.length_append, List.length_replicate]
  omega
theorem tenK {n K i P : Nat} (h : (n : Int) < M.NB ^ K) (hi : i ≤ P) : ((n * 10 ^ i : Nat) : Int) < M.NB ^ (K + (P + 1)) := by
  rw [Int.natCast_mul, Int.pow_add]
  have h1 := ten_NB i (P + 1) (by omega)
  exact Int.lt_of_le_of_lt (Int.mul_le_mul_of_nonneg_left (Int.le_of_lt h1) (Int.natCast_nonneg _)) (Int.mul_lt_mul_of_pos_right h (Int.pow_pos M.NB_pos))
/-- The tail: zeros ahead, the point, the sign. -/
def decS (neg : Bool) (T : List UInt8) (P : Nat) : List UInt8 := negB neg ++ pointB T P
theorem tup3_eq {s : ByteArray} {l : List UInt8} {c : Int} (h : s.data.toList = l) : Ending.returned (.tuple #[.string s, .int .i64 c]) = .returned (.tuple #[.string ⟨l.toArray⟩, .int .i64 c]) := by
  subst h
  rfl
set_option maxRecDepth 100000 in
set_option maxHeartbeats 8000000 in
theorem rdecimal_calls (w : World) (s : ByteArray) (l : List UInt8) (hs : s.data.toList = l) (hl : l.length ≤ 1048577)
    (t f r1 r2 : Nat) (hst : CanT l → M.IsStrip 2 (M.dec (clow l)) t r1 ∧ M.IsStrip 5 r1 f r2) (htf : CanT l → t ≤ 67108992 ∧ f ≤ 67108992 ∧ 0 < r1 ∧ r1 ≤ M.dec (clow l) ∧ 0 < r2) (k : Bool) (hk : k = true ↔ CanT l) :
    Calls Tryz.prog 22 #[.string s] w fun e w' => e = .returned (.tuple #[.string ⟨(if k then decO (cneg l) (M.dec (cup l)) t f r2 else ([], 1)).1.toArray⟩, .int .i64 (if k then decO (cneg l) (M.dec (cup l)) t f r2 else ([], 1)).2]) ∧ Below w.heap.size w w' := by
  have q0 := rof_calls w s l hs (by omega)
  cases k with
  | false =>
    have hn : ¬ CanT l := fun c => by have := hk.2 c; cases this
    have q1 := hide (q0.mono (fun e w' ⟨⟨_, h2⟩, h3⟩ => (⟨h2 hn, h3⟩ : e = Ending.returned (.tuple #[.agg #[.bool false, .slice none 0 0, .slice none 0 0], .bool false]) ∧ Below w.heap.size w w')))
    rw [if_neg (by simp)]
    clear q0 hst htf hk hn hs
    go_enter Tryz.func22, Tryz.ntmps22
    go_wp2_with fail
    refine q1.out.mono ?_
    rintro e w1 ⟨rfl, b1⟩
    replace b1 := hide b1
    go_wp2_with fail
    go_ret2
    exact ⟨rfl, b1.out.then_below (alloc_below w1 _)⟩
  | true =>
    have hc : CanT l := hk.1 rfl
    have q1 := hide (q0.mono (fun e w' ⟨⟨h1, _⟩, h3⟩ => (⟨h1 hc, h3⟩ : (∃ v, e = Ending.returned (.tuple #[v, .bool true]) ∧ RR w' v (cneg l) (M.dec (cup l)) (M.dec (clow l))) ∧ Below w.heap.size w w')))
    obtain ⟨hs1, hs2⟩ := hst hc
    obtain ⟨tb, fb, t3, t2, f3⟩ := htf hc
    obtain ⟨kn, kd, dl0⟩ := can_bd2 hc (K := l.length + 1) (by omega)
    obtain ⟨K, hKe⟩ : ∃ K, l.length + 1 = K := ⟨_, rfl⟩
    have hK : K ≤ 1048578 ∧ 1 ≤ K := by omega
    rw [hKe] at kn kd
    rw [if_pos rfl]
    generalize M.dec (cup l) = n at *
    generalize M.dec (clow l) = d at *
    generalize cneg l = s' at *
    have k1 : ((r1 : Nat) : Int) < M.NB ^ K := by refine Int.lt_of_le_of_lt ?_ kd; exact_mod_cast t2
    obtain ⟨P, hPP⟩ : ∃ P, max t f = P := ⟨_, rfl⟩
    have hP1 : t ≤ P ∧ f ≤ P ∧ P ≤ 67108992 := by omega
    obtain ⟨K2, hK2e⟩ : ∃ K2, K + (P + 1) = K2 := ⟨_, rfl⟩
    have hK2 : K2 ≤ 140000000 ∧ 1 ≤ K2 := by omega
    have tk : Hid (∀ i, i ≤ P → ((n * 10 ^ i : Nat) : Int) < M.NB ^ K2) := fun i hi => by rw [← hK2e]; exact tenK kn hi
    have t10 : ((10 : Nat) : Int) < M.NB ^ K2 := by
      have h1 : M.NB ^ 1 ≤ M.NB ^ K2 := M.pow_le M.NB_pos hK2.2
      have h2 : M.NB ^ 1 = 1000000000 := by decide
      omega
    have kd2 : ((d : Nat) : Int) < M.NB ^ K2 := Int.lt_of_lt_of_le kd (M.pow_le M.NB_pos (by omega))
    have dv : Hid (r2 = 1 → n * 10 ^ P / d = n * (2 ^ (P - t) * 5 ^ (P - f))) := fun h => by
      have e : d = 2 ^ t * 5 ^ f := by rw [hs1.1, hs2.1, h, Nat.mul_one]
      rw [e, ← hPP]
      exact M.over_ten n t f
    have q2 := hide (fun W v (h : RN W v d) => rstrip_calls W v d 2 K t r1 h (by decide) (by decide) kd (by omega) hK.2 hs1 t3 (by omega))
    have q5 := hide (fun W v (h : RN W v r1) => rstrip_calls W v r1 5 K f r2 h (by decide) (by decide) k1 (by omega) hK.2 hs2 f3 (by omega))
    have dz := hide dl0
    clear q0 hst htf hk hs hs1 hs2 hKe k1 kn kd hK2e t3 t2 f3 hc
    go_enter Tryz.func22, Tryz.ntmps22
    go_wp2_with fail
    refine q1.out.mono ?_
    rintro e w1 ⟨⟨v, rfl, hr⟩, b1⟩
    obtain ⟨na, nl, nc, da, dl, dc, rfl, hN, hD⟩ := hr
    have BX := alloc_below w1 (.cells #[.bool s', .slice na nl nc, .slice da dl dc] 59)
    have PX := hide (heap_alloc_new w1 (.cells #[.bool s', .slice na nl nc, .slice da dl dc] 59))
    have HN := hide (hN.below BX)
    have HD := hide (hD.below BX)
    have D1 := hide (b1.then_below BX)
    clear q1 b1 hN hD BX
    go_upto_region 4 with fail
    generalize hw2 : w1.alloc (.cells #[.bool s', .slice na nl nc, .slice da dl dc] 59) = w2 at *
    replace hw2 := hide hw2
    obtain ⟨z0, z1, z2, -, -, -⟩ := box3 PX.out
    have q := hide (q2.out w2 _ HD.out)
    clear q2
    go_wp2_with fail
    refine q.out.mono ?_
    rintro e w3 ⟨⟨v3, rfl, h3⟩, b3⟩
    obtain ⟨a1, a2, a3, rfl, -⟩ := h3.form
    have q := hide (q5.out w3 _ h3)
    have B3 := hide b3
    clear q5 b3 h3
    go_wp2_with fail
    refine q.out.mono ?_
    rintro e w4 ⟨⟨v4, rfl, h4⟩, b4⟩
    obtain ⟨c1, c2, c3, rfl, -⟩ := h4.form
    have B4 := hide (B3.out.then_below b4)
    replace h4 := hide h4
    clear q B3 b4
    go_wp2_with fail
    refine (natInt_calls _ 1 (by decide) (by decide)).mono ?_
    rintro e w5 ⟨⟨v5, rfl, h5⟩, b5⟩
    obtain ⟨d1, d2, d3, rfl, -⟩ := h5.form
    obtain ⟨cc, hcc⟩ : ∃ c, M.cmp (r2 : Int) ((Int.toNat 1 : Nat) : Int) = c := ⟨_, rfl⟩
    have q := cmpRN w5 _ _ r2 _ (h4.out.below b5) h5
    rw [hcc] at q
    have B5 := hide (B4.out.then_below b5)
    replace q := hide q
    clear h4 h5 b5 B4
    by_cases hr : r2 = 1
    · obtain rfl : cc = 0 := by rw [← hcc]; exact cmp_one.2 hr
      subst hr
      have dv1 := hide (dv.out rfl)
      clear hcc dv
      go_wp2_with fail
      refine q.out.mono ?_
      rintro e w6 ⟨rfl, b6⟩
      have B6 := hide (B5.out.then_below b6)
      clear q B5 b6
      go_upto_if 39 with fail
      go_cut [10] (fun sx wx => sx = .int .i64 (P : Int) ∧ wx = w6)
      case first =>
        by_cases hft : t < f
        · have hfti : (t : Int) < f := by omega
          obtain rfl : P = f := by omega
          go_wp2_with fail
          go_meet
          exact ⟨rfl, rfl⟩
        · have hfti : ¬ (t : Int) < f := by omega
          obtain rfl : P = t := by omega
          go_wp2_with fail
          go_meet
          exact ⟨rfl, rfl⟩
      case rest =>
      obtain ⟨rfl, hw6⟩ := hcut
      replace hw6 := hw6.symm
      subst hw6
      have PX6 := hide (kept_block PX.out B6.out)
      have HN6 : Hid (RN w6 (.slice na nl nc) (n * 10 ^ 0)) := by show RN _ _ _; rw [Nat.pow_zero, Nat.mul_one]; exact HN.out.below B6.out
      have HD6 := hide (HD.out.below B6.out)
      have D6 := hide (D1.out.then_below B6.out)
      have R6 : Hid (Below w6.heap.size w6 w6) := Below.refl _ _
      have fit : Hid (decO s' n t f 1 = (negB s' ++ pointB (Lib.decDigits (n * 10 ^ P / d)) P, 0)) := by
        show decO s' n t f 1 = _
        unfold decO
        rw [if_pos rfl, hPP, ← dv1.out]
      have hq2 : ((n * 10 ^ P / d : Nat) : Int) < M.NB ^ K2 := div_NB (tk.out P (Nat.le_refl _))
      have ln := rdig_len hq2
      obtain ⟨T, hT⟩ : ∃ T, Lib.decDigits (n * 10 ^ P / d) = T := ⟨_, rfl⟩
      rw [hT] at ln fit
      have hTl : T.length ≤ 1260000001 := by omega
      have hT1 : 0 < T.length := List.length_pos_iff.2 (by rw [← hT]; exact M.decDigits_ne _)
      have hTh := hide hT
      replace hq2 := hide hq2
      clear PX HN HD D1 B6 dv1 z0 z1 z2 hw2 ln hT
      obtain ⟨z0, z1, z2, -, -, -⟩ := box3 PX6.out
      have t10h := hide t10
      go_upto_region 12 with fail
      go_wp2_with fail
      go_loopw [11, 12] (fun v i wr => ∃ (k : Nat) (a1 : Option Addr) (a2 a3 : Nat), v = .slice a1 a2 a3 ∧ i = .int .i64 (k : Int) ∧ k ≤ P ∧ Hid (RN wr (.slice a1 a2 a3) (n * 10 ^ k)) ∧ Hid (Below w6.heap.size w6 wr)) (fun _ i _ => P - (intOf i).toNat)
      case atStart => exact ⟨0, na, nl, nc, rfl, rfl, Nat.zero_le _, HN6, R6⟩
      case round =>
        clear HN6 R6 z0 z1 z2
        obtain ⟨k, a1, a2, a3, rfl, rfl, hk, HA, HB⟩ := hrel
        by_cases hlt : k < P
        · have hki : (k : Int) < P := by omega
          have e10 : n * 10 ^ k * ((10 : Int).toNat) = n * 10 ^ (k + 1) := by rw [Nat.pow_succ]; show n * 10 ^ k * 10 = _; rw [Nat.mul_assoc]
          have t10' : (((10 : Int).toNat : Nat) : Int) < M.NB ^ K2 := t10h.out
          have tkk := tk.out k (by omega)
          replace e10 := hide e10
          go_wp2_with fail
          refine (natInt_calls _ 10 (by decide) (by decide)).mono ?_
          rintro e w7 ⟨⟨v7, rfl, h7⟩, b7⟩
          obtain ⟨g1, g2, g3, rfl, -⟩ := h7.form
          have q := hide (mulRN w7 _ _ (n * 10 ^ k) _ K2 (HA.out.below b7) h7 tkk t10' (by omega))
          rw [e10.out] at q
          have B7 := hide (HB.out.then_below b7)
          clear h7 b7 HA HB tkk t10'
          go_wp2_with fail
          refine q.out.mono ?_
          rintro e w8 ⟨⟨v8, rfl, h8⟩, b8⟩
          obtain ⟨i1, i2, i3, rfl, -⟩ := h8.form
          have h8h := hide h8
          have B8 := hide (B7.out.then_below b8)
          clear q h8 b8 B7
          go_wp2_with fail
          go_roundw
          case rel => exact ⟨k + 1, i1, i2, i3, rfl, by go_num, by omega, h8h, B8⟩
          case measure => simp [intOf]; omega
        · obtain rfl : k = P := by omega
          have PX7 := hide (kept_block PX6.out HB.out)
          have q := hide (rdiv_calls wr _ _ (n * 10 ^ k) d K2 HA.out (HD6.out.below HB.out) dz.out (tk.out k (Nat.le_refl _)) kd2 (by omega) hK2.2)
          obtain ⟨z0, z1, z2, -, -, -⟩ := box3 PX7.out
          go_wp2_with fail
          refine q.out.mono ?_
          rintro e w8 ⟨⟨vq, vr, rfl, h8, -⟩, b8⟩
          obtain ⟨i1, i2, i3, rfl, -⟩ := h8.form
          have q := hide (rnatText_calls w8 _ (n * 10 ^ k / d) K2 h8 hq2.out (by omega))
          rw [hTh.out] at q
          have B8 := hide (HB.out.then_below b8)
          clear HA HB h8 b8 PX7 z0 z1 z2
          obtain ⟨S0, hS0⟩ : ∃ S : ByteArray, (⟨T.toArray⟩ : ByteArray) = S := ⟨_, rfl⟩
          have hS0l : Hid (Zer T k S0.data.toList) := by rw [← hS0]; exact Zer.begin T k
          rw [hS0] at q
          clear hS0
          go_wp2_with fail
          refine q.out.mono ?_
          rintro e w9 ⟨rfl, b9⟩
          have PX9 := hide (kept_block PX6.out (B8.out.then_below b9))
          have D9 := hide ((D6.out.then_below B8.out).then_below b9)
          clear q b9 B8 HD6 PX6 D6
          go_wp2_with fail
          go_loop [13] (fun v => ∃ S : ByteArray, v = .string S ∧ Hid (Zer T k S.data.toList)) (fun v => match v with | .string S => k + 1 - S.size | _ => 0)
          case atStart => exact ⟨S0, rfl, hS0l⟩
          case round =>
            obtain ⟨S, rfl, HS⟩ := hrel
            have zl := HS.out.len
            have hsz : S.size = S.data.toList.length := size_of S _ rfl
            have ms : S.size ≤ 1400000000 := by omega
            by_cases hle : S.size ≤ k
            · have hlei : (S.size : Int) ≤ k := by omega
              have HS2 : Hid (Zer T k ((⟨#[48]⟩ : ByteArray) ++ S).data.toList) := by
                show Zer _ _ _
                rw [ByteArray.data_append, Array.toList_append]
                exact HS.out.more (by omega)
              have hz2 : ((⟨#[48]⟩ : ByteArray) ++ S).size = S.size + 1 := by
                rw [ByteArray.size_append]
                show 1 + S.size = _
                omega
              obtain ⟨S2, hS2e⟩ : ∃ x, ((⟨#[48]⟩ : ByteArray) ++ S) = x := ⟨_, rfl⟩
              rw [hS2e] at HS2 hz2
              have hz3 := hide (And.intro hz2 hle)
              clear hz2 hle hsz zl HS
              go_wp2_with fail
              go_round
              case rel => exact ⟨S2, rfl, HS2⟩
              case measure =>
                have h1 := hz3.out.1
                have h2 := hz3.out.2
                simp only
                omega
            · have hlei : ¬ (S.size : Int) ≤ k := by omega
              have eT := HS.out.done (by omega)
              have hNz : S.size = (padB T k).length := by rw [hsz, eT]
              have eTh := hide eT
              obtain ⟨N, hN⟩ : ∃ N, S.size = N := ⟨_, rfl⟩
              have hpb := padB_len T k
              rw [← hNz, hN] at hpb
              have hlei2 : ¬ (N : Int) ≤ k := by omega
              have fit2 := hide fit.out
              obtain ⟨y0, y1, y2, -, -, -⟩ := box3 PX9.out
              by_cases hk0 : k = 0
              · have fz : Hid (pointB T k = S.data.toList ++ [46, 48]) := by show _ = _; unfold pointB; rw [if_pos hk0, eT]; unfold padB; rw [if_neg (by omega)]
                have hk0i : (k : Int) = 0 := by omega
                obtain ⟨S2, hS2e⟩ : ∃ x, S ++ (⟨#[46, 48]⟩ : ByteArray) = x := ⟨_, rfl⟩
                have fs : Hid (S2.data.toList = pointB T k) := by show _ = _; rw [fz.out, ← hS2e, ByteArray.data_append, Array.toList_append]
                have m2 : S2.size ≤ 1400000002 := by rw [← hS2e, ByteArray.size_append]; show S.size + 2 ≤ _; omega
                replace hS2e := hide hS2e
                clear hS0l hpb hNz eT hsz zl HS hlei hle
                cases s' with
                | false =>
                  have fb : Hid (decO false n t f 1 = (pointB T k, 0)) := by show _ = _; rw [fit2.out]; rfl
                  go_wp2_with fail
                  go_ret2
                  refine ⟨?_, D9.out⟩
                  rw [fb.out]
                  exact tup3_eq (by rw [hS2e.out]; exact fs.out)
                | true =>
                  have fb : Hid (decO true n t f 1 = ([45] ++ pointB T k, 0)) := by show _ = _; rw [fit2.out]; rfl
                  go_wp2_with fail
                  go_ret2
                  refine ⟨?_, D9.out⟩
                  rw [fb.out]
                  exact tup3_eq (by rw [ByteArray.data_append, Array.toList_append]; exact congrArg _ (by rw [hS2e.out]; exact fs.out))
              · have hk0i : ¬ (k : Int) = 0 := by omega
                have s1 := fun W => run_front S (N - k) ((N : Int) - k) (by omega) (by rw [hN]; omega) (by omega) W
                have s2 := fun W => run_from S N (N - k) ((N : Int) - k) hN (by omega) (by omega) (by omega) W
                have hcn : IntKind.i64.wrap ((N : Int) - k) = (N : Int) - k := by rw [IntKind.wrap_i64]; omega
                obtain ⟨U1, hU1⟩ : ∃ U, S.extract 0 (N - k) = U := ⟨_, rfl⟩
                obtain ⟨U2, hU2⟩ : ∃ U, S.extract (N - k) N = U := ⟨_, rfl⟩
                have mu1 : U1.size ≤ 2200000000 := by rw [← hU1]; simp; omega
                have mu2 : U2.size ≤ 2200000000 := by rw [← hU2]; simp; omega
                rw [hU1] at s1
                rw [hU2] at s2
                obtain ⟨S2, hS2e⟩ : ∃ x, U1 ++ (⟨#[46]⟩ : ByteArray) ++ U2 = x := ⟨_, rfl⟩
                have fs : Hid (S2.data.toList = pointB T k) := by
                  show _ = _
                  rw [← hS2e, ByteArray.data_append, ByteArray.data_append, Array.toList_append, Array.toList_append, ← hU1, ← hU2, extract_take eT, ← hN, extract_drop eT]
                  unfold pointB
                  rw [if_neg hk0, ← hNz]
                have m2 : S2.size ≤ 4400000002 := by rw [← hS2e, ByteArray.size_append, ByteArray.size_append]; show U1.size + 1 + U2.size ≤ _; omega
                clear hS0l hpb hNz eT hsz zl HS hlei hle hU1 hU2
                cases s' with
                | false =>
                  have fb : Hid (decO false n t f 1 = (pointB T k, 0)) := by show _ = _; rw [fit2.out]; rfl
                  go_wp2_with fail
                  go_quiet (fail)
                  go_wp2_with fail
                  go_ret2
                  refine ⟨?_, D9.out.then_below (drewN_below _ _)⟩
                  rw [fb.out]
                  exact tup3_eq (fs.out)
                | true =>
                  have fb : Hid (decO true n t f 1 = ([45] ++ pointB T k, 0)) := by show _ = _; rw [fit2.out]; rfl
                  go_wp2_with fail
                  go_quiet (fail)
                  go_wp2_with fail
                  go_ret2
                  refine ⟨?_, D9.out.then_below (drewN_below _ _)⟩
                  rw [fb.out]
                  exact tup3_eq (by rw [ByteArray.data_append, Array.toList_append]; exact congrArg _ (fs.out))
    · have hcz : ¬ cc = 0 := by rw [← hcc]; exact fun e => hr (cmp_one.1 e)
      have hcb : (cc != 0) = true := by simpa using hcz
      have e0 : Hid (decO s' n t f r2 = ([], 1)) := by show _ = _; unfold decO; rw [if_neg hr]
      clear hcc hr dv
      go_wp2_with fail
      refine q.out.mono ?_
      rintro e w6 ⟨rfl, b6⟩
      replace b6 := hide b6
      go_wp2_with fail
      go_ret2
      refine ⟨?_, (D1.out.then_below B5.out).then_below b6.out⟩
      rw [e0.out]
      rfl
end Go.Proofs.YtebnjolkolobhaaGreatDoor
