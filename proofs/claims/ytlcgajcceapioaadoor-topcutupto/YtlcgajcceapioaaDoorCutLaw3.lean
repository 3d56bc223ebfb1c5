/-
  The law TopCut, n above the length.
-/
import Derived.Test.YtlcgajcceapioaaDoorCutLaw
import Derived.Test.YtlcgajcceapioaaDoorCutLaw2
namespace Go.Proofs.YtlcgajcceapioaaDoor
open Go.RowKit
set_option linter.unusedVariables false
set_option maxRecDepth 100000 in
set_option maxHeartbeats 1000000 in
theorem topCut_big (w : World) (s : ByteArray) (z : Int) (n : Nat) (hcr : CutReads s n w) (hc : Cls w) (hr : Rsv w) (hn : n ≤ s.size) (hz : s.size ≤ 1073741824) (h0 : ¬ z < 0) (h1 : (s.size : Int) < z) (hzn : n = s.size) :
    Calls Tryd.prog 8 #[.string s, .int .i64 z] w fun e w' => e = .returned (.bool true) ∧ Below w.heap.size w w' := by
  obtain ⟨all, front, e, p, e2, p2, q0, qF, q3, hcut, lA, lF⟩ := hcr
  replace q0 := hide q0
  replace q3 := hide q3
  have sg := fun W => run_upto s n hn W
  obtain ⟨sx, hsx⟩ : ∃ x, s.extract 0 n = x := ⟨_, rfl⟩
  rw [hsx] at sg
  simp only [hsx] at qF
  clear hsx
  replace qF := hide qF
  have hrH := hide hr
  have hcH := hide hc
  have hcutH := hide hcut
  clear hc hr hcut
  obtain ⟨LA, hLA⟩ : ∃ k, all.length = k := ⟨_, rfl⟩
  obtain ⟨LF, hLF⟩ : ∃ k, front.length = k := ⟨_, rfl⟩
  rw [hLA] at lA
  rw [hLF] at lF
  have hLAh := hide hLA
  have hLFh := hide hLF
  clear hLA hLF
  subst hzn
  clear hn
  have hn : ((s.size : Nat) : Int) ≤ s.size := Int.le_refl _
  go_enter Tryd.func8, Tryd.ntmps8
  go_wp2_with (first
    | (have y := q0; clear y; go_at_call 22; refine q0.out.mono ?_; rintro x w1 ⟨v1, rfl, r1, b1⟩; have c1 := hide (hcH.out.below b1); have q1 := hide (qF.out w1 c1.out); replace r1 := hide r1; replace b1 := hide b1; clear q0 qF)
    | (have y := q1; clear y; go_at_call 22; refine q1.out.mono ?_; rintro x w2 ⟨v2, rfl, r2, b2⟩; have q2 := hide (q3.out w2 ((hrH.out.below b1.out).below b2)); replace r2 := hide r2; replace b2 := hide b2; clear q1 q3)
    | (have y := q2; clear y; go_at_call 29; refine q2.out.mono ?_; rintro x w3 ⟨v3, rfl, r3, b3⟩; have R1 := hide ((r1.out.below b2.out).below b3); have R2 := hide (r2.out.below b3); have B3 := hide ((b1.out.then_below b2.out).then_below b3); obtain ⟨a1, cp1, rfl, m1, m1'⟩ := R1.out.shape; obtain ⟨a2, cp2, rfl, m2, m2'⟩ := R2.out.shape; obtain ⟨a3, cp3, rfl, m3, m3'⟩ := r3.shape; rw [hLAh.out, hLFh.out]; rw [hLAh.out] at m1 m3; rw [hLFh.out] at m2; rw [hLAh.out] at R1; rw [hLFh.out] at R2; clear q2 r3 b3 r1 r2 b1 b2 c1))
  obtain ⟨bs, f, a, k1, k2, k3, k4, k5, k6⟩ := hcutH.out
  have k1h := hide k1
  have k2h := hide k2
  have k3h := hide k3
  have k4h := hide k4
  have k5h := hide k5
  have k6h := hide k6
  clear k1 k2 k3 k4 k5 k6 hcutH
  go_loopw [14, 15] (fun en j wr => ∃ k m E : Nat, Hid (k ≤ (bs ++ f).length) ∧ j = .int .i64 m ∧ en = .int .i64 E ∧ Hid (((bs ++ f).take k).flatten.length = m) ∧ Hid (X.endOf ((bs ++ f).take k) 0 0 = E) ∧ m ≤ LF ∧ Hid (Below w3.heap.size w3 wr)) (fun _ j _ => LF - (intOf j).toNat)
  case atStart => exact ⟨0, 0, 0, Nat.zero_le _, rfl, rfl, rfl, rfl, Nat.zero_le _, Below.refl _ _⟩
  case round =>
    obtain ⟨k, m, E, hk, rfl, rfl, hm, hE, hmL, hB⟩ := hrel
    by_cases hlt : m < LF
    · have hLF : (bs ++ f).flatten.length = LF := by rw [← k3h.out]; exact hLFh.out
      have hkl : k < (bs ++ f).length := by
        apply Nat.lt_of_le_of_ne hk.out
        intro e
        have := hm.out
        rw [e, List.take_length, hLF] at this
        omega
      obtain ⟨s1, s2, s3, s4, s5, s6⟩ := X.starts hkl k1h.out
      have hE2 := X.endOf_take hkl
      rw [hm.out] at s1 s2 s5 hE2
      rw [hE.out] at hE2
      rw [hLF] at s6
      have T2 := R2.out.below hB.out
      obtain ⟨g1, f1, rfl, x0, x1, x2, x3, x4⟩ := T2.at_ (j := m) (by rw [hLFh.out]; exact hlt)
      rw [k3h.out, s2] at x0 x3
      rw [s3] at x3
      obtain ⟨zz, hzz⟩ : ∃ z, ((bs ++ f).getD k []).length = z := ⟨_, rfl⟩
      obtain ⟨kd, hkd⟩ : ∃ z, (((bs ++ f).getD k []).headD X.n0).kind = z := ⟨_, rfl⟩
      rw [hzz] at s4 s5 x3 hE2
      rw [hkd] at x0 hE2
      have i2 : (m : Int) < LF := by omega
      have i3 : ¬ (zz : Int) < 1 := by omega
      have i4 : m + zz ≤ LF := by omega
      have i5 : ¬ (LF : Int) < (m : Int) + zz := by omega
      have ew : IntKind.i64.wrap ((m : Int) + zz) = (m : Int) + zz := by rw [IntKind.wrap_i64]; omega
      have s5' := hide s5
      have hE2' := hide hE2
      clear s1 s2 s3 s5 s6 hzz hkd x1 x2 x4 T2 hLF hE2
      by_cases h1 : kd = 1
      · subst h1
        go_wp2
        go_roundw
        case rel => exact ⟨k + 1, m + zz, m + zz, hkl, by go_num, by go_num, s5'.out, by rw [hE2'.out]; exact if_pos rfl, i4, hB⟩
        case measure => simp [intOf]; omega
      · have i6 : ¬ (kd : Int) = 1 := by omega
        go_wp2
        go_roundw
        case rel => exact ⟨k + 1, m + zz, E, hkl, by go_num, rfl, s5'.out, by rw [hE2'.out]; exact if_neg h1, i4, hB⟩
        case measure => simp [intOf]; omega
    · have hLF : (bs ++ f).flatten.length = LF := by rw [← k3h.out]; exact hLFh.out
      have hLA : (bs ++ a).flatten.length = LA := by rw [← k4h.out]; exact hLAh.out
      have hEb : E = X.endOf bs 0 0 := by
        have hkk : k = (bs ++ f).length := by
          apply Nat.le_antisymm hk.out
          apply Nat.le_of_not_lt
          intro hh
          have := (X.starts hh k1h.out).1
          rw [hm.out, hLF] at this
          omega
        have := hE.out
        rw [hkk, List.take_length, X.endOf_append, X.endOf_atoms f _ _ k5h.out] at this
        exact this.symm
      have hEl := X.endOf_le bs 0 0 (Nat.le_refl _)
      rw [← hEb, Nat.zero_add] at hEl
      have eA : (bs ++ a).flatten.length = bs.flatten.length + a.flatten.length := by rw [List.flatten_append, List.length_append]
      have eF : (bs ++ f).flatten.length = bs.flatten.length + f.flatten.length := by rw [List.flatten_append, List.length_append]
      have hEA : E ≤ LA := by omega
      have hEF : E ≤ LF := by omega
      have hsame : Hid (∀ j, j < E → front.getD j X.n0 = all.getD j X.n0) := by
        intro j hj
        rw [k3h.out, k4h.out, List.flatten_append, List.flatten_append, X.getD_app (by omega), X.getD_app (by omega)]
      have hEbh := hide hEb
      have i1 : ¬ (m : Int) < LF := by omega
      have i2 : ¬ (LA : Int) < E := by omega
      clear eA eF hEl hEb hLF hLA hm hE
      go_wp2
      go_loopw [16] (fun j wr => ∃ k : Nat, k ≤ E ∧ j = .int .i64 k ∧ Hid (Below w3.heap.size w3 wr)) (fun j _ => E - (intOf j).toNat)
      case atStart => exact ⟨0, Nat.zero_le _, rfl, hB⟩
      case round =>
        obtain ⟨k, hkE, rfl, hB2⟩ := hrel
        by_cases hlt : k < E
        · have T1 := R1.out.below hB2.out
          have T2 := R2.out.below hB2.out
          obtain ⟨g1, f1, rfl, x0, x1, x2, x3, x4⟩ := T1.at_ (j := k) (by rw [hLAh.out]; omega)
          obtain ⟨g2, f2, rfl, y0, y1, y2, y3, y4⟩ := T2.at_ (j := k) (by rw [hLFh.out]; omega)
          rw [hsame.out k hlt] at y0 y1 y2 y3 y4
          generalize all.getD k X.n0 = t at x0 x1 x2 x3 x4 y0 y1 y2 y3 y4
          have j1 : (k : Int) < E := by omega
          have j2 : (k : Int) < LA := by omega
          have j3 : (k : Int) < LF := by omega
          clear T1 T2
          go_wp2
          go_quiet (fail)
          go_wp2
          go_roundw
          case rel => exact ⟨k + 1, by omega, by go_num, below_drewN hB2.out _⟩
          case measure => simp [intOf]; omega
        · have j1 : ¬ (k : Int) < E := by omega
          go_wp2
          go_loopw [17] (fun j wr => ∃ k : Nat, E ≤ k ∧ k ≤ LA ∧ j = .int .i64 k ∧ Hid (Below w3.heap.size w3 wr)) (fun j _ => LA - (intOf j).toNat)
          case atStart => exact ⟨E, Nat.le_refl _, by omega, rfl, hB2⟩
          case round =>
            obtain ⟨k, hkE1, hkA, rfl, hB3⟩ := hrel
            by_cases hlt : k < LA
            · have T1 := R1.out.below hB3.out
              have qo := outermost_calls wr _ (bs ++ a) k2h.out (by rw [← k4h.out]; exact T1) k (by rw [← k4h.out, hLAh.out]; exact hlt) (by rw [← k4h.out, hLAh.out]; exact lA)
              replace qo := hide qo
              obtain ⟨g1, f1, rfl, x0, x1, x2, x3, x4⟩ := T1.at_ (j := k) (by rw [hLAh.out]; omega)
              have hno : Hid ((all.getD k X.n0).kind = 1 → (all.getD k X.n0).fin ≤ s.size → ¬ ∃ j, j < (bs ++ a).length ∧ ((bs ++ a).take j).flatten.length = k) := by
                rintro h1 h2 ⟨j, hj, hjk⟩
                obtain ⟨s1, s2, -⟩ := X.starts hj k2h.out
                rw [hjk, ← k4h.out] at s2
                rw [s2] at h1 h2
                have := X.cut_behind k6h.out hj (by rw [hjk, ← hEbh.out]; exact hkE1) h1 k2h.out
                omega
              generalize all.getD k X.n0 = t at x0 x1 x2 x3 x4 hno
              have j2 : (k : Int) < LA := by omega
              clear T1 x1 x3 x4
              by_cases h1 : t.kind = 1
              · rw [h1] at x0
                by_cases h2 : t.fin ≤ s.size
                · have j4 : (t.fin : Int) ≤ s.size := by omega
                  have hno2 := hide (hno.out h1 h2)
                  clear hno
                  go_wp2_with (go_at_call 30; refine qo.out.mono ?_; rintro x w4 ⟨b, rfl, hb, rfl⟩; have hbf : b = false := (by cases b; exact rfl; exact absurd (hb rfl) hno2.out); subst hbf; clear hb)
                  go_roundw
                  case rel => exact ⟨k + 1, by omega, by omega, by go_num, hB3⟩
                  case measure => simp [intOf]; omega
                · have j4 : ¬ (t.fin : Int) ≤ s.size := by omega
                  clear hno
                  go_wp2
                  go_roundw
                  case rel => exact ⟨k + 1, by omega, by omega, by go_num, hB3⟩
                  case measure => simp [intOf]; omega
              · have j4 : ¬ (t.kind : Int) = 1 := by omega
                clear hno
                go_wp2
                go_roundw
                case rel => exact ⟨k + 1, by omega, by omega, by go_num, hB3⟩
                case measure => simp [intOf]; omega
            · have j2 : ¬ (k : Int) < LA := by omega
              go_wp2
              go_ret
              exact ⟨rfl, B3.out.then_below hB3.out⟩
theorem topCut_calls (w : World) (hc : Cls w) (hr : Rsv w) (s : ByteArray) (l : List UInt8) (hs : s.data.toList = l) (hl : l.length ≤ 1073741824) (z : Int) :
    Calls Tryd.prog 8 #[.string s, .int .i64 z] w fun e w' => e = .returned (.bool true) ∧ Below w.heap.size w w' := by
  have hn := size_of s l hs
  by_cases h0 : z < 0
  · exact topCut_neg w s z s.size (cut_reads w hc s l hs hl s.size (by omega)) hc hr (Nat.le_refl _) (by omega) h0 rfl
  · by_cases h1 : (s.size : Int) < z
    · exact topCut_big w s z s.size (cut_reads w hc s l hs hl s.size (by omega)) hc hr (Nat.le_refl _) (by omega) h0 h1 rfl
    · exact topCut_in w s z z.toNat (cut_reads w hc s l hs hl z.toNat (by omega)) hc hr (by omega) (by omega) (by omega) (by omega) (by omega)
end Go.Proofs.YtlcgajcceapioaaDoor
