/-
  The law TopCut.
-/
import Derived.Test.YtlcgajcceapioaaDoorSexpReadsLaw
import Derived.Test.YtlcgajcceapioaaDoorCutMath
namespace Go.Proofs.YtlcgajcceapioaaDoor
open Go.RowKit
set_option linter.unusedVariables false
theorem run_upto (s : ByteArray) (b : Nat) (h2 : b ≤ s.size) (W : World) :
    (Instr.sliceAt 9 (.string s) none (some (.int .i64 b)) none).run Tryd.prog W = .ok (.string (s.extract 0 b)) W := by
  have hu : Tryd.prog.underlying 9 = some .string := by kernel_rfl
  rw [run_sliceAt_string (h := hu)]
  have h3 : (0 : Int) ≤ (b : Int) := by omega
  have h5 : (b : Int) ≤ (s.size : Int) := by omega
  go_simp
def OutPost (bs : List (List X.N)) (i : Nat) (w : World) (e : Ending) (w' : World) : Prop :=
  ∃ b : Bool, e = .returned (.bool b) ∧ (b = true → ∃ k, k < bs.length ∧ (bs.take k).flatten.length = i) ∧ w' = w
set_option maxRecDepth 100000 in
set_option maxHeartbeats 600000 in
theorem outermost_calls (w : World) (v : Value) (bs : List (List X.N)) (hB : ∀ b ∈ bs, X.Blk b) (hv : NRow w v bs.flatten) (i : Nat) (hi : i < bs.flatten.length) (hb : bs.flatten.length ≤ 4294967298) :
    Calls Tryd.prog 30 #[v, .int .i64 i] w fun e w' => OutPost bs i w e w' := by
  obtain ⟨LL, hLL⟩ : ∃ n, bs.flatten.length = n := ⟨_, rfl⟩
  obtain ⟨a1, cp1, rfl, n1, n1'⟩ := hv.shape
  have t1 := hide hv
  rw [hLL] at n1 t1 hi hb ⊢
  have hLh := hide hLL
  have hBh := hide hB
  clear hv hLL hB
  go_enter Tryd.func30, Tryd.ntmps30
  go_wp2
  go_loopw [5] (fun j wr => ∃ k m : Nat, Hid (k ≤ bs.length) ∧ j = .int .i64 m ∧ Hid ((bs.take k).flatten.length = m) ∧ m ≤ LL ∧ wr = w) (fun j _ => LL - (intOf j).toNat)
  case atStart => exact ⟨0, 0, Nat.zero_le _, rfl, rfl, Nat.zero_le _, rfl⟩
  case round =>
    obtain ⟨k, m, hk, rfl, hm, hmL, rfl⟩ := hrel
    by_cases hlt : m < i
    · have hkl : k < bs.length := by
        apply Nat.lt_of_le_of_ne hk.out
        intro e
        have := hm.out
        rw [e, List.take_length, hLh.out] at this
        omega
      obtain ⟨s1, s2, s3, s4, s5, s6⟩ := X.starts hkl hBh.out
      rw [hm.out] at s1 s2 s5
      rw [hLh.out] at s1 s6
      obtain ⟨g1, f1, rfl, x0, x1, x2, x3, x4⟩ := t1.out.at_ (j := m) (by rw [hLh.out]; exact s1)
      rw [s2, s3] at x3
      obtain ⟨z, hz⟩ : ∃ z, (bs.getD k []).length = z := ⟨_, rfl⟩
      rw [hz] at s4 s5 x3
      have i1 : (m : Int) < i := by omega
      have i2 : (m : Int) < LL := by omega
      have i3 : (0 : Int) < z := by omega
      have s5' := hide s5
      have i4 : m + z ≤ LL := by omega
      clear s2 s3 s5 s6 hz x0 x1 x2 x4
      go_wp2
      go_roundw
      case rel => exact ⟨k + 1, m + z, hkl, by go_num, s5'.out, i4, trivial⟩
      case measure => simp [intOf]; omega
    · have i1 : ¬ (m : Int) < i := by omega
      go_wp2
      go_ret
      exact ⟨_, rfl, fun e => by
        have he : (m : Int) = i := by simpa using e
        have hlt : k < bs.length := by
          apply Nat.lt_of_le_of_ne hk.out
          intro e
          have := hm.out
          rw [e, List.take_length, hLh.out] at this
          omega
        exact ⟨k, hlt, by rw [hm.out]; omega⟩, rfl⟩
/-- What TopCut compares, in plain words. -/
def CutOf (n : Nat) (all front : List X.N) : Prop :=
  ∃ bs f a : List (List X.N), (∀ b ∈ bs ++ f, X.Blk b) ∧ (∀ b ∈ bs ++ a, X.Blk b) ∧ front = (bs ++ f).flatten ∧ all = (bs ++ a).flatten ∧
    (∀ b ∈ f, (b.headD X.n0).kind ≠ 1) ∧ (∀ b ∈ a, (b.headD X.n0).kind = 1 → n < (b.headD X.n0).fin)
/-- What the two readings say, for the walk. -/
def CutReads (s : ByteArray) (n : Nat) (w : World) : Prop := ∃ (all front : List X.N) (e p e2 p2 : Nat),
  (Calls Tryd.prog 22 #[.string s] w fun x w' => ∃ v, x = .returned (.tuple #[v, .int .i64 e, .int .i64 p]) ∧ NRow w' v all ∧ Below w.heap.size w w') ∧
  (∀ W, Cls W → Calls Tryd.prog 22 #[.string (s.extract 0 n)] W fun x w' => ∃ v, x = .returned (.tuple #[v, .int .i64 e2, .int .i64 p2]) ∧ NRow w' v front ∧ Below W.heap.size W w') ∧
  (∀ W, Rsv W → Calls Tryd.prog 29 #[.string s] W fun x w' => ∃ v, x = .returned (.tuple #[v, .int .i64 e, .int .i64 p]) ∧ NRow w' v all ∧ Below W.heap.size W w') ∧
  CutOf n all front ∧ all.length ≤ 4294967298 ∧ front.length ≤ 4294967298
theorem cut_reads (w : World) (hc : Cls w) (s : ByteArray) (l : List UInt8) (hs : s.data.toList = l) (hl : l.length ≤ 1073741824) (n : Nat) (hn : n ≤ l.length) : CutReads s n w := by
  have hd := X.out_doc (S.run resv .idle l 0).1 (S.run resv .idle l 0).2.1 (S.run resv .idle l 0).2.2 (S.run_place resv l .idle 0)
  have hm := run_many l
  have hm2 := run_many (l.take n)
  have ol := X.out_len (S.run resv .idle l 0).1 (S.run resv .idle l 0).2.1 (S.run resv .idle l 0).2.2
  have ol2 := X.out_len (S.run resv .idle (l.take n) 0).1 (S.run resv .idle (l.take n) 0).2.1 (S.run resv .idle (l.take n) 0).2.2
  have hlt := List.length_take_le n l
  have hex : (s.extract 0 n).data.toList = l.take n := by rw [extract_mid hs, List.drop_zero]
  refine ⟨_, _, _, _, _, _, sexpRead_calls w hc s l hs hl _ rfl, fun W hW => sexpRead_calls W hW (s.extract 0 n) (l.take n) hex (by omega) _ rfl, fun W hW => ?_, X.cut_blocks resv l n hn _ _ _ _, by omega, by omega⟩
  have := sread_calls W hW s l hs hl _ rfl
  rw [← hd] at this
  exact this
set_option maxRecDepth 100000 in
set_option maxHeartbeats 1000000 in
theorem topCut_in (w : World) (s : ByteArray) (z : Int) (n : Nat) (hcr : CutReads s n w) (hc : Cls w) (hr : Rsv w) (hn : n ≤ s.size) (hz : s.size ≤ 1073741824) (h0 : 0 ≤ z) (h1 : z ≤ s.size) (hzn : z = n) :
    Calls Tryd.prog 8 #[.string s, .int .i64 z] w fun e w' => e = .returned (.bool true) ∧ Below w.heap.size w w' := by
  obtain ⟨all, front, e, p, e2, p2, q0, qF, q3, hcut, lA, lF⟩ := hcr
  replace q0 := hide q0
  replace q3 := hide q3
  have sg := fun W => run_upto s n hn W
  obtain ⟨sx, hsx⟩ : ∃ x, s.extract 0 n = x := ⟨_, rfl⟩
  rw [hsx] at sg
  simp only [hsx] at qF
  clear hsx
  replace qF := hide qF
  have hrH := hide hr
  have hcH := hide hc
  have hcutH := hide hcut
  clear hc hr hcut
  obtain ⟨LA, hLA⟩ : ∃ k, all.length = k := ⟨_, rfl⟩
  obtain ⟨LF, hLF⟩ : ∃ k, front.length = k := ⟨_, rfl⟩
  rw [hLA] at lA
  rw [hLF] at lF
  have hLAh := hide hLA
  have hLFh := hide hLF
  clear hLA hLF
  subst hzn
  go_enter Tryd.func8, Tryd.ntmps8
  go_wp2_with (first
    | (have y := q0; clear y; go_at_call 22; refine q0.out.mono ?_; rintro x w1 ⟨v1, rfl, r1, b1⟩; have c1 := hide (hcH.out.below b1); have q1 := hide (qF.out w1 c1.out); replace r1 := hide r1; replace b1 := hide b1; clear q0 qF)
    | (have y := q1; clear y; go_at_call 22; refine q1.out.mono ?_; rintro x w2 ⟨v2, rfl, r2, b2⟩; have q2 := hide (q3.out w2 ((hrH.out.below b1.out).below b2)); replace r2 := hide r2; replace b2 := hide b2; clear q1 q3)
    | (have y := q2; clear y; go_at_call 29; refine q2.out.mono ?_; rintro x w3 ⟨v3, rfl, r3, b3⟩; have R1 := hide ((r1.out.below b2.out).below b3); have R2 := hide (r2.out.below b3); have B3 := hide ((b1.out.then_below b2.out).then_below b3); obtain ⟨a1, cp1, rfl, m1, m1'⟩ := R1.out.shape; obtain ⟨a2, cp2, rfl, m2, m2'⟩ := R2.out.shape; obtain ⟨a3, cp3, rfl, m3, m3'⟩ := r3.shape; rw [hLAh.out, hLFh.out]; rw [hLAh.out] at m1 m3; rw [hLFh.out] at m2; rw [hLAh.out] at R1; rw [hLFh.out] at R2; clear q2 r3 b3 r1 r2 b1 b2 c1))
  obtain ⟨bs, f, a, k1, k2, k3, k4, k5, k6⟩ := hcutH.out
  have k1h := hide k1
  have k2h := hide k2
  have k3h := hide k3
  have k4h := hide k4
  have k5h := hide k5
  have k6h := hide k6
  clear k1 k2 k3 k4 k5 k6 hcutH
  go_loopw [14, 15] (fun en j wr => ∃ k m E : Nat, Hid (k ≤ (bs ++ f).length) ∧ j = .int .i64 m ∧ en = .int .i64 E ∧ Hid (((bs ++ f).take k).flatten.length = m) ∧ Hid (X.endOf ((bs ++ f).take k) 0 0 = E) ∧ m ≤ LF ∧ Hid (Below w3.heap.size w3 wr)) (fun _ j _ => LF - (intOf j).toNat)
  case atStart => exact ⟨0, 0, 0, Nat.zero_le _, rfl, rfl, rfl, rfl, Nat.zero_le _, Below.refl _ _⟩
  case round =>
    obtain ⟨k, m, E, hk, rfl, rfl, hm, hE, hmL, hB⟩ := hrel
    by_cases hlt : m < LF
    · have hLF : (bs ++ f).flatten.length = LF := by rw [← k3h.out]; exact hLFh.out
      have hkl : k < (bs ++ f).length := by
        apply Nat.lt_of_le_of_ne hk.out
        intro e
        have := hm.out
        rw [e, List.take_length, hLF] at this
        omega
      obtain ⟨s1, s2, s3, s4, s5, s6⟩ := X.starts hkl k1h.out
      have hE2 := X.endOf_take hkl
      rw [hm.out] at s1 s2 s5 hE2
      rw [hE.out] at hE2
      rw [hLF] at s6
      have T2 := R2.out.below hB.out
      obtain ⟨g1, f1, rfl, x0, x1, x2, x3, x4⟩ := T2.at_ (j := m) (by rw [hLFh.out]; exact hlt)
      rw [k3h.out, s2] at x0 x3
      rw [s3] at x3
      obtain ⟨zz, hzz⟩ : ∃ z, ((bs ++ f).getD k []).length = z := ⟨_, rfl⟩
      obtain ⟨kd, hkd⟩ : ∃ z, (((bs ++ f).getD k []).headD X.n0).kind = z := ⟨_, rfl⟩
      rw [hzz] at s4 s5 x3 hE2
      rw [hkd] at x0 hE2
      have i2 : (m : Int) < LF := by omega
      have i3 : ¬ (zz : Int) < 1 := by omega
      have i4 : m + zz ≤ LF := by omega
      have i5 : ¬ (LF : Int) < (m : Int) + zz := by omega
      have ew : IntKind.i64.wrap ((m : Int) + zz) = (m : Int) + zz := by rw [IntKind.wrap_i64]; omega
      have s5' := hide s5
      have hE2' := hide hE2
      clear s1 s2 s3 s5 s6 hzz hkd x1 x2 x4 T2 hLF hE2
      by_cases h1 : kd = 1
      · subst h1
        go_wp2
        go_roundw
        case rel => exact ⟨k + 1, m + zz, m + zz, hkl, by go_num, by go_num, s5'.out, by rw [hE2'.out]; exact if_pos rfl, i4, hB⟩
        case measure => simp [intOf]; omega
      · have i6 : ¬ (kd : Int) = 1 := by omega
        go_wp2
        go_roundw
        case rel => exact ⟨k + 1, m + zz, E, hkl, by go_num, rfl, s5'.out, by rw [hE2'.out]; exact if_neg h1, i4, hB⟩
        case measure => simp [intOf]; omega
    · have hLF : (bs ++ f).flatten.length = LF := by rw [← k3h.out]; exact hLFh.out
      have hLA : (bs ++ a).flatten.length = LA := by rw [← k4h.out]; exact hLAh.out
      have hEb : E = X.endOf bs 0 0 := by
        have hkk : k = (bs ++ f).length := by
          apply Nat.le_antisymm hk.out
          apply Nat.le_of_not_lt
          intro hh
          have := (X.starts hh k1h.out).1
          rw [hm.out, hLF] at this
          omega
        have := hE.out
        rw [hkk, List.take_length, X.endOf_append, X.endOf_atoms f _ _ k5h.out] at this
        exact this.symm
      have hEl := X.endOf_le bs 0 0 (Nat.le_refl _)
      rw [← hEb, Nat.zero_add] at hEl
      have eA : (bs ++ a).flatten.length = bs.flatten.length + a.flatten.length := by rw [List.flatten_append, List.length_append]
      have eF : (bs ++ f).flatten.length = bs.flatten.length + f.flatten.length := by rw [List.flatten_append, List.length_append]
      have hEA : E ≤ LA := by omega
      have hEF : E ≤ LF := by omega
      have hsame : Hid (∀ j, j < E → front.getD j X.n0 = all.getD j X.n0) := by
        intro j hj
        rw [k3h.out, k4h.out, List.flatten_append, List.flatten_append, X.getD_app (by omega), X.getD_app (by omega)]
      have hEbh := hide hEb
      have i1 : ¬ (m : Int) < LF := by omega
      have i2 : ¬ (LA : Int) < E := by omega
      clear eA eF hEl hEb hLF hLA hm hE
      go_wp2
      go_loopw [16] (fun j wr => ∃ k : Nat, k ≤ E ∧ j = .int .i64 k ∧ Hid (Below w3.heap.size w3 wr)) (fun j _ => E - (intOf j).toNat)
      case atStart => exact ⟨0, Nat.zero_le _, rfl, hB⟩
      case round =>
        obtain ⟨k, hkE, rfl, hB2⟩ := hrel
        by_cases hlt : k < E
        · have T1 := R1.out.below hB2.out
          have T2 := R2.out.below hB2.out
          obtain ⟨g1, f1, rfl, x0, x1, x2, x3, x4⟩ := T1.at_ (j := k) (by rw [hLAh.out]; omega)
          obtain ⟨g2, f2, rfl, y0, y1, y2, y3, y4⟩ := T2.at_ (j := k) (by rw [hLFh.out]; omega)
          rw [hsame.out k hlt] at y0 y1 y2 y3 y4
          generalize all.getD k X.n0 = t at x0 x1 x2 x3 x4 y0 y1 y2 y3 y4
          have j1 : (k : Int) < E := by omega
          have j2 : (k : Int) < LA := by omega
          have j3 : (k : Int) < LF := by omega
          clear T1 T2
          go_wp2
          go_quiet (fail)
          go_wp2
          go_roundw
          case rel => exact ⟨k + 1, by omega, by go_num, below_drewN hB2.out _⟩
          case measure => simp [intOf]; omega
        · have j1 : ¬ (k : Int) < E := by omega
          go_wp2
          go_loopw [17] (fun j wr => ∃ k : Nat, E ≤ k ∧ k ≤ LA ∧ j = .int .i64 k ∧ Hid (Below w3.heap.size w3 wr)) (fun j _ => LA - (intOf j).toNat)
          case atStart => exact ⟨E, Nat.le_refl _, by omega, rfl, hB2⟩
          case round =>
            obtain ⟨k, hkE1, hkA, rfl, hB3⟩ := hrel
            by_cases hlt : k < LA
            · have T1 := R1.out.below hB3.out
              have qo := outermost_calls wr _ (bs ++ a) k2h.out (by rw [← k4h.out]; exact T1) k (by rw [← k4h.out, hLAh.out]; exact hlt) (by rw [← k4h.out, hLAh.out]; exact lA)
              replace qo := hide qo
              obtain ⟨g1, f1, rfl, x0, x1, x2, x3, x4⟩ := T1.at_ (j := k) (by rw [hLAh.out]; omega)
              have hno : Hid ((all.getD k X.n0).kind = 1 → (all.getD k X.n0).fin ≤ n → ¬ ∃ j, j < (bs ++ a).length ∧ ((bs ++ a).take j).flatten.length = k) := by
                rintro h1 h2 ⟨j, hj, hjk⟩
                obtain ⟨s1, s2, -⟩ := X.starts hj k2h.out
                rw [hjk, ← k4h.out] at s2
                rw [s2] at h1 h2
                have := X.cut_behind k6h.out hj (by rw [hjk, ← hEbh.out]; exact hkE1) h1 k2h.out
                omega
              generalize all.getD k X.n0 = t at x0 x1 x2 x3 x4 hno
              have j2 : (k : Int) < LA := by omega
              clear T1 x1 x3 x4
              by_cases h1 : t.kind = 1
              · rw [h1] at x0
                by_cases h2 : t.fin ≤ n
                · have j4 : (t.fin : Int) ≤ n := by omega
                  have hno2 := hide (hno.out h1 h2)
                  clear hno
                  go_wp2_with (go_at_call 30; refine qo.out.mono ?_; rintro x w4 ⟨b, rfl, hb, rfl⟩; have hbf : b = false := (by cases b; exact rfl; exact absurd (hb rfl) hno2.out); subst hbf; clear hb)
                  go_roundw
                  case rel => exact ⟨k + 1, by omega, by omega, by go_num, hB3⟩
                  case measure => simp [intOf]; omega
                · have j4 : ¬ (t.fin : Int) ≤ n := by omega
                  clear hno
                  go_wp2
                  go_roundw
                  case rel => exact ⟨k + 1, by omega, by omega, by go_num, hB3⟩
                  case measure => simp [intOf]; omega
              · have j4 : ¬ (t.kind : Int) = 1 := by omega
                clear hno
                go_wp2
                go_roundw
                case rel => exact ⟨k + 1, by omega, by omega, by go_num, hB3⟩
                case measure => simp [intOf]; omega
            · have j2 : ¬ (k : Int) < LA := by omega
              go_wp2
              go_ret
              exact ⟨rfl, B3.out.then_below hB3.out⟩
end Go.Proofs.YtlcgajcceapioaaDoor
