/-
  The law ScanStands.
-/
import Derived.Test.YtgfibagkeflakaaDoorScanBehind
namespace Go.Proofs.YtgfibagkeflakaaDoor
open Go.RowKit
set_option linter.unusedVariables false
theorem run_mid (s : ByteArray) (i j : Int) (a b : Nat) (hi : i = a) (hj : j = b) (h1 : a ≤ b) (h2 : b ≤ s.size) (W : World) :
    (Instr.sliceAt 9 (.string s) (some (.int .i64 i)) (some (.int .i64 j)) none).run Tryd.prog W = .ok (.string (s.extract a b)) W := by
  have hu : Tryd.prog.underlying 9 = some .string := by kernel_rfl
  subst hi hj
  rw [run_sliceAt_string (h := hu)]
  have h3 : (0 : Int) ≤ (a : Int) := by omega
  have h4 : (a : Int) ≤ (b : Int) := by omega
  have h5 : (b : Int) ≤ (s.size : Int) := by omega
  go_simp
theorem run_from (s : ByteArray) (m n : Nat) (i : Int) (hz : s.size = m) (h0 : 0 ≤ i) (h1 : i ≤ m) (hn : i.toNat = n) (W : World) : (Instr.sliceAt 9 (.string s) (some (.int .i64 i)) none none).run Tryd.prog W = .ok (.string (s.extract n m)) W := by
  have hu : Tryd.prog.underlying 9 = some .string := by kernel_rfl
  subst hn
  rw [run_sliceAt_string (h := hu)]
  go_simp
theorem extract_mid {s : ByteArray} {l : List UInt8} (hs : s.data.toList = l) (a b : Nat) : (s.extract a b).data.toList = (l.take b).drop a := by
  subst hs
  simp [ByteArray.data_extract, List.drop_take]
theorem ne_byte {b : UInt8} {n : Nat} (hn : n < 256) (h : b ≠ UInt8.ofNat n) : ¬ (b.toNat : Int) = n := fun e => h (by
  apply UInt8.toNat_inj.1
  have : b.toNat = n := by omega
  rw [this]
  simp [Nat.mod_eq_of_lt hn])
set_option maxRecDepth 100000 in
set_option maxHeartbeats 1600000 in
theorem gap_calls (w : World) (s : ByteArray) (l : List UInt8) (hs : s.data.toList = l) (hl : l.length ≤ 1073741824) (hg : S.gapB false l = true) :
    Calls Tryd.prog 11 #[.string s] w fun e w' => e = .returned (.bool true) ∧ w' = w := by
  have hn := size_of s l hs
  have hz : s.size ≤ 1073741824 := by omega
  have hat := hide (fun (k : Nat) (h : k < s.size) => byteAt s l hs k h)
  replace hn := hide hn
  have hg' := hide hg
  clear hs hg hl
  go_enter Tryd.func11, Tryd.ntmps11
  go_wp2
  go_loop [3, 4] (fun f i => ∃ (k : Nat) (x : Bool), k ≤ s.size ∧ i = .int .i64 k ∧ f = .bool x ∧ Hid (S.gapB x (l.drop k) = true)) (fun _ i => s.size - (intOf i).toNat)
  case atStart => exact ⟨0, false, Nat.zero_le _, rfl, rfl, hg'⟩
  case round =>
    clear hg'
    obtain ⟨k, x, hk, rfl, rfl, hg⟩ := hrel
    by_cases hlt : k < s.size
    · have hll : k < l.length := by rw [← hn.out]; exact hlt
      have hb : s[k]'hlt = l.getD k 0 := hat.out k hlt
      have ed := drop_cons l k hll
      obtain ⟨b, hb2⟩ : ∃ b, l.getD k 0 = b := ⟨_, rfl⟩
      rw [hb2] at hb ed
      have hg2 := hg.out
      rw [ed, S.gapB] at hg2
      clear hg ed hb2
      by_cases c10 : b = 10
      · rw [if_pos (.inl c10)] at hg2
        subst c10
        replace hg2 := hide hg2
        go_wp2
        go_round
        case rel => exact ⟨k + 1, false, by omega, by go_num, rfl, hg2⟩
        case measure => simp [intOf]; omega
      by_cases c13 : b = 13
      · rw [if_pos (.inr c13)] at hg2
        subst c13
        replace hg2 := hide hg2
        go_wp2
        go_round
        case rel => exact ⟨k + 1, false, by omega, by go_num, rfl, hg2⟩
        case measure => simp [intOf]; omega
      rw [if_neg (by simp [c10, c13])] at hg2
      have n10 : ¬ (b.toNat : Int) = 10 := ne_byte (by decide) c10
      have n13 : ¬ (b.toNat : Int) = 13 := ne_byte (by decide) c13
      have m10 : ((b.toNat : Int) == 10) = false := by simpa using n10
      have m13 : ((b.toNat : Int) == 13) = false := by simpa using n13
      by_cases c59 : b = 59
      · subst c59
        rw [if_neg (by simp)] at hg2
        have e1 : (x || decide ((59 : UInt8) = 59)) = true := by simp
        rw [e1] at hg2
        replace hg2 := hide hg2
        clear e1 c10 c13
        go_wp2
        all_goals
          go_round
          case rel => exact ⟨k + 1, true, by omega, by go_num, rfl, hg2⟩
          case measure => simp [intOf]; omega
      have n59 : ¬ (b.toNat : Int) = 59 := ne_byte (by decide) c59
      rw [decide_eq_false c59, Bool.or_false] at hg2
      cases x with
      | true =>
        rw [if_neg (by simp)] at hg2
        replace hg2 := hide hg2
        clear c10 c13 c59
        go_wp2
        all_goals
          go_round
          case rel => exact ⟨k + 1, true, by omega, by go_num, rfl, hg2⟩
          case measure => simp [intOf]; omega
      | false =>
        by_cases c9 : b = 9
        · subst c9
          rw [if_neg (by simp)] at hg2
          replace hg2 := hide hg2
          go_wp2
          go_round
          case rel => exact ⟨k + 1, false, by omega, by go_num, rfl, hg2⟩
          case measure => simp [intOf]; omega
        by_cases c32 : b = 32
        · subst c32
          rw [if_neg (by simp)] at hg2
          replace hg2 := hide hg2
          go_wp2
          go_round
          case rel => exact ⟨k + 1, false, by omega, by go_num, rfl, hg2⟩
          case measure => simp [intOf]; omega
        rw [if_pos ⟨rfl, c9, c32⟩] at hg2
        cases hg2
    · go_wp2
      go_ret
      exact ⟨rfl, rfl⟩
theorem drop_tok (L : List S.Tok) (k : Nat) (h : k < L.length) : L.drop k = L.getD k tk0 :: L.drop (k + 1) := by
  rw [List.drop_eq_getElem_cons h, List.getD_eq_getElem?_getD, List.getElem?_eq_getElem h]
  rfl
/-- The loop's word: the tokens from k on stand behind E. -/
def StAt (L : List S.Tok) (l : List UInt8) (e p k E : Nat) : Prop := E ≤ l.length ∧ S.Stands resv (L.drop k) (l.drop E) E e p
theorem StAt.next {L : List S.Tok} {l : List UInt8} {e p k E : Nat} (h : StAt L l e p k E) (hk : k < L.length) {t : S.Tok} (ht : L.getD k tk0 = t) :
    E ≤ t.beg ∧ t.beg < t.fin ∧ t.fin ≤ l.length ∧ S.gapB false ((l.take t.beg).drop E) = true ∧ S.run resv .idle ((l.take t.fin).drop t.beg) 0 = ([⟨t.kind, 0, t.fin - t.beg, t.text⟩], 0, 0) ∧ StAt L l e p (k + 1) t.fin := by
  obtain ⟨hE, h⟩ := h
  rw [drop_tok L k hk, ht] at h
  obtain ⟨n, m, h1, h2, h3, h4, h5, h6, h7⟩ := h
  rw [List.length_drop] at h2
  rw [List.drop_drop] at h6 h7
  have e1 : (l.take t.beg).drop E = (l.drop E).take n := by rw [List.drop_take, h3]; congr 1; omega
  have e2 : (l.take t.fin).drop t.beg = (l.drop (E + n)).take m := by rw [List.drop_take, h3, h4]; congr 1; omega
  refine ⟨by omega, by omega, by omega, by rw [e1]; exact h5, ?_, by omega, ?_⟩
  · rw [e2, h6, show t.fin - t.beg = m from by omega]
  · rw [h4]
    rw [show E + (n + m) = E + n + m from by omega] at h7
    exact h7
set_option maxRecDepth 100000 in
set_option maxHeartbeats 4000000 in
theorem stands_calls (w : World) (hc : Cls w) (s : ByteArray) (l : List UInt8) (hs : s.data.toList = l) (hl : l.length ≤ 1073741824) :
    Calls Tryd.prog 4 #[.string s] w fun e w' => e = .returned (.bool true) ∧ Below w.heap.size w w' := by
  have q0 := hide (live_calls w hc)
  have q1 := hide (fun W (hW : Cls W) => tokens_calls W hW s l hs (by omega))
  have hn := size_of s l hs
  have hz : s.size ≤ 1073741824 := by omega
  have hst := S.run_stands resv l 0
  have hm := run_many l
  obtain ⟨o1, h1⟩ : ∃ o, S.run resv .idle l 0 = o := ⟨_, rfl⟩
  rw [h1] at q1 hst hm
  clear h1
  obtain ⟨L, e, p⟩ := o1
  simp only at q1 hst hm
  obtain ⟨LL, hLL⟩ : ∃ n, L.length = n := ⟨_, rfl⟩
  rw [hLL] at hm
  have P0 : Hid (StAt L l e p 0 0) := ⟨Nat.zero_le _, hst⟩
  have hHc := hide hc
  have hs' := hide hs
  have hn' := hide hn
  clear hc hs hst hn
  go_enter Tryd.func4, Tryd.ntmps4
  go_wp2_with (first
      | (go_at_call 9; refine q0.out.mono ?_; rintro e w0 ⟨rfl, b0⟩; have C0 := hide (hHc.out.below b0); replace b0 := hide b0)
      | (go_at_call 10; refine (q1.out _ C0.out).mono ?_; rintro e w1 ⟨v1, rfl, u1, b1⟩; have C1 := hide (C0.out.below b1); have t1 := hide (ownsRow.trow u1); obtain ⟨a1, cp1, rfl, n1, n1'⟩ := t1.out.shape; simp only [hLL] at n1 t1; rw [hLL]; replace b1 := hide b1; clear u1))
  go_loopw [6, 7] (fun en j wr => ∃ k E : Nat, k ≤ LL ∧ j = .int .i64 k ∧ en = .int .i64 E ∧ Hid (StAt L l e p k E) ∧ Hid (Below w1.heap.size w1 wr)) (fun _ j _ => LL - (intOf j).toNat)
  case atStart => exact ⟨0, 0, Nat.zero_le _, rfl, rfl, P0, Below.refl _ _⟩
  case round =>
    clear P0
    obtain ⟨k, E, hk, rfl, rfl, P, hB⟩ := hrel
    by_cases hlt : k < LL
    · have T1 := t1.out.below hB.out
      obtain ⟨g1, f1, rfl, y0, y1, y2, y3⟩ := T1.at_ (j := k) (by omega)
      obtain ⟨t, ht⟩ : ∃ t, L.getD k tk0 = t := ⟨_, rfl⟩
      obtain ⟨x1, x2, x3, x4, x5, x6⟩ := P.out.next (by omega) ht
      rw [ht] at y0 y1 y2 y3
      clear ht T1 P
      obtain ⟨tk, tb, tf, tx⟩ := t
      simp only at x1 x2 x3 x4 x5 x6 y0 y1 y2 y3
      rw [← hn'.out] at x3
      have d1 : (E : Int) ≤ tb := by omega
      have d2 : (tb : Int) < tf := by omega
      have d3 : (tf : Int) ≤ s.size := by omega
      have qg := hide (fun W => gap_calls W (s.extract E tb) _ (extract_mid hs'.out E tb) (by rw [List.length_drop, List.length_take]; omega) x4)
      have sg := fun W => run_mid s (E : Int) (tb : Int) E tb rfl rfl x1 (by omega) W
      have st := fun W => run_mid s (tb : Int) (tf : Int) tb tf rfl rfl (by omega) x3 W
      have q2 := fun W (hW : Cls W) => tokens_calls W hW (s.extract tb tf) _ (extract_mid hs'.out tb tf) (by rw [List.length_drop, List.length_take]; omega)
      rw [x5] at q2
      obtain ⟨mm, hmm⟩ : ∃ mm, tf - tb = mm := ⟨_, rfl⟩
      rw [hmm] at q2
      replace q2 := hide q2
      have ew : IntKind.i64.wrap ((tf : Int) - tb) = mm := by rw [IntKind.wrap_i64]; omega
      have x6' := hide x6
      have B1 : Hid (Below wr.heap.size wr (wr.alloc (.cells #[.int .i64 tk, .int .i64 tb, .int .i64 tf, .string ⟨tx.toArray⟩] 28))) := (Below.refl _ wr).alloc (Nat.le_refl _) _
      have A1 := hide (heap_alloc_new wr (.cells #[.int .i64 tk, .int .i64 tb, .int .i64 tf, .string ⟨tx.toArray⟩] 28))
      have C2 := hide ((C1.out.below hB.out).below B1.out)
      clear x1 x2 x3 x4 x5 x6 hmm
      go_wp2_with (first
        | (go_at_call 11; refine (qg.out _).mono ?_; rintro e w' ⟨rfl, rfl⟩)
        | (go_at_call 10; refine (q2.out _ C2.out).mono ?_; rintro e w2 ⟨v2, rfl, u2, b2⟩; have t2 := ownsRow.trow u2; obtain ⟨a2, cp2, rfl, n2, n2'⟩ := t2.shape; obtain ⟨g2, f2, rfl, z0, z1, z2, z3⟩ := t2.at_ (j := 0) (by simp); simp at z0 z1 z2 z3 n2; have A2 := (b2.block _ (by simp)).trans A1.out; have c0 := cell_of_row _ _ 0 _ _ (0, 0) A2; have c1 := cell_of_row _ _ 1 _ _ (0, 0) A2; have c2 := cell_of_row _ _ 2 _ _ (0, 0) A2; have c3 := cell_of_row _ _ 3 _ _ (0, 0) A2; simp at c0 c1 c2 c3; replace b2 := hide b2; clear u2 t2 A2))
      go_quiet (fail)
      go_wp2
      go_roundw
      case rel => exact ⟨k + 1, tf, by omega, by go_num, rfl, x6', below_drewN ((hB.out.then_below B1.out).then_below b2.out) _⟩
      case measure => simp [intOf]; omega
    · have hkL : k = L.length := by omega
      have hE := P.out.1
      have hend := P.out.2
      rw [hkL, List.drop_length] at hend
      clear P hkL
      by_cases he : e = 0
      · rcases hend with ⟨_, rfl, hg⟩ | ⟨h, _⟩
        · subst he
          rw [← hn'.out] at hE
          have d1 : (E : Int) ≤ s.size := by omega
          have qg := hide (fun W => gap_calls W (s.extract E s.size) (l.drop E) (by rw [extract_mid hs'.out, hn'.out, List.take_length]) (by rw [List.length_drop]; omega) hg)
          have sg := fun W => run_from s s.size E (E : Int) rfl (by omega) d1 (by omega) W
          clear hg
          go_wp2_with (go_at_call 11; refine (qg.out _).mono ?_; rintro e w' ⟨rfl, rfl⟩)
          go_ret
          exact ⟨rfl, (b0.out.then_below b1.out).then_below hB.out⟩
        · exact absurd he h
      · rcases hend with ⟨h, _⟩ | ⟨_, h1, h2⟩
        · exact absurd h he
        · rw [List.length_drop] at h2
          rw [← hn'.out] at hE h2
          have he1 : ¬ (e : Int) = 0 := by omega
          have d1 : (E : Int) ≤ p := by omega
          have d2 : (p : Int) ≤ s.size := by omega
          clear he
          go_wp2
          go_ret
          exact ⟨rfl, (b0.out.then_below b1.out).then_below hB.out⟩
end Go.Proofs.YtgfibagkeflakaaDoor
