/-
  strings.ContainsAny of a text of characters and the two bytes bar and backslash.
-/
import Derived.Test.YtjbalgjdcdmjjaaDoorQuote2
import Derived.Laws.Runes
namespace Go.Proofs.YtjbalgjdcdmjjaaDoor
open Go.RowKit
set_option linter.unusedVariables false
theorem decode_valid (s : ByteArray) (i : Nat) : (Utf8.decode s i).1 < 55296 ∨ (57344 ≤ (Utf8.decode s i).1 ∧ (Utf8.decode s i).1 ≤ 1114111) := by
  rw [Lib.decode_at]
  have h0 : (s.get! i).toNat < 256 := UInt8.toNat_lt _
  unfold Lib.decodeN
  repeat' split
  all_goals first | (left; show _ < 55296; omega) | (right; show _ ∧ _; omega) | (rename_i h; exact h.2)
theorem below_dN {n : Nat} {w w' : World} (h : Below n w w') (k : Nat) : Below n w (w'.drewN k) := ⟨h.os, h.tape, h.output, h.size, h.block⟩
def bars2 : ByteArray := ⟨#[124, 92]⟩
theorem bars2_get (k : Nat) (h : k < bars2.size) : (bars2[k]'h).toNat < 128 := by
  have h2 : k < 2 := h
  rcases (by omega : k = 0 ∨ k = 1) with rfl | rfl
  · show (124 : UInt8).toNat < 128
    decide
  · show (92 : UInt8).toNat < 128
    decide
set_option maxRecDepth 100000 in
set_option maxHeartbeats 1000000 in
theorem indexRune_err (w : World) : Calls Tryd.prog 100 #[.string bars2, .int .i32 65533] w fun e w' => e = .returned (.int .i64 (-1)) ∧ Below w.heap.size w w' := by
  have hz : bars2.size = 2 := rfl
  have hgH := hide bars2_get
  obtain ⟨s, hs⟩ : ∃ s, bars2 = s := ⟨_, rfl⟩
  rw [hs] at hz hgH ⊢
  clear hs
  go_enter Tryd.func100, Tryd.ntmps100
  go_wp2
  go_loopw [] (fun wr => ∃ pos : Nat, pos ≤ 2 ∧ Hid (wr.heap[w.heap.size]? = some (.stringIter s pos)) ∧ Hid (Below w.heap.size w wr)) (fun wr => 2 - wr.iterPos w.heap.size)
  case atStart =>
    exact ⟨0, by decide, heap_alloc_new w _, (Below.refl _ w).alloc (Nat.le_refl _) _⟩
  case round =>
    obtain ⟨pos, hp, hit, hB⟩ := hrel
    by_cases hlt : pos < s.size
    · have ha := hgH.out pos hlt
      have hnx : ∀ ty, (Instr.next (.pointer (some ⟨w.heap.size, 0, none⟩)) true ty).run Tryd.prog wr = _ := fun ty => Lib.run_next_ascii_at wr w.heap.size s pos ty hit.out hlt ha
      have hit2 := hide (Lib.iterAt_heap wr w.heap.size s pos (pos + 1) hit.out)
      have hB2 := hide (Lib.below_iterAt hB.out (k := w.heap.size) (Nat.le_refl _) s (pos + 1))
      obtain ⟨W2, hW2⟩ : ∃ W, wr.iterAt w.heap.size s (pos + 1) = W := ⟨_, rfl⟩
      rw [hW2] at hnx hit2 hB2
      obtain ⟨b, hb⟩ : ∃ b, s[pos]'hlt = b := ⟨_, rfl⟩
      rw [hb] at hnx ha
      have i1 : ¬ (b.toNat : Int) = 65533 := by omega
      have hme : s.size - W2.iterPos w.heap.size < s.size - wr.iterPos w.heap.size := by
        unfold World.iterPos
        rw [hit.out, hit2.out]
        simp only
        omega
      rw [hz] at hme
      replace hme := hide hme
      clear hb hW2
      go_wp2
      go_roundw
      case rel => exact ⟨pos + 1, by omega, hit2, hB2⟩
      case measure => exact hme.out
    · have hnx : ∀ ty, (Instr.next (.pointer (some ⟨w.heap.size, 0, none⟩)) true ty).run Tryd.prog wr = _ := fun ty => Lib.run_next_end_at wr w.heap.size s pos ty hit.out hlt
      go_wp2
      go_ret
      exact ⟨rfl, hB.out⟩
theorem valid_of (r : Nat) (h : r < 55296 ∨ (57344 ≤ r ∧ r ≤ 1114111)) : Lib.validRune (r : Int) = true ∧ Utf8.valid (r : Int) = true := by
  unfold Lib.validRune Utf8.valid
  simp
  omega
set_option maxRecDepth 100000 in
set_option maxHeartbeats 1000000 in
theorem indexRune_high (w : World) (r : Nat) (h128 : 128 ≤ r) (hv : r < 55296 ∨ (57344 ≤ r ∧ r ≤ 1114111)) (hne : r ≠ 65533) : Calls Tryd.prog 100 #[.string bars2, .int .i32 r] w fun e w' => e = .returned (.int .i64 (-1)) ∧ Below w.heap.size w w' := by
  obtain ⟨v1, v2⟩ := valid_of r hv
  obtain ⟨f1, f2, f3⟩ := encode_facts (r : Int) v2 (by omega)
  have q0 := hide (fun W => Tryd.utf8_ValidRune (r : Int) W)
  rw [v1] at q0
  have hcv : ∀ W, (convert 21 9 (.int .i32 (r : Int))).run Tryd.prog W = .ok (.string (Utf8.encode (r : Int))) W := fun W => by go_simp
  obtain ⟨E, hE⟩ : ∃ E, Utf8.encode (r : Int) = E := ⟨_, rfl⟩
  rw [hE] at hcv f1 f2 f3
  clear hE v1 v2
  have i1 : ¬ (r : Int) < 128 := by omega
  have i2 : ¬ (r : Int) = 65533 := by omega
  have hz : bars2.size = 2 := rfl
  have hx : bars2[1]'(by decide) = 92 := rfl
  obtain ⟨s, hs⟩ : ∃ s, bars2 = s := ⟨_, rfl⟩
  rw [hs] at hz
  subst hs
  by_cases h2 : E.size = 2
  · have hl : 1 < E.size := by omega
    have f4 : 128 ≤ (E[1]'hl).toNat := by
      have := f3 (by omega)
      simpa [h2] using this
    obtain ⟨c, hc⟩ : ∃ c, E[1]'hl = c := ⟨_, rfl⟩
    rw [hc] at f4
    have i4 : ¬ (92 : Int) = c.toNat := by omega
    have qi := hide (fun W => Tryd.strings_IndexByte (bars2.extract 2 bars2.size) (c.toNat : Int) W)
    have sl : ∀ W, (Instr.sliceAt 9 (.string bars2) (some (.int .i64 2)) none none).run Tryd.prog W = .ok (.string (bars2.extract 2 bars2.size)) W := fun W => run_tail bars2 2 (by decide) W
    have ew2 : IntKind.i64.wrap 2 = 2 := by rw [IntKind.wrap_i64]; rfl
    have hb1 : (bars2.extract 2 bars2.size).data.toList = [] := by decide
    rw [hb1] at qi
    have qi' : Hid (∀ W, Calls Tryd.prog 112 #[.string (bars2.extract 2 bars2.size), .int .u8 c.toNat] W fun e w' => e = .returned (.int .i64 (-1)) ∧ w' = W) := qi
    clear qi hb1 f3
    obtain ⟨sx, hsx⟩ : ∃ x, bars2.extract 2 bars2.size = x := ⟨_, rfl⟩
    rw [hsx] at qi' sl
    clear hsx
    go_enter Tryd.func100, Tryd.ntmps100
    go_wp2_with (go_at_call 113; refine (q0.out _).mono ?_; rintro e w1 ⟨rfl, rfl⟩)
    go_step3
    go_wp2
    go_loopw [9] (fun j wr => j = .int .i64 1 ∧ wr = w1) (fun _ _ => 0)
    case atStart => exact ⟨rfl, rfl⟩
    case round =>
      obtain ⟨rfl, rfl⟩ := hrel
      go_wp2
      go_step3
      go_wp2
      go_quiet (fail)
      generalize hW1 : wr.drewN _ = W1
      have hB1 : Hid (Below wr.heap.size wr W1) := by rw [← hW1]; exact below_dN (Below.refl _ _) _
      clear hW1
      go_wp2
      go_quiet ((go_at_call 112; exact Calls.quiet_of_same (unhide qi' _)))
      go_wp2
      rw [Exit.noGoto_ret]
      simp (config := { zetaDelta := true }) only [Exit.inBlock, Exit.then, Exit.noGoto_ret]
      go_ret
      exact ⟨rfl, below_dN hB1.out _⟩
  · have hz' : (bars2.size : Int) = 2 := rfl
    have ew : IntKind.i64.wrap ((E.size : Int) - 1) = (E.size : Int) - 1 := by rw [IntKind.wrap_i64]; omega
    go_enter Tryd.func100, Tryd.ntmps100
    go_wp2_with (go_at_call 113; refine (q0.out _).mono ?_; rintro e w1 ⟨rfl, rfl⟩)
    go_step3
    go_wp2
    go_loopw [9] (fun j wr => j = .int .i64 ((E.size : Int) - 1) ∧ wr = w1) (fun _ _ => 0)
    case atStart => exact ⟨rfl, rfl⟩
    case round =>
      obtain ⟨rfl, rfl⟩ := hrel
      have i3 : ¬ (E.size : Int) - 1 < 2 := by omega
      go_wp2
      go_ret
      exact ⟨rfl, Below.refl _ _⟩
set_option maxRecDepth 100000 in
set_option maxHeartbeats 1000000 in
theorem indexAny_short (w : World) (s : ByteArray) (l : List UInt8) (hs : s.data.toList = l) (h8 : s.size ≤ 8) (hwr : S.wr l = true) :
    Calls Tryd.prog 95 #[.string s, .string bars2] w fun e w' => ∃ r : Int, e = .returned (.int .i64 r) ∧ (decide (0 ≤ r) = !S.nobar l) ∧ Below w.heap.size w w' := by
  have hn := size_of s l hs
  have hz : bars2.size = 2 := rfl
  have hz' : (bars2.size : Int) = 2 := rfl
  have hne : bars2 ≠ ⟨#[]⟩ := by intro e; have := congrArg ByteArray.size e; rw [hz] at this; exact absurd this (by decide)
  obtain ⟨n1, n2, n3, n4, n5⟩ := str_ne4' hne
  have n6 : ¬ bars2.toList = [] := by rw [str_toList2]; decide
  have n7 : (bars2.toList == []) = false := by simpa using n6
  have n8 : bars2.toList.isEmpty = false := by simpa using n6
  have q0 := hide (fun W => Tryd.strings_shouldUseASCIISet (s.size : Int) W)
  obtain ⟨R, hR⟩ : ∃ R, S.nobar l = R := ⟨_, rfl⟩
  rw [hR]
  replace hR := hide hR
  have hs' := hide hs
  have hnH := hide hn
  have hwr' := hide hwr
  clear hs hn hwr hne
  go_enter Tryd.func95, Tryd.ntmps95
  go_wp2_with (go_at_call 101; refine (q0.out _).mono ?_; rintro e w1 ⟨rfl, rfl⟩)
  go_loopw [] (fun wr => ∃ pos : Nat, pos ≤ s.size ∧ Hid (wr.heap[w1.heap.size]? = some (.stringIter s pos)) ∧ Hid (Below w1.heap.size w1 wr) ∧ Hid (S.wr (l.drop pos) = true) ∧ Hid (S.nobar (l.drop pos) = R)) (fun wr => s.size - wr.iterPos w1.heap.size)
  case atStart => exact ⟨0, Nat.zero_le _, heap_alloc_new w1 _, (Below.refl _ w1).alloc (Nat.le_refl _) _, hwr', hR⟩
  case round =>
    obtain ⟨pos, hp, hit, hB, hw1, hr⟩ := hrel
    by_cases hlt : pos < s.size
    · have hnx : ∀ ty, (Instr.next (.pointer (some ⟨w1.heap.size, 0, none⟩)) true ty).run Tryd.prog wr = _ := fun ty => Lib.run_next_any_at wr w1.heap.size s pos ty hit.out hlt
      have hll : pos < l.length := by rw [← hnH.out]; exact hlt
      obtain ⟨b, t, hd, hgb⟩ := drop_at hll
      have hsay := S.decode_says s l hs'.out pos hll
      have hval := decode_valid s pos
      rw [hd] at hsay
      obtain ⟨says0, says1⟩ := hsay
      obtain ⟨D, hD⟩ : ∃ D, Utf8.decode s pos = D := ⟨_, rfl⟩
      have hit2 := hide (Lib.iterAt_heap wr w1.heap.size s pos (pos + D.2) hit.out)
      have hB2 := hide (Lib.below_iterAt hB.out (k := w1.heap.size) (Nat.le_refl _) s (pos + D.2))
      rw [hD] at hnx says0 says1 hval
      obtain ⟨W2, hW2⟩ : ∃ W, wr.iterAt w1.heap.size s (pos + D.2) = W := ⟨_, rfl⟩
      rw [hW2] at hnx hit2 hB2
      have hr' := hr.out
      have hw' := hw1.out
      rw [hd] at hr' hw'
      have h0 : S.chr (b :: t) ≠ 0 := by
        intro e
        rw [S.wr_none e] at hw'
        exact absurd hw' (by simp)
      have hct : S.ctl b = false := by
        cases hc : S.ctl b
        · rfl
        · rw [S.wr_ctl hc] at hw'
          exact absurd hw' (by simp)
      have hchl := S.chr_le (b :: t)
      have htl : (b :: t).length = l.length - pos := by rw [← hd, List.length_drop]
      obtain ⟨r, n⟩ := D
      obtain ⟨e1, e2, e3, e4⟩ := says1 h0
      simp only at hnx hit2 hval e1 e2 e3 e4
      rw [← e1] at hchl
      have hn0 : 0 < n := by omega
      have hpn : pos + n ≤ s.size := by
        have := hnH.out
        omega
      have hme : s.size - W2.iterPos w1.heap.size < s.size - wr.iterPos w1.heap.size := by
        unfold World.iterPos
        rw [hit.out, hit2.out]
        simp only
        omega
      replace hme := hide hme
      have hon : Hid (S.wr (l.drop (pos + n)) = true) := by
        have := hw'
        rw [S.wr_on hct h0, ← e1, ← hd, List.drop_drop] at this
        exact this
      by_cases hbad : b = 124 ∨ b = 92
      · have hb128 : b.toNat < 128 := by rcases hbad with rfl | rfl <;> decide
        have hr0 : r = b.toNat := e4 (e3.2 hb128)
        have hR2 : Hid (R = false) := by
          rw [← hr']
          rcases hbad with rfl | rfl <;> rfl
        subst hr0
        have qr := hide (fun W => Tryd.strings_IndexRune_ascii bars2 (b.toNat : Int) W (by omega) (by omega))
        obtain ⟨v, hv, hv0⟩ : ∃ v : Nat, Lib.indexByte bars2.data.toList ((b.toNat : Int).toNat.toUInt8) = (v : Int) ∧ v ≤ 1 := by
          rcases hbad with rfl | rfl
          · exact ⟨0, by decide, by decide⟩
          · exact ⟨1, by decide, by decide⟩
        rw [hv] at qr
        have i5 : (0 : Int) ≤ v := by omega
        clear says0 says1 hr' hr e1 e2 e3 e4 h0 hd hgb hchl htl hD hW2 hR hct hw' hv hbad hval
        go_wp2_with (go_at_call 100; refine (qr.out _).mono ?_; rintro e w2 ⟨rfl, rfl⟩)
        go_ret
        exact ⟨_, rfl, by rw [hR2.out]; simp, hB2.out⟩
      · have nb1 : b ≠ 124 := fun e => hbad (.inl e)
        have nb2 : b ≠ 92 := fun e => hbad (.inr e)
        have hnb : Hid (S.nobar (l.drop (pos + n)) = R) := by
          have := hr'
          rw [S.nobar_char b t h0 nb1 nb2, ← e1, ← hd, List.drop_drop] at this
          exact this
        by_cases hr128 : r < 128
        · have hr0 : r = b.toNat := e4 hr128
          subst hr0
          have qr := hide (fun W => Tryd.strings_IndexRune_ascii bars2 (b.toNat : Int) W (by omega) (by omega))
          have hv : Lib.indexByte bars2.data.toList ((b.toNat : Int).toNat.toUInt8) = -1 := by
            have eb : (b.toNat : Int).toNat.toUInt8 = b := by simp
            rw [eb]
            show Lib.indexByte [124, 92] b = -1
            have m1 : ((124 : UInt8) == b) = false := by simpa using fun e => nb1 e.symm
            have m2 : ((92 : UInt8) == b) = false := by simpa using fun e => nb2 e.symm
            simp only [Lib.indexByte, m1, m2]
            rfl
          rw [hv] at qr
          clear says0 says1 hr' hr e1 e2 e3 e4 h0 hd hgb hchl htl hD hW2 hR hct hw' hv hbad hval nb1 nb2
          go_wp2_with (go_at_call 100; refine (qr.out _).mono ?_; rintro e w2 ⟨rfl, rfl⟩)
          go_roundw
          case rel => exact ⟨pos + n, hpn, hit2, hB2, hon, hnb⟩
          case measure => exact hme.out
        · have qr : Hid (∀ W, Calls Tryd.prog 100 #[.string bars2, .int .i32 r] W fun e w' => e = .returned (.int .i64 (-1)) ∧ Below W.heap.size W w') := by
            intro W
            by_cases hrE : r = 65533
            · rw [hrE]
              exact indexRune_err W
            · exact indexRune_high W r (by omega) hval hrE
          have hitk := hide (fun w2 (b2 : Below W2.heap.size W2 w2) => (b2.block w1.heap.size (Array.getElem?_eq_some_iff.1 hit2.out).1).trans hit2.out)
          have hme2 := hide (fun w2 (b2 : Below W2.heap.size W2 w2) => show s.size - w2.iterPos w1.heap.size < s.size - wr.iterPos w1.heap.size by
            unfold World.iterPos
            rw [hit.out, hitk.out w2 b2]
            simp only
            omega)
          clear says0 says1 hr' hr e1 e2 e3 e4 h0 hd hgb hchl htl hD hW2 hR hct hw' hbad hval nb1 nb2
          go_wp2_with (go_at_call 100; refine (qr.out _).mono ?_; rintro e w2 ⟨rfl, b2⟩; replace b2 := hide b2)
          go_roundw
          case rel => exact ⟨pos + n, hpn, hitk.out _ b2.out, hB2.out.trans (b2.out.mono hB2.out.size), hon, hnb⟩
          case measure => exact hme2.out _ b2.out
    · have hnx : ∀ ty, (Instr.next (.pointer (some ⟨w1.heap.size, 0, none⟩)) true ty).run Tryd.prog wr = _ := fun ty => Lib.run_next_end_at wr w1.heap.size s pos ty hit.out hlt
      have hR2 : Hid (R = true) := by
        have := hr.out
        rw [List.drop_eq_nil_of_le (by rw [← hnH.out]; omega)] at this
        exact this.symm
      go_wp2
      go_ret
      exact ⟨_, rfl, by rw [hR2.out]; rfl, hB.out⟩
theorem indexAny_nobar : ∀ l : List UInt8, decide (0 ≤ Lib.indexAny l [124, 92]) = !S.nobar l
  | [] => rfl
  | b :: t => by
    have ih := indexAny_nobar t
    have hg := Lib.indexAny_ge [124, 92] t
    unfold Lib.indexAny
    by_cases hb : b = 124 ∨ b = 92
    · have : ([124, 92] : List UInt8).contains b = true := by rcases hb with rfl | rfl <;> decide
      rw [if_pos this]
      rcases hb with rfl | rfl <;> rfl
    · have : ([124, 92] : List UInt8).contains b = false := by
        simp
        exact ⟨fun e => hb (.inl e), fun e => hb (.inr e)⟩
      rw [if_neg (by rw [this]; simp)]
      have hn : S.nobar (b :: t) = S.nobar t := by
        unfold S.nobar
        rw [List.all_cons]
        have n1 : b ≠ 124 := fun e => hb (.inl e)
        have n2 : b ≠ 92 := fun e => hb (.inr e)
        simp [n1, n2]
      rw [hn, ← ih]
      by_cases hm : Lib.indexAny t [124, 92] = -1
      · rw [if_pos (by rw [hm]; rfl), hm]
      · rw [if_neg (by simpa using hm)]
        have h0 : 0 ≤ Lib.indexAny t [124, 92] := by omega
        simp [h0]
        omega
set_option maxRecDepth 100000 in
set_option maxHeartbeats 1000000 in
theorem containsAny_calls (w : World) (s : ByteArray) (l : List UInt8) (hs : s.data.toList = l) (hl : l.length ≤ 1073741824) (hwr : S.wr l = true) :
    Calls Tryd.prog 87 #[.string s, .string bars2] w fun e w' => e = .returned (.bool (!S.nobar l)) ∧ Below w.heap.size w w' := by
  have hn := size_of s l hs
  have q0 : Hid (Calls Tryd.prog 95 #[.string s, .string bars2] w fun e w' => ∃ r : Int, e = .returned (.int .i64 r) ∧ (decide (0 ≤ r) = !S.nobar l) ∧ Below w.heap.size w w') := by
    by_cases h8 : s.size ≤ 8
    · exact indexAny_short w s l hs h8 hwr
    · have hasc : ∀ (j : Nat) b, bars2.data.toList[j]? = some b → b.toNat < 128 := by
        intro j b hb
        have hj : bars2.data.toList = [124, 92] := rfl
        rw [hj] at hb
        rcases j with _ | _ | j
        · simp at hb; subst hb; decide
        · simp at hb; subst hb; decide
        · simp at hb
      refine (Tryd.strings_IndexAny_long (zero_of_info (n := 256) (by kernel_rfl)).1 s bars2 w (by decide) (by omega) (by omega) (by decide) hasc).mono fun e w' ⟨h1, h2⟩ => ⟨_, h1, ?_, ?_⟩
      · rw [hs]
        exact indexAny_nobar l
      · rw [h2]
        exact ((Below.refl _ _).alloc (Nat.le_refl _) _).alloc (by simp) _
  obtain ⟨R, hR⟩ : ∃ R, (!S.nobar l) = R := ⟨_, rfl⟩
  rw [hR] at q0 ⊢
  clear hR hs hl hwr hn
  go_enter Tryd.func87, Tryd.ntmps87
  go_wp2_with (go_at_call 95; refine q0.out.mono ?_; rintro e w1 ⟨r, rfl, hr, b1⟩; replace hr := hide hr; replace b1 := hide b1)
  go_ret
  exact ⟨ret_bool (by rw [← hr.out]), b1.out⟩
end Go.Proofs.YtjbalgjdcdmjjaaDoor
