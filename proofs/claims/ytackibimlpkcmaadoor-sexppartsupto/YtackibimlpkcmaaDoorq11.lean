/- Laid together of: Quote3, Quote4. -/
import Derived.Test.YtackibimlpkcmaaDoorq10
import Derived.Laws.Runes
import Derived.Lib.Replace
import Derived.Lib.SplitLaws
/- ==== Quote3 ==== -/
namespace Go.Proofs.YtackibimlpkcmaaDoor
open Go.RowKit
set_option linter.unusedVariables false
theorem decode_valid (s : ByteArray) (i : Nat) : (Utf8.decode s i).1 < 55296 ∨ (57344 ≤ (Utf8.decode s i).1 ∧ (Utf8.decode s i).1 ≤ 1114111) := by
  rw [Lib.decode_at]
  have h0 : (s.get! i).toNat < 256 := UInt8.toNat_lt _
  unfold Lib.decodeN
  repeat' split
  all_goals first | (left; show _ < 55296; omega) | (right; show _ ∧ _; omega) | (rename_i h; exact h.2)
theorem below_dN {n : Nat} {w w' : World} (h : Below n w w') (k : Nat) : Below n w (w'.drewN k) := ⟨h.os, h.tape, h.output, h.size, h.block⟩
def bars2 : ByteArray := ⟨#[124, 92]⟩
theorem bars2_get (k : Nat) (h : k < bars2.size) : (bars2[k]'h).toNat < 128 := by
  have h2 : k < 2 := h
  rcases (by omega : k = 0 ∨ k = 1) with rfl | rfl
  · show (124 : UInt8).toNat < 128
    decide
  · show (92 : UInt8).toNat < 128
    decide
set_option maxRecDepth 100000 in
set_option maxHeartbeats 1000000 in
theorem indexRune_err (w : World) : Calls Tryd.prog 103 #[.string bars2, .int .i32 65533] w fun e w' => e = .returned (.int .i64 (-1)) ∧ Below w.heap.size w w' := by
  have hz : bars2.size = 2 := rfl
  have hgH := hide bars2_get
  obtain ⟨s, hs⟩ : ∃ s, bars2 = s := ⟨_, rfl⟩
  rw [hs] at hz hgH ⊢
  clear hs
  go_enter Tryd.func103, Tryd.ntmps103
  go_wp2
  go_loopw [] (fun wr => ∃ pos : Nat, pos ≤ 2 ∧ Hid (wr.heap[w.heap.size]? = some (.stringIter s pos)) ∧ Hid (Below w.heap.size w wr)) (fun wr => 2 - wr.iterPos w.heap.size)
  case atStart =>
    exact ⟨0, by decide, heap_alloc_new w _, (Below.refl _ w).alloc (Nat.le_refl _) _⟩
  case round =>
    obtain ⟨pos, hp, hit, hB⟩ := hrel
    by_cases hlt : pos < s.size
    · have ha := hgH.out pos hlt
      have hnx : ∀ ty, (Instr.next (.pointer (some ⟨w.heap.size, 0, none⟩)) true ty).run Tryd.prog wr = _ := fun ty => Lib.run_next_ascii_at wr w.heap.size s pos ty hit.out hlt ha
      have hit2 := hide (Lib.iterAt_heap wr w.heap.size s pos (pos + 1) hit.out)
      have hB2 := hide (Lib.below_iterAt hB.out (k := w.heap.size) (Nat.le_refl _) s (pos + 1))
      obtain ⟨W2, hW2⟩ : ∃ W, wr.iterAt w.heap.size s (pos + 1) = W := ⟨_, rfl⟩
      rw [hW2] at hnx hit2 hB2
      obtain ⟨b, hb⟩ : ∃ b, s[pos]'hlt = b := ⟨_, rfl⟩
      rw [hb] at hnx ha
      have i1 : ¬ (b.toNat : Int) = 65533 := by omega
      have hme : s.size - W2.iterPos w.heap.size < s.size - wr.iterPos w.heap.size := by
        unfold World.iterPos
        rw [hit.out, hit2.out]
        simp only
        omega
      rw [hz] at hme
      replace hme := hide hme
      clear hb hW2
      go_wp2
      go_roundw
      case rel => exact ⟨pos + 1, by omega, hit2, hB2⟩
      case measure => exact hme.out
    · have hnx : ∀ ty, (Instr.next (.pointer (some ⟨w.heap.size, 0, none⟩)) true ty).run Tryd.prog wr = _ := fun ty => Lib.run_next_end_at wr w.heap.size s pos ty hit.out hlt
      go_wp2
      go_ret
      exact ⟨rfl, hB.out⟩
theorem valid_of (r : Nat) (h : r < 55296 ∨ (57344 ≤ r ∧ r ≤ 1114111)) : Lib.validRune (r : Int) = true ∧ Utf8.valid (r : Int) = true := by
  unfold Lib.validRune Utf8.valid
  simp
  omega
set_option maxRecDepth 100000 in
set_option maxHeartbeats 1000000 in
theorem indexRune_high (w : World) (r : Nat) (h128 : 128 ≤ r) (hv : r < 55296 ∨ (57344 ≤ r ∧ r ≤ 1114111)) (hne : r ≠ 65533) : Calls Tryd.prog 103 #[.string bars2, .int .i32 r] w fun e w' => e = .returned (.int .i64 (-1)) ∧ Below w.heap.size w w' := by
  obtain ⟨v1, v2⟩ := valid_of r hv
  obtain ⟨f1, f2, f3⟩ := encode_facts (r : Int) v2 (by omega)
  have q0 := hide (fun W => Tryd.utf8_ValidRune (r : Int) W)
  rw [v1] at q0
  have hcv : ∀ W, (convert 21 9 (.int .i32 (r : Int))).run Tryd.prog W = .ok (.string (Utf8.encode (r : Int))) W := fun W => by go_simp
  obtain ⟨E, hE⟩ : ∃ E, Utf8.encode (r : Int) = E := ⟨_, rfl⟩
  rw [hE] at hcv f1 f2 f3
  clear hE v1 v2
  have i1 : ¬ (r : Int) < 128 := by omega
  have i2 : ¬ (r : Int) = 65533 := by omega
  have hz : bars2.size = 2 := rfl
  have hx : bars2[1]'(by decide) = 92 := rfl
  obtain ⟨s, hs⟩ : ∃ s, bars2 = s := ⟨_, rfl⟩
  rw [hs] at hz
  subst hs
  by_cases h2 : E.size = 2
  · have hl : 1 < E.size := by omega
    have f4 : 128 ≤ (E[1]'hl).toNat := by
      have := f3 (by omega)
      simpa [h2] using this
    obtain ⟨c, hc⟩ : ∃ c, E[1]'hl = c := ⟨_, rfl⟩
    rw [hc] at f4
    have i4 : ¬ (92 : Int) = c.toNat := by omega
    have qi := hide (fun W => Tryd.strings_IndexByte (bars2.extract 2 bars2.size) (c.toNat : Int) W)
    have sl : ∀ W, (Instr.sliceAt 9 (.string bars2) (some (.int .i64 2)) none none).run Tryd.prog W = .ok (.string (bars2.extract 2 bars2.size)) W := fun W => run_tail bars2 2 (by decide) W
    have ew2 : IntKind.i64.wrap 2 = 2 := by rw [IntKind.wrap_i64]; rfl
    have hb1 : (bars2.extract 2 bars2.size).data.toList = [] := by decide
    rw [hb1] at qi
    have qi' : Hid (∀ W, Calls Tryd.prog 115 #[.string (bars2.extract 2 bars2.size), .int .u8 c.toNat] W fun e w' => e = .returned (.int .i64 (-1)) ∧ w' = W) := qi
    clear qi hb1 f3
    obtain ⟨sx, hsx⟩ : ∃ x, bars2.extract 2 bars2.size = x := ⟨_, rfl⟩
    rw [hsx] at qi' sl
    clear hsx
    go_enter Tryd.func103, Tryd.ntmps103
    go_wp2_with (go_at_call 116; refine (q0.out _).mono ?_; rintro e w1 ⟨rfl, rfl⟩)
    go_step3
    go_wp2
    go_loopw [9] (fun j wr => j = .int .i64 1 ∧ wr = w1) (fun _ _ => 0)
    case atStart => exact ⟨rfl, rfl⟩
    case round =>
      obtain ⟨rfl, rfl⟩ := hrel
      go_wp2
      go_step3
      go_wp2
      go_quiet (fail)
      generalize hW1 : wr.drewN _ = W1
      have hB1 : Hid (Below wr.heap.size wr W1) := by rw [← hW1]; exact below_dN (Below.refl _ _) _
      clear hW1
      go_wp2
      go_quiet ((go_at_call 115; exact Calls.quiet_of_same (unhide qi' _)))
      go_wp2
      rw [Exit.noGoto_ret]
      simp (config := { zetaDelta := true }) only [Exit.inBlock, Exit.then, Exit.noGoto_ret]
      go_ret
      exact ⟨rfl, below_dN hB1.out _⟩
  · have hz' : (bars2.size : Int) = 2 := rfl
    have ew : IntKind.i64.wrap ((E.size : Int) - 1) = (E.size : Int) - 1 := by rw [IntKind.wrap_i64]; omega
    go_enter Tryd.func103, Tryd.ntmps103
    go_wp2_with (go_at_call 116; refine (q0.out _).mono ?_; rintro e w1 ⟨rfl, rfl⟩)
    go_step3
    go_wp2
    go_loopw [9] (fun j wr => j = .int .i64 ((E.size : Int) - 1) ∧ wr = w1) (fun _ _ => 0)
    case atStart => exact ⟨rfl, rfl⟩
    case round =>
      obtain ⟨rfl, rfl⟩ := hrel
      have i3 : ¬ (E.size : Int) - 1 < 2 := by omega
      go_wp2
      go_ret
      exact ⟨rfl, Below.refl _ _⟩
set_option maxRecDepth 100000 in
set_option maxHeartbeats 1000000 in
theorem indexAny_short (w : World) (s : ByteArray) (l : List UInt8) (hs : s.data.toList = l) (h8 : s.size ≤ 8) (hwr : S.wr l = true) :
    Calls Tryd.prog 98 #[.string s, .string bars2] w fun e w' => ∃ r : Int, e = .returned (.int .i64 r) ∧ (decide (0 ≤ r) = !S.nobar l) ∧ Below w.heap.size w w' := by
  have hn := size_of s l hs
  have hz : bars2.size = 2 := rfl
  have hz' : (bars2.size : Int) = 2 := rfl
  have hne : bars2 ≠ ⟨#[]⟩ := by intro e; have := congrArg ByteArray.size e; rw [hz] at this; exact absurd this (by decide)
  obtain ⟨n1, n2, n3, n4, n5⟩ := str_ne4' hne
  have n6 : ¬ bars2.toList = [] := by rw [str_toList2]; decide
  have n7 : (bars2.toList == []) = false := by simpa using n6
  have n8 : bars2.toList.isEmpty = false := by simpa using n6
  have q0 := hide (fun W => Tryd.strings_shouldUseASCIISet (s.size : Int) W)
  obtain ⟨R, hR⟩ : ∃ R, S.nobar l = R := ⟨_, rfl⟩
  rw [hR]
  replace hR := hide hR
  have hs' := hide hs
  have hnH := hide hn
  have hwr' := hide hwr
  clear hs hn hwr hne
  go_enter Tryd.func98, Tryd.ntmps98
  go_wp2_with (go_at_call 104; refine (q0.out _).mono ?_; rintro e w1 ⟨rfl, rfl⟩)
  go_loopw [] (fun wr => ∃ pos : Nat, pos ≤ s.size ∧ Hid (wr.heap[w1.heap.size]? = some (.stringIter s pos)) ∧ Hid (Below w1.heap.size w1 wr) ∧ Hid (S.wr (l.drop pos) = true) ∧ Hid (S.nobar (l.drop pos) = R)) (fun wr => s.size - wr.iterPos w1.heap.size)
  case atStart => exact ⟨0, Nat.zero_le _, heap_alloc_new w1 _, (Below.refl _ w1).alloc (Nat.le_refl _) _, hwr', hR⟩
  case round =>
    obtain ⟨pos, hp, hit, hB, hw1, hr⟩ := hrel
    by_cases hlt : pos < s.size
    · have hnx : ∀ ty, (Instr.next (.pointer (some ⟨w1.heap.size, 0, none⟩)) true ty).run Tryd.prog wr = _ := fun ty => Lib.run_next_any_at wr w1.heap.size s pos ty hit.out hlt
      have hll : pos < l.length := by rw [← hnH.out]; exact hlt
      obtain ⟨b, t, hd, hgb⟩ := drop_at hll
      have hsay := S.decode_says s l hs'.out pos hll
      have hval := decode_valid s pos
      rw [hd] at hsay
      obtain ⟨says0, says1⟩ := hsay
      obtain ⟨D, hD⟩ : ∃ D, Utf8.decode s pos = D := ⟨_, rfl⟩
      have hit2 := hide (Lib.iterAt_heap wr w1.heap.size s pos (pos + D.2) hit.out)
      have hB2 := hide (Lib.below_iterAt hB.out (k := w1.heap.size) (Nat.le_refl _) s (pos + D.2))
      rw [hD] at hnx says0 says1 hval
      obtain ⟨W2, hW2⟩ : ∃ W, wr.iterAt w1.heap.size s (pos + D.2) = W := ⟨_, rfl⟩
      rw [hW2] at hnx hit2 hB2
      have hr' := hr.out
      have hw' := hw1.out
      rw [hd] at hr' hw'
      have h0 : S.chr (b :: t) ≠ 0 := by
        intro e
        rw [S.wr_none e] at hw'
        exact absurd hw' (by simp)
      have hct : S.ctl b = false := by
        cases hc : S.ctl b
        · rfl
        · rw [S.wr_ctl hc] at hw'
          exact absurd hw' (by simp)
      have hchl := S.chr_le (b :: t)
      have htl : (b :: t).length = l.length - pos := by rw [← hd, List.length_drop]
      obtain ⟨r, n⟩ := D
      obtain ⟨e1, e2, e3, e4⟩ := says1 h0
      simp only at hnx hit2 hval e1 e2 e3 e4
      rw [← e1] at hchl
      have hn0 : 0 < n := by omega
      have hpn : pos + n ≤ s.size := by
        have := hnH.out
        omega
      have hme : s.size - W2.iterPos w1.heap.size < s.size - wr.iterPos w1.heap.size := by
        unfold World.iterPos
        rw [hit.out, hit2.out]
        simp only
        omega
      replace hme := hide hme
      have hon : Hid (S.wr (l.drop (pos + n)) = true) := by
        have := hw'
        rw [S.wr_on hct h0, ← e1, ← hd, List.drop_drop] at this
        exact this
      by_cases hbad : b = 124 ∨ b = 92
      · have hb128 : b.toNat < 128 := by rcases hbad with rfl | rfl <;> decide
        have hr0 : r = b.toNat := e4 (e3.2 hb128)
        have hR2 : Hid (R = false) := by
          rw [← hr']
          rcases hbad with rfl | rfl <;> rfl
        subst hr0
        have qr := hide (fun W => Tryd.strings_IndexRune_ascii bars2 (b.toNat : Int) W (by omega) (by omega))
        obtain ⟨v, hv, hv0⟩ : ∃ v : Nat, Lib.indexByte bars2.data.toList ((b.toNat : Int).toNat.toUInt8) = (v : Int) ∧ v ≤ 1 := by
          rcases hbad with rfl | rfl
          · exact ⟨0, by decide, by decide⟩
          · exact ⟨1, by decide, by decide⟩
        rw [hv] at qr
        have i5 : (0 : Int) ≤ v := by omega
        clear says0 says1 hr' hr e1 e2 e3 e4 h0 hd hgb hchl htl hD hW2 hR hct hw' hv hbad hval
        go_wp2_with (go_at_call 103; refine (qr.out _).mono ?_; rintro e w2 ⟨rfl, rfl⟩)
        go_ret
        exact ⟨_, rfl, by rw [hR2.out]; simp, hB2.out⟩
      · have nb1 : b ≠ 124 := fun e => hbad (.inl e)
        have nb2 : b ≠ 92 := fun e => hbad (.inr e)
        have hnb : Hid (S.nobar (l.drop (pos + n)) = R) := by
          have := hr'
          rw [S.nobar_char b t h0 nb1 nb2, ← e1, ← hd, List.drop_drop] at this
          exact this
        by_cases hr128 : r < 128
        · have hr0 : r = b.toNat := e4 hr128
          subst hr0
          have qr := hide (fun W => Tryd.strings_IndexRune_ascii bars2 (b.toNat : Int) W (by omega) (by omega))
          have hv : Lib.indexByte bars2.data.toList ((b.toNat : Int).toNat.toUInt8) = -1 := by
            have eb : (b.toNat : Int).toNat.toUInt8 = b := by simp
            rw [eb]
            show Lib.indexByte [124, 92] b = -1
            have m1 : ((124 : UInt8) == b) = false := by simpa using fun e => nb1 e.symm
            have m2 : ((92 : UInt8) == b) = false := by simpa using fun e => nb2 e.symm
            simp only [Lib.indexByte, m1, m2]
            rfl
          rw [hv] at qr
          clear says0 says1 hr' hr e1 e2 e3 e4 h0 hd hgb hchl htl hD hW2 hR hct hw' hv hbad hval nb1 nb2
          go_wp2_with (go_at_call 103; refine (qr.out _).mono ?_; rintro e w2 ⟨rfl, rfl⟩)
          go_roundw
          case rel => exact ⟨pos + n, hpn, hit2, hB2, hon, hnb⟩
          case measure => exact hme.out
        · have qr : Hid (∀ W, Calls Tryd.prog 103 #[.string bars2, .int .i32 r] W fun e w' => e = .returned (.int .i64 (-1)) ∧ Below W.heap.size W w') := by
            intro W
            by_cases hrE : r = 65533
            · rw [hrE]
              exact indexRune_err W
            · exact indexRune_high W r (by omega) hval hrE
          have hitk := hide (fun w2 (b2 : Below W2.heap.size W2 w2) => (b2.block w1.heap.size (Array.getElem?_eq_some_iff.1 hit2.out).1).trans hit2.out)
          have hme2 := hide (fun w2 (b2 : Below W2.heap.size W2 w2) => show s.size - w2.iterPos w1.heap.size < s.size - wr.iterPos w1.heap.size by
            unfold World.iterPos
            rw [hit.out, hitk.out w2 b2]
            simp only
            omega)
          clear says0 says1 hr' hr e1 e2 e3 e4 h0 hd hgb hchl htl hD hW2 hR hct hw' hbad hval nb1 nb2
          go_wp2_with (go_at_call 103; refine (qr.out _).mono ?_; rintro e w2 ⟨rfl, b2⟩; replace b2 := hide b2)
          go_roundw
          case rel => exact ⟨pos + n, hpn, hitk.out _ b2.out, hB2.out.trans (b2.out.mono hB2.out.size), hon, hnb⟩
          case measure => exact hme2.out _ b2.out
    · have hnx : ∀ ty, (Instr.next (.pointer (some ⟨w1.heap.size, 0, none⟩)) true ty).run Tryd.prog wr = _ := fun ty => Lib.run_next_end_at wr w1.heap.size s pos ty hit.out hlt
      have hR2 : Hid (R = true) := by
        have := hr.out
        rw [List.drop_eq_nil_of_le (by rw [← hnH.out]; omega)] at this
        exact this.symm
      go_wp2
      go_ret
      exact ⟨_, rfl, by rw [hR2.out]; rfl, hB.out⟩
theorem indexAny_nobar : ∀ l : List UInt8, decide (0 ≤ Lib.indexAny l [124, 92]) = !S.nobar l
  | [] => rfl
  | b :: t => by
    have ih := indexAny_nobar t
    have hg := Lib.indexAny_ge [124, 92] t
    unfold Lib.indexAny
    by_cases hb : b = 124 ∨ b = 92
    · have : ([124, 92] : List UInt8).contains b = true := by rcases hb with rfl | rfl <;> decide
      rw [if_pos this]
      rcases hb with rfl | rfl <;> rfl
    · have : ([124, 92] : List UInt8).contains b = false := by
        simp
        exact ⟨fun e => hb (.inl e), fun e => hb (.inr e)⟩
      rw [if_neg (by rw [this]; simp)]
      have hn : S.nobar (b :: t) = S.nobar t := by
        unfold S.nobar
        rw [List.all_cons]
        have n1 : b ≠ 124 := fun e => hb (.inl e)
        have n2 : b ≠ 92 := fun e => hb (.inr e)
        simp [n1, n2]
      rw [hn, ← ih]
      by_cases hm : Lib.indexAny t [124, 92] = -1
      · rw [if_pos (by rw [hm]; rfl), hm]
      · rw [if_neg (by simpa using hm)]
        have h0 : 0 ≤ Lib.indexAny t [124, 92] := by omega
        simp [h0]
        omega
set_option maxRecDepth 100000 in
set_option maxHeartbeats 1000000 in
theorem containsAny_calls (w : World) (s : ByteArray) (l : List UInt8) (hs : s.data.toList = l) (hl : l.length ≤ 1073741824) (hwr : S.wr l = true) :
    Calls Tryd.prog 90 #[.string s, .string bars2] w fun e w' => e = .returned (.bool (!S.nobar l)) ∧ Below w.heap.size w w' := by
  have hn := size_of s l hs
  have q0 : Hid (Calls Tryd.prog 98 #[.string s, .string bars2] w fun e w' => ∃ r : Int, e = .returned (.int .i64 r) ∧ (decide (0 ≤ r) = !S.nobar l) ∧ Below w.heap.size w w') := by
    by_cases h8 : s.size ≤ 8
    · exact indexAny_short w s l hs h8 hwr
    · have hasc : ∀ (j : Nat) b, bars2.data.toList[j]? = some b → b.toNat < 128 := by
        intro j b hb
        have hj : bars2.data.toList = [124, 92] := rfl
        rw [hj] at hb
        rcases j with _ | _ | j
        · simp at hb; subst hb; decide
        · simp at hb; subst hb; decide
        · simp at hb
      refine (Tryd.strings_IndexAny_long (zero_of_info (n := 256) (by kernel_rfl)).1 s bars2 w (by decide) (by omega) (by omega) (by decide) hasc).mono fun e w' ⟨h1, h2⟩ => ⟨_, h1, ?_, ?_⟩
      · rw [hs]
        exact indexAny_nobar l
      · rw [h2]
        exact ((Below.refl _ _).alloc (Nat.le_refl _) _).alloc (by simp) _
  obtain ⟨R, hR⟩ : ∃ R, (!S.nobar l) = R := ⟨_, rfl⟩
  rw [hR] at q0 ⊢
  clear hR hs hl hwr hn
  go_enter Tryd.func90, Tryd.ntmps90
  go_wp2_with (go_at_call 98; refine q0.out.mono ?_; rintro e w1 ⟨r, rfl, hr, b1⟩; replace hr := hide hr; replace b1 := hide b1)
  go_ret
  exact ⟨ret_bool (by rw [← hr.out]), b1.out⟩
end Go.Proofs.YtackibimlpkcmaaDoor
/- ==== Quote4 ==== -/
namespace Go.Proofs.YtackibimlpkcmaaDoor
open Go.RowKit
set_option linter.unusedVariables false
theorem idx34 : ∀ s : List UInt8, (Lib.index s [34] = -1 ∧ ∀ x, x ∈ s → x ≠ 34) ∨ ∃ a r, s = a ++ 34 :: r ∧ Lib.index s [34] = (a.length : Int) ∧ ∀ x, x ∈ a → x ≠ 34
  | [] => .inl ⟨rfl, by simp⟩
  | b :: t => by
    unfold Lib.index
    by_cases hb : b = 34
    · subst hb
      refine .inr ⟨[], t, rfl, ?_, by simp⟩
      rw [if_pos (by simp [List.isPrefixOf])]
      rfl
    · have hp : ¬ ([34] : List UInt8).isPrefixOf (b :: t) = true := by simpa [List.isPrefixOf] using fun e => hb e.symm
      rw [if_neg hp]
      rcases idx34 t with ⟨h1, h2⟩ | ⟨a, r, h1, h2, h3⟩
      · refine .inl ⟨by rw [h1]; rfl, ?_⟩
        intro x hx
        rcases List.mem_cons.1 hx with rfl | hx
        · exact hb
        · exact h2 x hx
      · refine .inr ⟨b :: a, r, by rw [h1]; rfl, ?_, ?_⟩
        · rw [h2, if_neg (by simp)]
          simp
        · intro x hx
          rcases List.mem_cons.1 hx with rfl | hx
          · exact hb
          · exact h3 x hx
theorem repl34 : ∀ (f : Nat) (s : List UInt8), s.length < f → Lib.replaceK [34] [34, 34] (Lib.countFrom [34] f s) s = S.dbl s
  | 0, s, h => by omega
  | f + 1, s, h => by
    unfold Lib.countFrom
    rcases idx34 s with ⟨h1, h2⟩ | ⟨a, r, h1, h2, h3⟩
    · rw [h1, if_pos (by decide)]
      unfold Lib.replaceK
      rw [S.dbl_plain s h2]
    · rw [h2, if_neg (by simp)]
      have e1 : ((a.length : Int)).toNat = a.length := by omega
      rw [e1, Nat.add_comm 1, Lib.replaceK_hit [34] [34, 34] _ s a.length h2]
      have e2 : s.drop (a.length + [(34 : UInt8)].length) = r := by
        rw [h1]
        simp [List.drop_append]
      rw [e2, repl34 f r (by rw [h1] at h; simp at h; omega)]
      have e3 : s.take a.length = a := by rw [h1]; simp
      rw [e3]
      conv => rhs; rw [h1]
      rw [S.dbl_append, S.dbl_cons, if_pos rfl, S.dbl_plain a h3]
      simp
theorem replaceAll34 (s : List UInt8) : Lib.replaceAll s [34] [34, 34] = S.dbl s := by
  unfold Lib.replaceAll Lib.replace
  rw [if_neg (by decide)]
  unfold Lib.replaceNum
  rw [if_pos (.inl (by decide))]
  exact repl34 _ s (by omega)
/-- The variable that the library keeps lies there. -/
def Mx (w : World) : Prop := ∃ m, w.cell? ⟨2, 0, none⟩ = some (.int .i64 m)
theorem Mx.below {w w' : World} (h : Mx w) (q : Below w.heap.size w w') : Mx w' := by
  obtain ⟨m, h⟩ := h
  exact ⟨m, (q.cell (p := ⟨_, _, none⟩) (World.block_lt_of_cell? w _ h)).trans h⟩
def qv (o : Option (List UInt8)) : Value := .string ⟨(o.getD []).toArray⟩
def qe (o : Option (List UInt8)) : Int := if o.isSome then 0 else 17
theorem bytes_eq {a b : ByteArray} (h : a.data.toList = b.data.toList) : a = b := by
  cases a with
  | mk a => cases b with
    | mk b => simp at h; rw [h]
theorem ret_qv {s : ByteArray} {k : Int} {o : Option (List UInt8)} (h1 : s.data.toList = o.getD []) (h2 : k = qe o) : Ending.returned (.tuple #[.string s, .int .i64 k]) = .returned (.tuple #[qv o, .int .i64 (qe o)]) := by
  rw [h2]
  unfold qv
  rw [show s = ⟨(o.getD []).toArray⟩ from bytes_eq (by rw [h1])]
set_option maxRecDepth 100000 in
set_option maxHeartbeats 1000000 in
theorem clone_calls (w : World) (s : ByteArray) (hl : s.size ≤ 1073741824) : Calls Tryd.prog 88 #[.string s] w fun e w' => e = .returned (.string s) ∧ Below w.heap.size w w' := by
  have q0 := hide (Tryd.stringslite_Clone s w (by omega))
  go_enter Tryd.func88, Tryd.ntmps88
  go_wp2_with (go_at_call 96; refine q0.out.mono ?_; rintro e w1 ⟨rfl, b1⟩; replace b1 := hide b1)
  go_ret
  exact ⟨rfl, b1.out⟩
set_option maxRecDepth 100000 in
set_option maxHeartbeats 1000000 in
theorem quote_calls (w : World) (hc : Cls w) (s : ByteArray) (l : List UInt8) (hs : s.data.toList = l) (hl : l.length ≤ 1073741824) :
    Calls Tryd.prog 70 #[.string s] w fun e w' => e = .returned (.tuple #[qv (S.quo resv l), .int .i64 (qe (S.quo resv l))]) ∧ Below w.heap.size w w' := by
  have hn := size_of s l hs
  have q0 := hide (simple_calls w hc s l hs hl)
  have q1 := hide (fun W => reserved_calls W s l hs)
  have q2 := hide (clone_calls w s (by omega))
  have q3 := hide (writable_calls w hc s l hs hl)
  have q4 := hide (fun W h => containsAny_calls W s l hs hl h)
  obtain ⟨A, hA⟩ : ∃ A, S.smp l = A := ⟨_, rfl⟩
  obtain ⟨B, hB⟩ : ∃ A, resv l = A := ⟨_, rfl⟩
  obtain ⟨C, hC⟩ : ∃ A, S.wr l = A := ⟨_, rfl⟩
  obtain ⟨D, hD⟩ : ∃ A, S.nobar l = A := ⟨_, rfl⟩
  have hq : S.quo resv l = if A && !B then some l else if C && D then some (124 :: (l ++ [124])) else none := by unfold S.quo; rw [hA, hB, hC, hD]
  rw [hq]
  rw [hA] at q0
  rw [hB] at q1
  rw [hC] at q3 q4
  rw [hD] at q4
  have hs' := hide hs
  have m0 : s.size ≤ 1073741824 := by omega
  clear hA hB hC hD hq hc hs hn hl
  unfold bars2 at q4
  by_cases hAB : A = true ∧ B = false
  · obtain ⟨rfl, rfl⟩ := hAB
    go_enter Tryd.func70, Tryd.ntmps70
    go_wp2_with (first
      | (go_at_call 72; refine q0.out.mono ?_; rintro e w1 ⟨rfl, rfl⟩)
      | (go_at_call 87; refine (q1.out _).mono ?_; rintro e w2 ⟨rfl, rfl⟩)
      | (go_at_call 88; refine q2.out.mono ?_; rintro e w3 ⟨rfl, b3⟩; replace b3 := hide b3))
    go_ret2
    exact ⟨ret_qv (by rw [hs'.out]; rfl) rfl, b3.out⟩
  · have hqq : (A && !B) = false := by
      cases A <;> cases B <;> simp_all
    rw [hqq]
    clear hqq q2
    cases A with
    | true =>
      have hBt : B = true := by cases B <;> simp_all
      subst hBt
      clear hAB
      rcases hCD : C with _ | _
      · subst hCD
        go_enter Tryd.func70, Tryd.ntmps70
        go_wp2_with (first
          | (go_at_call 72; refine q0.out.mono ?_; rintro e w1 ⟨rfl, rfl⟩)
          | (go_at_call 87; refine (q1.out _).mono ?_; rintro e w2 ⟨rfl, rfl⟩)
          | (go_at_call 89; refine q3.out.mono ?_; rintro e w3 ⟨rfl, b3⟩; replace b3 := hide b3))
        go_ret2
        exact ⟨ret_qv rfl rfl, b3.out⟩
      · subst hCD
        rcases hDD : D with _ | _
        · subst hDD
          go_enter Tryd.func70, Tryd.ntmps70
          go_wp2_with (first
            | (go_at_call 72; refine q0.out.mono ?_; rintro e w1 ⟨rfl, rfl⟩)
            | (go_at_call 87; refine (q1.out _).mono ?_; rintro e w2 ⟨rfl, rfl⟩)
            | (go_at_call 89; refine q3.out.mono ?_; rintro e w3 ⟨rfl, b3⟩; have q5 := hide (q4.out w3 (by first | trivial | rfl)); replace b3 := hide b3)
            | (go_at_call 90; refine q5.out.mono ?_; rintro e w4 ⟨rfl, b4⟩; replace b4 := hide b4))
          go_ret2
          exact ⟨ret_qv rfl rfl, b3.out.trans (b4.out.mono b3.out.size)⟩
        · subst hDD
          go_enter Tryd.func70, Tryd.ntmps70
          go_wp2_with (first
            | (go_at_call 72; refine q0.out.mono ?_; rintro e w1 ⟨rfl, rfl⟩)
            | (go_at_call 87; refine (q1.out _).mono ?_; rintro e w2 ⟨rfl, rfl⟩)
            | (go_at_call 89; refine q3.out.mono ?_; rintro e w3 ⟨rfl, b3⟩; have q5 := hide (q4.out w3 (by first | trivial | rfl)); replace b3 := hide b3)
            | (go_at_call 90; refine q5.out.mono ?_; rintro e w4 ⟨rfl, b4⟩; replace b4 := hide b4))
          go_ret2
          exact ⟨ret_qv (by simp [hs'.out]) rfl, b3.out.trans (b4.out.mono b3.out.size)⟩
    | false =>
      clear hAB q1
      rcases hCD : C with _ | _
      · subst hCD
        go_enter Tryd.func70, Tryd.ntmps70
        go_wp2_with (first
          | (go_at_call 72; refine q0.out.mono ?_; rintro e w1 ⟨rfl, rfl⟩)
          | (go_at_call 87; refine (q1.out _).mono ?_; rintro e w2 ⟨rfl, rfl⟩)
          | (go_at_call 89; refine q3.out.mono ?_; rintro e w3 ⟨rfl, b3⟩; replace b3 := hide b3))
        go_ret2
        exact ⟨ret_qv rfl rfl, b3.out⟩
      · subst hCD
        rcases hDD : D with _ | _
        · subst hDD
          go_enter Tryd.func70, Tryd.ntmps70
          go_wp2_with (first
            | (go_at_call 72; refine q0.out.mono ?_; rintro e w1 ⟨rfl, rfl⟩)
            | (go_at_call 87; refine (q1.out _).mono ?_; rintro e w2 ⟨rfl, rfl⟩)
            | (go_at_call 89; refine q3.out.mono ?_; rintro e w3 ⟨rfl, b3⟩; have q5 := hide (q4.out w3 (by first | trivial | rfl)); replace b3 := hide b3)
            | (go_at_call 90; refine q5.out.mono ?_; rintro e w4 ⟨rfl, b4⟩; replace b4 := hide b4))
          go_ret2
          exact ⟨ret_qv rfl rfl, b3.out.trans (b4.out.mono b3.out.size)⟩
        · subst hDD
          go_enter Tryd.func70, Tryd.ntmps70
          go_wp2_with (first
            | (go_at_call 72; refine q0.out.mono ?_; rintro e w1 ⟨rfl, rfl⟩)
            | (go_at_call 87; refine (q1.out _).mono ?_; rintro e w2 ⟨rfl, rfl⟩)
            | (go_at_call 89; refine q3.out.mono ?_; rintro e w3 ⟨rfl, b3⟩; have q5 := hide (q4.out w3 (by first | trivial | rfl)); replace b3 := hide b3)
            | (go_at_call 90; refine q5.out.mono ?_; rintro e w4 ⟨rfl, b4⟩; replace b4 := hide b4))
          go_ret2
          exact ⟨ret_qv (by simp [hs'.out]) rfl, b3.out.trans (b4.out.mono b3.out.size)⟩
set_option maxRecDepth 100000 in
set_option maxHeartbeats 1000000 in
theorem literal_calls (w : World) (hc : Cls w) (hm : Mx w) (s : ByteArray) (l : List UInt8) (hs : s.data.toList = l) (hl : l.length ≤ 1073741824) :
    Calls Tryd.prog 71 #[.string s] w fun e w' => e = .returned (.tuple #[qv (S.lit l), .int .i64 (qe (S.lit l))]) ∧ Below w.heap.size w w' := by
  have hn := size_of s l hs
  have q0 := hide (writable_calls w hc s l hs hl)
  have q1 : Hid (∀ W, Mx W → Calls Tryd.prog 91 #[.string s, .string ⟨#[34]⟩, .string ⟨#[34, 34]⟩] W fun e w' => e = .returned (.string ⟨(S.dbl l).toArray⟩) ∧ Below W.heap.size W w') := by
    intro W ⟨m, hW⟩
    have hcnt : Lib.countB s ⟨#[34]⟩ ≤ s.size := by
      show Lib.count s.data.toList [34] ≤ _
      rw [Lib.count_one, hn, hs]
      exact List.count_le_length
    have := Tryd.strings_ReplaceAll s ⟨#[34]⟩ ⟨#[34, 34]⟩ m W (by omega) hW (by decide) (by
      show s.size + Lib.countB s ⟨#[34]⟩ * 2 ≤ _
      omega)
    rw [hs] at this
    have e : Lib.replaceAll l (⟨#[34]⟩ : ByteArray).data.toList (⟨#[34, 34]⟩ : ByteArray).data.toList = S.dbl l := replaceAll34 l
    rw [e] at this
    exact this
  have hmH := hide hm
  obtain ⟨C, hC⟩ : ∃ A, S.wr l = A := ⟨_, rfl⟩
  have hq : S.lit l = if C then some (34 :: (S.dbl l ++ [34])) else none := by unfold S.lit; rw [hC]
  rw [hq]
  rw [hC] at q0
  obtain ⟨X, hX⟩ : ∃ X, S.dbl l = X := ⟨_, rfl⟩
  have m1 := S.dbl_len l
  rw [hX] at q1 m1 ⊢
  obtain ⟨SX, hSX⟩ : ∃ Y : ByteArray, (⟨X.toArray⟩ : ByteArray) = Y := ⟨_, rfl⟩
  have hxl : SX.data.toList = X := by rw [← hSX]
  replace hxl := hide hxl
  have m0 : SX.size ≤ 2147483648 := by
    rw [size_of SX X hxl.out]
    omega
  rw [hSX] at q1
  clear hC hq hc hs hn hl hm hX hSX m1
  rcases hCD : C with _ | _
  · subst hCD
    go_enter Tryd.func71, Tryd.ntmps71
    go_wp2_with (go_at_call 89; refine q0.out.mono ?_; rintro e w3 ⟨rfl, b3⟩; replace b3 := hide b3)
    go_ret2
    exact ⟨ret_qv rfl rfl, b3.out⟩
  · subst hCD
    go_enter Tryd.func71, Tryd.ntmps71
    go_wp2_with (first
      | (go_at_call 89; refine q0.out.mono ?_; rintro e w3 ⟨rfl, b3⟩; have q2 := hide (q1.out w3 (hmH.out.below b3)); replace b3 := hide b3)
      | (go_at_call 91; refine q2.out.mono ?_; rintro e w4 ⟨rfl, b4⟩; replace b4 := hide b4))
    go_ret2
    exact ⟨ret_qv (by simp [hxl.out]) rfl, b3.out.trans (b4.out.mono b3.out.size)⟩
end Go.Proofs.YtackibimlpkcmaaDoor
