/-
  scan.writable, walked to plain words.
-/
import Derived.Test.YtjbalgjdcdmjjaaDoorQuote1
namespace Go.Proofs.YtjbalgjdcdmjjaaDoor
open Go.RowKit
set_option linter.unusedVariables false
theorem run_tail (s : ByteArray) (n : Nat) (h1 : n ≤ s.size) (W : World) : (Instr.sliceAt 9 (.string s) (some (.int .i64 n)) none none).run Tryd.prog W = .ok (.string (s.extract n s.size)) W := by
  have hu : Tryd.prog.underlying 9 = some .string := by kernel_rfl
  rw [run_sliceAt_string (h := hu)]
  have h0 : (0 : Int) ≤ n := by omega
  have h2 : (n : Int) ≤ s.size := by omega
  go_simp
theorem extract_tail {s : ByteArray} {l : List UInt8} (hs : s.data.toList = l) (a : Nat) : (s.extract a s.size).data.toList = l.drop a := by
  have hn := size_of s l hs
  subst hs
  simp [ByteArray.data_extract]
  rw [List.take_of_length_le]
  rw [List.length_drop]
  omega
theorem cls_below {w w' : World} (h : Cls w) (q : Below w.heap.size w w') : Cls w' := fun j hj => (q.cell (p := ⟨_, _, none⟩) h.lt).trans (h j hj)
theorem pre_bool (l : List UInt8) : Lib.hasPrefix l [239, 191, 189] = true ↔ [239, 191, 189] <+: l := by
  unfold Lib.hasPrefix
  exact List.isPrefixOf_iff_prefix
theorem drop_at {l : List UInt8} {k : Nat} (h : k < l.length) : ∃ b t, l.drop k = b :: t ∧ l.getD k 0 = b := by
  refine ⟨l[k], l.drop (k + 1), List.drop_eq_getElem_cons h, ?_⟩
  rw [List.getD_eq_getElem?_getD, List.getElem?_eq_getElem h]
  rfl
set_option maxRecDepth 100000 in
set_option maxHeartbeats 1000000 in
theorem writable_calls (w : World) (hc : Cls w) (s : ByteArray) (l : List UInt8) (hs : s.data.toList = l) (hl : l.length ≤ 1073741824) :
    Calls Tryd.prog 86 #[.string s] w fun e w' => e = .returned (.bool (S.wr l)) ∧ Below w.heap.size w w' := by
  have hn := size_of s l hs
  obtain ⟨R, hR⟩ : ∃ R, S.wr l = R := ⟨_, rfl⟩
  rw [hR]
  replace hR := hide hR
  have hcH := hide hc
  have hcl := hc.lt
  have hs' := hide hs
  have hnH := hide hn
  have hz : s.size ≤ 1073741824 := by omega
  clear hc hs hn hl
  go_enter Tryd.func86, Tryd.ntmps86
  go_wp2
  go_loopw [] (fun wr => ∃ pos : Nat, pos ≤ s.size ∧ Hid (wr.heap[w.heap.size]? = some (.stringIter s pos)) ∧ Hid (Below w.heap.size w wr) ∧ Hid (S.wr (l.drop pos) = R)) (fun wr => s.size - wr.iterPos w.heap.size)
  case atStart =>
    refine ⟨0, Nat.zero_le _, ?_, (Below.refl _ w).alloc (Nat.le_refl _) _, hR⟩
    exact heap_alloc_new w _
  case round =>
    obtain ⟨pos, hp, hit, hB, hr⟩ := hrel
    by_cases hlt : pos < s.size
    · have hnx : ∀ ty, (Instr.next (.pointer (some ⟨w.heap.size, 0, none⟩)) true ty).run Tryd.prog wr = _ := fun ty => Lib.run_next_any_at wr w.heap.size s pos ty hit.out hlt
      have hll : pos < l.length := by rw [← hnH.out]; exact hlt
      obtain ⟨b, t, hd, hgb⟩ := drop_at hll
      have hsay := S.decode_says s l hs'.out pos hll
      rw [hd] at hsay
      obtain ⟨says0, says1⟩ := hsay
      obtain ⟨D, hD⟩ : ∃ D, Utf8.decode s pos = D := ⟨_, rfl⟩
      have hit2 := hide (Lib.iterAt_heap wr w.heap.size s pos (pos + D.2) hit.out)
      have hB2 := hide (Lib.below_iterAt hB.out (k := w.heap.size) (Nat.le_refl _) s (pos + D.2))
      have hC2 := hide (cls_below hcH.out hB2.out)
      rw [hD] at hnx says0 says1
      obtain ⟨W2, hW2⟩ : ∃ W, wr.iterAt w.heap.size s (pos + D.2) = W := ⟨_, rfl⟩
      rw [hW2] at hnx hit2 hB2 hC2
      have hr' := hr.out
      rw [hd] at hr'
      have hchl := S.chr_le (b :: t)
      have htl : (b :: t).length = l.length - pos := by rw [← hd, List.length_drop]
      have st := fun W => run_tail s pos hp W
      have qp := hide (fun W => Tryd.strings_HasPrefix (s.extract pos s.size) ⟨#[239, 191, 189]⟩ W)
      rw [extract_tail hs'.out] at qp
      rw [hd] at qp
      obtain ⟨r, n⟩ := D
      simp only at hnx says0 says1 hit2
      by_cases h0 : S.chr (b :: t) = 0
      · obtain ⟨e1, e2⟩ := says0 h0
        obtain ⟨rfl, rfl⟩ := Prod.mk.inj e1
        have hpf : Lib.hasPrefix (b :: t) (⟨#[239, 191, 189]⟩ : ByteArray).data.toList = false := by
          rw [Bool.eq_false_iff]
          intro h
          exact e2 ((pre_bool _).1 h)
        rw [hpf] at qp
        rw [S.wr_none h0] at hr'
        have hR2 := hide hr'
        clear says0 says1 hr' hr e1 e2 h0 hpf hd hgb hchl htl hD hW2 hR
        go_wp2_with (go_at_call 94; refine (qp.out _).mono ?_; rintro e w1 ⟨rfl, rfl⟩)
        go_ret
        exact ⟨ret_bool (a := false) hR2.out, hB2.out⟩
      · obtain ⟨e1, e2, e3, e4⟩ := says1 h0
        rw [← e1] at hchl
        have hctl := qcls_ctl b
        have hcc := hC2.out b.toNat b.toNat_lt
        obtain ⟨cb, hcb⟩ : ∃ n, cls b.toNat = n := ⟨_, rfl⟩
        rw [hcb] at hcc hctl
        have hbl : (b.toNat : Int) < 256 := by have := b.toNat_lt; omega
        have hn0 : 0 < n := by omega
        by_cases hct : S.ctl b = true
        · have hb128 : b.toNat < 128 := by
            have : ∀ b : UInt8, S.ctl b = true → b.toNat < 128 := by
              intro b h
              unfold S.ctl S.white at h
              simp at h
              omega
            exact this b hct
          have hr128 := e3.2 hb128
          have hrb := e4 hr128
          have hr0 : r = b.toNat := hrb
          subst hr0
          have c5 : cb = 5 := by rw [hctl]; exact hct
          subst c5
          rw [S.wr_ctl hct] at hr'
          have hR2 := hide hr'
          have i1 : ¬ (b.toNat : Int) = 65533 := by omega
          have i2 : (b.toNat : Int) < 128 := by omega
          clear says0 says1 hr' hr e1 e2 e3 e4 h0 hd hgb hchl htl hD hW2 hR hct hctl hcb hrb
          go_wp2
          go_ret
          exact ⟨ret_bool (a := false) hR2.out, hB2.out⟩
        · have hct' : S.ctl b = false := by simpa using hct
          have hon : Hid (S.wr (l.drop (pos + n)) = R) := by
            have := hr'
            rw [S.wr_on hct' h0, ← e1, ← hd, List.drop_drop] at this
            exact this
          have hpn : pos + n ≤ s.size := by
            have := hnH.out
            omega
          have hme : s.size - W2.iterPos w.heap.size < s.size - wr.iterPos w.heap.size := by
            unfold World.iterPos
            rw [hit.out, hit2.out]
            simp only
            omega
          replace hme := hide hme
          by_cases hrE : r = 65533
          · have hpf : Lib.hasPrefix (b :: t) (⟨#[239, 191, 189]⟩ : ByteArray).data.toList = true := (pre_bool _).2 (e2 hrE)
            rw [hpf] at qp
            subst hrE
            clear says0 says1 hr' hr e1 e2 e3 e4 h0 hpf hd hgb hchl htl hD hW2 hR hct hctl hcb
            go_wp2_with (go_at_call 94; refine (qp.out _).mono ?_; rintro e w1 ⟨rfl, rfl⟩)
            go_roundw
            case rel => exact ⟨pos + n, hpn, hit2, hB2, hon⟩
            case measure => exact hme.out
          · have i1 : ¬ (r : Int) = 65533 := by omega
            by_cases hr128 : r < 128
            · have hr0 : r = b.toNat := e4 hr128
              subst hr0
              have c5 : ¬ (cb : Int) = 5 := by
                intro e
                exact hct (hctl ▸ (by omega))
              have i2 : (b.toNat : Int) < 128 := by omega
              clear says0 says1 hr' hr e1 e2 e3 e4 h0 hd hgb hchl htl hD hW2 hR hct hctl hcb
              go_wp2
              go_roundw
              case rel => exact ⟨pos + n, hpn, hit2, hB2, hon⟩
              case measure => exact hme.out
            · have i2 : ¬ (r : Int) < 128 := by omega
              clear says0 says1 hr' hr e1 e2 e3 e4 h0 hd hgb hchl htl hD hW2 hR hct hctl hcb
              go_wp2
              go_roundw
              case rel => exact ⟨pos + n, hpn, hit2, hB2, hon⟩
              case measure => exact hme.out
    · have hnx : ∀ ty, (Instr.next (.pointer (some ⟨w.heap.size, 0, none⟩)) true ty).run Tryd.prog wr = _ := fun ty => Lib.run_next_end_at wr w.heap.size s pos ty hit.out hlt
      have hR2 : Hid (R = true) := by
        have := hr.out
        rw [List.drop_eq_nil_of_le (by rw [← hnH.out]; omega), S.wr_nil] at this
        exact this.symm
      go_wp2
      go_ret
      exact ⟨ret_bool (a := true) hR2.out.symm, hB.out⟩
end Go.Proofs.YtjbalgjdcdmjjaaDoor
