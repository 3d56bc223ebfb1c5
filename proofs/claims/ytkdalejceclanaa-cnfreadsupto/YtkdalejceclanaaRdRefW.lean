/-
  The document's words of a text.
-/
import Derived.Test.YtkdalejceclanaaRdLits
namespace Go.Proofs.Ytkdalejceclanaa
open Go.RowKit
set_option linter.unusedVariables false
theorem u8n {b : UInt8} {n : Nat} (h : b.toNat ≠ n) : ((b.toNat : Int) == (n : Int)) = false := beq_no (fun e => h (by omega))
set_option maxRecDepth 100000 in
set_option maxHeartbeats 1600000 in
theorem rwhite_calls (w : World) (b : UInt8) : Calls Try.prog 76 #[.int .u8 (b.toNat : Int)] w fun e w' => e = .returned (.bool (RD.white b)) ∧ w' = w := by
  rw [white_iff]
  generalize b.toNat = n
  by_cases h1 : n = 9
  · subst h1
    go_enter Try.func76, Try.ntmps76
    go_wp2
    go_ret
    exact ⟨rfl, rfl⟩
  · have t1 : ((n : Int) == 9) = false := beq_no (by omega)
    by_cases h2 : n = 10
    · subst h2
      go_enter Try.func76, Try.ntmps76
      go_wp2
      go_ret
      exact ⟨rfl, rfl⟩
    · have t2 : ((n : Int) == 10) = false := beq_no (by omega)
      by_cases h3 : n = 13
      · subst h3
        go_enter Try.func76, Try.ntmps76
        go_wp2
        go_ret
        exact ⟨rfl, rfl⟩
      · have t3 : ((n : Int) == 13) = false := beq_no (by omega)
        by_cases h4 : n = 32
        · subst h4
          go_enter Try.func76, Try.ntmps76
          go_wp2
          go_ret
          exact ⟨rfl, rfl⟩
        · have t4 : ((n : Int) == 32) = false := beq_no (by omega)
          rw [decide_eq_false (by omega)]
          clear h1 h2 h3 h4
          go_enter Try.func76, Try.ntmps76
          go_wp2
          go_ret
          exact ⟨rfl, rfl⟩
/-- A word as the document holds it: its text, and where it stands. -/
def wcell (s : ByteArray) (x : Nat × Nat) : List Value := [.string (s.extract x.1 x.2), .int .i64 (x.1 : Int)]
theorem wInfo : (Try.prog.info? 95).map (fun i => (i.zero, i.size, i.bytes)) = some (some (.agg #[.string ⟨#[]⟩, .int .i64 0]), 2, 24) := by kernel_rfl
theorem wSlice : Try.prog.underlying 92 = some (.slice 95) := by kernel_rfl
theorem rcells_new (w : World) (xs : List Value) (t : TypeId) : ∀ j u, xs[j]? = some u → (w.alloc (.cells xs.toArray t)).cell? ((⟨w.heap.size, 0, none⟩ : Addr).add j) = some u := by
  intro j u hj
  have hb := heap_alloc_new w (.cells xs.toArray t)
  rw [Addr.add_lit, Nat.zero_add, cell_of_row _ _ _ _ _ _ hb]
  rw [List.getElem?_toArray]
  exact hj
theorem brk_of {b : UInt8} (h : RD.brk b = true) : b.toNat = 10 ∨ b.toNat = 13 := by
  rw [brk_iff] at h
  exact of_decide_eq_true h
theorem brk_not {b : UInt8} (h : RD.brk b = false) : b.toNat ≠ 10 ∧ b.toNat ≠ 13 := by
  rw [brk_iff] at h
  have := of_decide_eq_false h
  omega
set_option maxRecDepth 100000 in
set_option maxHeartbeats 16000000 in
theorem words_calls (w : World) (s : ByteArray) (t : List UInt8) (hs : s.data.toList = t) (hl : t.length ≤ 1048576) :
    Calls Try.prog 46 #[.string s] w fun e w' => ∃ v, e = .returned v ∧ w'.ownsRow w.heap.size 95 2 v (RD.ws t 0).length ((RD.ws t 0).map (wcell s)).flatten ∧ Below w.heap.size w w' := by
  obtain ⟨i0, hi, hz0, hz1, hz2⟩ := rinfo_parts wInfo
  have hz := hide (size_of s t hs)
  have HL := hide hs
  have zz : (s.size : Int) = (t.length : Int) := by have := hz.out; omega
  obtain ⟨L, hL⟩ : ∃ L, RD.ws t 0 = L := ⟨_, rfl⟩
  have LB : Hid (L.length ≤ t.length + 1) := by show _ ≤ _; rw [← hL]; exact ws_len t 0
  rw [hL]
  have I0 : Hid (L = [] ++ RD.ws t 0) := hL.symm
  have O0 : Hid (w.ownsRow w.heap.size 95 2 (.slice none 0 0) 0 ((([] : List (Nat × Nat)).map (wcell s)).flatten)) := ⟨rfl, .inl ⟨rfl, rfl⟩⟩
  have B0 : Hid (Below w.heap.size w w) := Below.refl _ _
  clear hL hs
  go_enter Try.func46, Try.ntmps46
  go_wp2_with fail
  go_loopw [3, 4] (fun m x wr => ∃ (k : Nat) (done : List (Nat × Nat)), x = .int .i64 (k : Int) ∧ k ≤ t.length ∧ Hid (L = done ++ RD.ws t k) ∧ Hid (wr.ownsRow w.heap.size 95 2 m done.length ((done.map (wcell s)).flatten)) ∧ Hid (Below w.heap.size w wr)) (fun _ x _ => t.length - (intOf x).toNat)
  case atStart => exact ⟨0, [], rfl, Nat.zero_le _, I0, O0, B0⟩
  case round =>
    clear I0 O0 B0
    obtain ⟨k, done, rfl, hk, LL, OO, BB⟩ := hrel
    obtain ⟨am, cm, hm⟩ : ∃ am cm, u3 = .slice am done.length cm := by
      rcases OO.out.2 with ⟨e, e2⟩ | ⟨q, cap, cur, e, -⟩
      · exact ⟨none, 0, by rw [e, e2]⟩
      · exact ⟨_, _, e⟩
    subst hm
    by_cases hlt : k < t.length
    · have hks : k < s.size := by have := hz.out; omega
      have hb := byteAt s t HL.out k hks
      have k0 : (0 : Int) ≤ (k : Int) := by omega
      have k1 : (k : Int) < (t.length : Int) := by omega
      have k3 : (k : Int) < (s.size : Int) := by omega
      have CE : Hid (RD.com t k = true → L = done ++ RD.ws t (RD.le t k)) := fun h => by rw [LL.out, RD.ws_same (RD.skip_com hlt h)]
      have CG : Hid (RD.com t k = true → k < RD.le t k) := fun h => RD.le_gt hlt h
      have WE : Hid (RD.white (t.getD k 0) = true → L = done ++ RD.ws t (k + 1)) := fun h => by rw [LL.out, RD.ws_same (RD.skip_white hlt h)]
      have DE : Hid (RD.white (t.getD k 0) = false → RD.com t k = false → L = (done ++ [(k, RD.we t k)]) ++ RD.ws t (RD.we t k) ∧ k < RD.we t k) := fun h1 h2 => by
        have e := RD.skip_word hlt h1 h2
        have hc := RD.ws_cons (t := t) (i := k) (by rw [e]; exact hlt)
        have hg := RD.we_gt (t := t) (i := k) (by rw [e]; exact hlt)
        rw [e] at hc hg
        exact ⟨by rw [LL.out, hc, List.append_assoc]; rfl, hg⟩
      obtain ⟨c, hc⟩ : ∃ c, RD.com t k = c := ⟨_, rfl⟩
      have hc' := hide hc
      obtain ⟨b, hbb⟩ : ∃ b, t.getD k 0 = b := ⟨_, rfl⟩
      have hbb' := hide hbb
      rw [hbb] at hb WE DE
      go_upto_region 4 with fail
      go_cut [31] (fun x wx => x = .bool c ∧ wx = wr)
      case first =>
        clear WE DE CE CG LL OO BB
        by_cases h2 : b.toNat = 99
        · have t1 : ((b.toNat : Int) == 99) = true := by rw [h2]; rfl
          by_cases h3 : k = 0
          · have C : Hid (c = true) := by show _ = _; rw [← hc, h3]; exact com_zero (by rw [← h3, hbb]; exact h2)
            have t2 : ((k : Int) == 0) = true := by rw [h3]; rfl
            clear h2 h3 hc hbb
            go_wp2
            go_meet
            exact ⟨by rw [C.out], rfl⟩
          · obtain ⟨j, rfl⟩ : ∃ j, k = j + 1 := ⟨k - 1, by omega⟩
            have C0 : c = RD.brk (t.getD j 0) := by rw [← hc]; exact com_pos (by rw [hbb]; exact h2)
            have hjs : j < s.size := by omega
            have hb2 := byteAt s t HL.out j hjs
            generalize t.getD j 0 = b2 at *
            have t2 : (((j + 1 : Nat) : Int) == 0) = false := beq_no (by omega)
            have t2' : ((j : Int) + 1 == 0) = false := beq_no (by omega)
            have t3 : IntKind.i64.wrap ((j : Int) + 1 - 1) = (j : Int) := by rw [IntKind.wrap_i64]; omega
            have j0 : (0 : Int) ≤ (j : Int) := by omega
            rw [brk_iff] at C0
            clear h2 h3 hc hbb
            by_cases h4 : b2.toNat = 10
            · have C : Hid (c = true) := C0.trans (decide_eq_true (.inl h4))
              have t4 : ((b2.toNat : Int) == 10) = true := by rw [h4]; rfl
              clear C0 h4
              go_wp2
              go_meet
              exact ⟨by rw [C.out], rfl⟩
            · have t4 : ((b2.toNat : Int) == 10) = false := beq_no (by omega)
              by_cases h5 : b2.toNat = 13
              · have C : Hid (c = true) := C0.trans (decide_eq_true (.inr h5))
                have t5 : ((b2.toNat : Int) == 13) = true := by rw [h5]; rfl
                clear C0 h4 h5
                go_wp2
                go_meet
                exact ⟨by rw [C.out], rfl⟩
              · have C : Hid (c = false) := C0.trans (decide_eq_false (by omega))
                have t5 : ((b2.toNat : Int) == 13) = false := beq_no (by omega)
                clear C0 h4 h5
                go_wp2
                go_meet
                exact ⟨by rw [C.out], rfl⟩
        · have C : Hid (c = false) := by show _ = _; rw [← hc]; exact com_at (by rw [hbb]; exact h2)
          have t1 : ((b.toNat : Int) == 99) = false := beq_no (by omega)
          clear h2 hc hbb
          go_wp2
          go_meet
          exact ⟨by rw [C.out], rfl⟩
      case rest =>
        obtain ⟨rfl, hwx⟩ := hcut
        subst hwx
        clear hbb hc
        cases c
        · -- no comment
          have q := rwhite_calls wc b
          cases hw : RD.white b
          · have D := DE.out hw hc'.out
            rw [hw] at q
            replace q := hide q
            have LL2 : Hid (L = (done ++ [(k, RD.we t k)]) ++ RD.ws t (RD.we t k)) := D.1
            have hkE := D.2
            have hEl := RD.we_le t hk
            have hE0 : Hid (RD.we t k = RD.we t k) := rfl
            clear D hw CE CG WE DE LL
            obtain ⟨E, hE⟩ : ∃ E, RD.we t k = E := ⟨_, rfl⟩
            rw [hE] at LL2 hkE hEl
            have E0 : Hid (RD.we t k = E) := hE
            have DN : Hid (done.length ≤ t.length + 1) := by have := LB.out; rw [LL2.out] at this; simp only [List.length_append] at this; show _ ≤ _; omega
            clear hE hbb' hE0
            go_wp2_with (go_at_call 76; refine q.out.mono ?_; rintro e w2 ⟨rfl, hw2⟩; subst w2)
            clear q hb
            go_loop [5] (fun x => ∃ j : Nat, x = .int .i64 (j : Int) ∧ k ≤ j ∧ j ≤ t.length ∧ Hid (RD.we t j = E)) (fun x => t.length - (intOf x).toNat)
            case atStart => exact ⟨k, rfl, Nat.le_refl _, hk, E0⟩
            case round =>
              clear E0
              obtain ⟨j, rfl, hkj, hj, EJ⟩ := hrel
              by_cases hjl : j < t.length
              · have hjs : j < s.size := by have := hz.out; omega
                have hb := byteAt s t HL.out j hjs
                have j0 : (0 : Int) ≤ (j : Int) := by omega
                have j1 : decide ((j : Int) < (t.length : Int)) = true := decide_eq_true (by omega)
                have j2 : (j : Int) < (t.length : Int) := by omega
                have j3 : (j : Int) < (s.size : Int) := by omega
                have j4 : (j : Int) ≤ (t.length : Int) := by omega
                have ST := RD.weF_at t hjl
                rw [EJ.out] at ST
                generalize t.getD j 0 = b2 at *
                have q := rwhite_calls wc b2
                cases hw : RD.white b2
                · rw [hw] at ST q
                  replace q := hide q
                  have EJ2 : Hid (RD.we t (j + 1) = E) := ST.symm
                  clear ST EJ hw
                  go_wp2_with (go_at_call 76; refine q.out.mono ?_; rintro e w2 ⟨rfl, hw2⟩; subst w2)
                  go_round
                  case rel => exact ⟨j + 1, by go_num, by omega, by omega, EJ2⟩
                  case measure => simp [intOf]; omega
                · rw [hw] at ST q
                  replace q := hide q
                  have hjE : j = E := ST.symm
                  clear ST EJ hw
                  subst hjE
                  go_upto_region 12 with (go_at_call 76; refine q.out.mono ?_; rintro e w2 ⟨rfl, hw2⟩; subst w2)
                  have OA := hide (World.ownsRow.alloc OO.out (.cells #[.string (s.extract k j), .int .i64 (k : Int)] 95))
                  have CA := hide (rcells_new wc [.string (s.extract k j), .int .i64 (k : Int)] 95)
                  have SZ := hide (And.intro DN.out BB.out.size)
                  have hks2 : (k : Int) ≤ (j : Int) := by omega
                  go_wp2_with (at_builtin; (refine wpList_append_own _ rfl _ _ 92 rfl w.heap.size 95 i0 (.agg #[.string ⟨#[]⟩, .int .i64 0]) 2 24 wSlice hi hz0 hz1 hz2 rfl (by decide) _ _ _ rfl OA.out ⟨wc.heap.size, 0, none⟩ 1 1 [.string (s.extract k j), .int .i64 (k : Int)] rfl rfl CA.out (by simp [Value.oneCell']) (by have ⟨q1, q2⟩ := SZ.out; unfold maxLen; omega) (by have ⟨q1, q2⟩ := SZ.out; omega) (by have ⟨q1, q2⟩ := SZ.out; simp; omega) ?_; intro v5 w5 hown5 hgrow5 _; replace hown5 := hide hown5; replace hgrow5 := hide hgrow5))
                  have B5 := hide ((BB.out.then_below ((Below.refl _ _).alloc (Nat.le_refl _) (.cells #[.string (s.extract k j), .int .i64 (k : Int)] 95))).then_grown hgrow5.out (fun g hg => (OA.out.lt g hg).1))
                  go_roundw
                  case rel => exact ⟨j, done ++ [(k, j)], rfl, by omega, LL2, by show _; rw [List.map_append, List.flatten_append, List.length_append]; exact hown5.out, B5⟩
                  case measure => simp [intOf]; omega
              · obtain rfl : j = t.length := by omega
                have hjE : t.length = E := by rw [← EJ.out, RD.we_end t (Nat.le_refl _)]
                clear EJ
                subst hjE
                go_upto_region 12 with fail
                have OA := hide (World.ownsRow.alloc OO.out (.cells #[.string (s.extract k t.length), .int .i64 (k : Int)] 95))
                have CA := hide (rcells_new wc [.string (s.extract k t.length), .int .i64 (k : Int)] 95)
                have SZ := hide (And.intro DN.out BB.out.size)
                have hks2 : (k : Int) ≤ (t.length : Int) := by omega
                go_wp2_with (at_builtin; (refine wpList_append_own _ rfl _ _ 92 rfl w.heap.size 95 i0 (.agg #[.string ⟨#[]⟩, .int .i64 0]) 2 24 wSlice hi hz0 hz1 hz2 rfl (by decide) _ _ _ rfl OA.out ⟨wc.heap.size, 0, none⟩ 1 1 [.string (s.extract k t.length), .int .i64 (k : Int)] rfl rfl CA.out (by simp [Value.oneCell']) (by have ⟨q1, q2⟩ := SZ.out; unfold maxLen; omega) (by have ⟨q1, q2⟩ := SZ.out; omega) (by have ⟨q1, q2⟩ := SZ.out; simp; omega) ?_; intro v5 w5 hown5 hgrow5 _; replace hown5 := hide hown5; replace hgrow5 := hide hgrow5))
                have B5 := hide ((BB.out.then_below ((Below.refl _ _).alloc (Nat.le_refl _) (.cells #[.string (s.extract k t.length), .int .i64 (k : Int)] 95))).then_grown hgrow5.out (fun g hg => (OA.out.lt g hg).1))
                go_roundw
                case rel => exact ⟨t.length, done ++ [(k, t.length)], rfl, by omega, LL2, by show _; rw [List.map_append, List.flatten_append, List.length_append]; exact hown5.out, B5⟩
                case measure => simp [intOf]; omega
          · have L1 := hide (WE.out hw)
            rw [hw] at q
            replace q := hide q
            clear hw CE CG WE DE LL
            go_wp2_with (go_at_call 76; refine q.out.mono ?_; rintro e w2 ⟨rfl, hw2⟩; subst w2)
            go_roundw
            case rel => exact ⟨k + 1, done, by go_num, by omega, L1, OO, BB⟩
            case measure => simp [intOf]; omega
        · -- a comment
          have L1 := hide (CE.out hc'.out)
          have hg := CG.out hc'.out
          have hEl := RD.le_le t hk
          obtain ⟨E, hE⟩ : ∃ E, RD.le t k = E := ⟨_, rfl⟩
          rw [hE] at L1 hg hEl
          have E0 : Hid (RD.le t k = E) := hE
          clear CE CG WE DE LL hE hb hbb'
          go_wp2_with fail
          go_loop [4] (fun x => ∃ j : Nat, x = .int .i64 (j : Int) ∧ k ≤ j ∧ j ≤ t.length ∧ Hid (RD.le t j = E)) (fun x => t.length - (intOf x).toNat)
          case atStart => exact ⟨k, rfl, Nat.le_refl _, hk, E0⟩
          case round =>
            clear E0
            obtain ⟨j, rfl, hkj, hj, EJ⟩ := hrel
            by_cases hjl : j < t.length
            · have hjs : j < s.size := by have := hz.out; omega
              have hb := byteAt s t HL.out j hjs
              have j0 : (0 : Int) ≤ (j : Int) := by omega
              have j1 : decide ((j : Int) < (t.length : Int)) = true := decide_eq_true (by omega)
              have j2 : (j : Int) < (t.length : Int) := by omega
              have j3 : (j : Int) < (s.size : Int) := by omega
              have ST := RD.le_at t hjl
              rw [EJ.out] at ST
              generalize t.getD j 0 = b2 at *
              cases hw : RD.brk b2
              · have hn := brk_not hw
                rw [hw] at ST
                have EJ2 : Hid (RD.le t (j + 1) = E) := ST.symm
                have t1 : ((b2.toNat : Int) != 10) = true := bne_no (by omega)
                have t2 : ((b2.toNat : Int) != 13) = true := bne_no (by omega)
                clear ST EJ hw hn
                go_wp2_with fail
                go_round
                case rel => exact ⟨j + 1, by go_num, by omega, by omega, EJ2⟩
                case measure => simp [intOf]; omega
              · have hn := brk_of hw
                rw [hw] at ST
                have hjE : j = E := ST.symm
                clear ST EJ hw
                subst hjE
                by_cases h10 : b2.toNat = 10
                · have t1 : ((b2.toNat : Int) != 10) = false := by rw [h10]; rfl
                  clear hn h10
                  go_wp2_with fail
                  go_roundw
                  case rel => exact ⟨j, done, rfl, hj, L1, OO, BB⟩
                  case measure => simp [intOf]; omega
                · have h13 : b2.toNat = 13 := hn.resolve_left h10
                  have t1 : ((b2.toNat : Int) != 10) = true := bne_no (by omega)
                  have t2 : ((b2.toNat : Int) != 13) = false := by rw [h13]; rfl
                  clear hn h10 h13
                  go_wp2_with fail
                  go_roundw
                  case rel => exact ⟨j, done, rfl, hj, L1, OO, BB⟩
                  case measure => simp [intOf]; omega
            · obtain rfl : j = t.length := by omega
              have hjE : t.length = E := by rw [← EJ.out, RD.le_end t (Nat.le_refl _)]
              clear EJ
              subst hjE
              go_wp2_with fail
              go_roundw
              case rel => exact ⟨t.length, done, rfl, Nat.le_refl _, L1, OO, BB⟩
              case measure => simp [intOf]; omega
    · obtain rfl : k = t.length := by omega
      have LE : Hid (L = done) := by show _ = _; rw [LL.out, RD.ws_end (Nat.le_refl _), List.append_nil]
      clear LL hlt hk
      go_wp2_with fail
      go_ret
      exact ⟨_, rfl, by rw [LE.out]; exact OO.out, BB.out⟩
end Go.Proofs.Ytkdalejceclanaa
