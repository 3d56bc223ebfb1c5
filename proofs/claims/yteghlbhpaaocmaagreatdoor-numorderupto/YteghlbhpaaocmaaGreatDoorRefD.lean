/- Laid together of: RefLit, RefReadN. -/
import Derived.Test.YteghlbhpaaocmaaGreatDoorReadA
import Derived.Test.YteghlbhpaaocmaaGreatDoorRefC
/- ==== RefLit ==== -/
namespace Go.Proofs.YteghlbhpaaocmaaGreatDoor
open Go.RowKit
set_option linter.unusedVariables false
set_option maxRecDepth 100000 in
set_option maxHeartbeats 4000000 in
theorem point_calls (w : World) (s : ByteArray) (l : List UInt8) (hs : s.data.toList = l) (hlen : l.length ≤ 1099511627776) :
    Calls Tryz.prog 85 #[.string s] w fun e w' => e = .returned (.int .i64 (Lib.index l [46])) ∧ w' = w := by
  obtain ⟨r, hr⟩ : ∃ r, Lib.index l [46] = r := ⟨_, rfl⟩
  rw [hr]
  replace hr := hide hr
  have hz := size_of s l hs
  have HL := hide hs
  clear hs
  go_enter Tryz.func85, Tryz.ntmps85
  go_wp2
  go_loopw [3] (fun j wr' => ∃ q : Nat, q ≤ l.length ∧ j = .int .i64 q ∧ Hid (∀ k, k < q → l.getD k 0 ≠ 46) ∧ wr' = w) (fun j _ => l.length - (intOf j).toNat)
  case atStart => exact ⟨0, Nat.zero_le _, rfl, fun k hk => absurd hk (Nat.not_lt_zero k), rfl⟩
  case round =>
    obtain ⟨q, hq, rfl, hno, hw⟩ := hrel
    subst hw
    by_cases hlt : q < l.length
    · have hqs : q < s.size := by omega
      have hb := byteAt s l HL.out q hqs
      have hat := hide (fun h => indexc_at 46 l q hno.out hlt h)
      have hstep : Hid (l.getD q 0 ≠ 46 → ∀ k, k < q + 1 → l.getD k 0 ≠ 46) := fun h k hk => by
        rcases Nat.lt_or_ge k q with h2 | h2
        · exact hno.out k h2
        · obtain rfl : k = q := by omega
          exact h
      generalize l.getD q 0 = b at *
      by_cases h46 : b.toNat = 46
      · have hb46 : b = 46 := UInt8.toNat_inj.1 (by simpa using h46)
        have hx := hide (hr.out.symm.trans (hat.out hb46))
        clear hb46 hat hstep hno
        go_wp2
        go_ret
        exact ⟨by rw [hx.out]; rfl, rfl⟩
      · have hb46 : b ≠ 46 := fun e => h46 (by rw [e]; rfl)
        have hn2 := hide (hstep.out hb46)
        clear hb46 hat hstep
        go_wp2
        go_roundw
        case rel => exact ⟨q + 1, by omega, by simp, hn2, trivial⟩
        case measure => simp [intOf]; omega
    · obtain rfl : q = l.length := by omega
      have hx := hide (hr.out.symm.trans (indexc_none 46 l hno.out))
      clear hno
      go_wp2
      go_ret
      exact ⟨by rw [hx.out]; rfl, rfl⟩
set_option maxRecDepth 100000 in
set_option maxHeartbeats 4000000 in
theorem rdigits_calls (w : World) (s : ByteArray) (l : List UInt8) (hs : s.data.toList = l) (hlen : l.length ≤ 1099511627776) :
    Calls Tryz.prog 86 #[.string s] w fun e w' => e = .returned (.bool (decide (Lit l))) ∧ w' = w := by
  obtain ⟨gb, hgb⟩ : ∃ gb, decide (Lit l) = gb := ⟨_, rfl⟩
  rw [hgb]
  replace hgb := hide hgb
  have hz := size_of s l hs
  have HL := hide hs
  clear hs
  go_enter Tryz.func86, Tryz.ntmps86
  go_wp2
  go_loopw [3] (fun j wr' => ∃ q : Nat, q ≤ l.length ∧ j = .int .i64 q ∧ Hid (M.Digs (l.take q)) ∧ wr' = w) (fun j _ => l.length - (intOf j).toNat)
  case atStart => exact ⟨0, Nat.zero_le _, rfl, fun b hb => by simp at hb, rfl⟩
  case round =>
    obtain ⟨q, hq, rfl, hd, hw⟩ := hrel
    subst hw
    by_cases hlt2 : q < l.length
    · have hqs : q < s.size := by omega
      have hb := byteAt s l HL.out q hqs
      have hgo := hide (fun h1 h2 => digs_take_succ hd.out hlt2 h1 h2)
      have hno := hide (fun h => not_digs hlt2 h)
      have hbb : (l.getD q 0).toNat < 256 := UInt8.toNat_lt _
      have hbad : Hid (¬ (48 ≤ (l.getD q 0).toNat ∧ (l.getD q 0).toNat ≤ 57) → gb = false) := fun h => by rw [← hgb.out]; exact decide_eq_false (fun hA => hno.out h hA.1.2)
      generalize l.getD q 0 = b at *
      by_cases h48 : b.toNat < 48
      · go_wp2
        go_ret
        exact ⟨congrArg (fun b => Ending.returned (.bool b)) (hbad.out (by omega)).symm, rfl⟩
      · by_cases h57 : 57 < b.toNat
        · go_wp2
          go_ret
          exact ⟨congrArg (fun b => Ending.returned (.bool b)) (hbad.out (by omega)).symm, rfl⟩
        · go_wp2
          go_roundw
          case rel => exact ⟨q + 1, by omega, by simp, hgo.out (by omega) (by omega), trivial⟩
          case measure => simp [intOf]; omega
    · obtain rfl : q = l.length := by omega
      rw [List.take_length] at hd
      by_cases he : l = []
      · have hG : Hid (gb = false) := by rw [← hgb.out]; exact decide_eq_false (fun hA => hA.1.1 he)
        have h0 : l.length = 0 := by rw [he]; rfl
        subst he
        go_wp2
        go_ret
        exact ⟨congrArg (fun b => Ending.returned (.bool b)) hG.out.symm, rfl⟩
      · have h0 : 0 < l.length := List.length_pos_iff.2 he
        have hqs : 0 < s.size := by omega
        have hb := byteAt s l HL.out 0 hqs
        by_cases h1 : l.length = 1
        · have hG : Hid (gb = true) := by rw [← hgb.out]; exact decide_eq_true ⟨⟨he, hd.out⟩, .inl h1⟩
          go_wp2
          go_ret
          exact ⟨congrArg (fun b => Ending.returned (.bool b)) hG.out.symm, rfl⟩
        · have h2 : (1 : Int) < (l.length : Int) := by omega
          have h3 : ¬ (l.length : Int) = 1 := by omega
          have hG : Hid (gb = decide (l.getD 0 0 ≠ 48)) := by
            rw [← hgb.out]
            refine decide_eq_decide.2 ⟨fun h => h.2.resolve_left h1, fun h => ⟨⟨he, hd.out⟩, .inr h⟩⟩
          have hgen : Hid (∀ b : UInt8, b.toNat = 48 ↔ b = 48) := fun b => ⟨fun h => UInt8.toNat_inj.1 (by simpa using h), fun h => by rw [h]; rfl⟩
          have hbb : (l.getD 0 0).toNat < 256 := UInt8.toNat_lt _
          clear hgb
          generalize l.getD 0 0 = b at *
          by_cases h48 : b.toNat = 48
          · have hR : Hid (gb = false) := by rw [hG.out]; exact decide_eq_false (fun h => h ((hgen.out b).1 h48))
            clear hG he
            go_wp2
            go_ret
            exact ⟨congrArg (fun b => Ending.returned (.bool b)) (show _ = gb by rw [hR.out]; simp; omega), rfl⟩
          · have hR : Hid (gb = true) := by rw [hG.out]; exact decide_eq_true (fun h => h48 ((hgen.out b).2 h))
            clear hG he
            go_wp2
            go_ret
            exact ⟨congrArg (fun b => Ending.returned (.bool b)) (show _ = gb by rw [hR.out]; simp; omega), rfl⟩
end Go.Proofs.YteghlbhpaaocmaaGreatDoor
/- ==== RefReadN ==== -/
namespace Go.Proofs.YteghlbhpaaocmaaGreatDoor
open Go.RowKit
set_option linter.unusedVariables false
theorem ten_NB (k K : Nat) (h : k < K) : ((10 ^ k : Nat) : Int) < M.NB ^ K := by
  rw [M.NB_pow]
  have h1 : (10 : Nat) ^ k < 10 ^ (9 * K) := Nat.pow_lt_pow_right (by decide) (by omega)
  exact_mod_cast h1
set_option maxRecDepth 100000 in
set_option maxHeartbeats 4000000 in
theorem lit_whole_no (w : World) (s : ByteArray) (l : List UInt8) (hs : s.data.toList = l) (hl : l.length ≤ 1073741824) (hi : Lib.index l [46] = -1) (hL : ¬ Lit l) :
    Calls Tryz.prog 45 #[.string s] w fun e w' => e = .returned (.tuple #[.agg #[.bool false, .slice none 0 0, .slice none 0 0], .bool false]) ∧ Below w.heap.size w w' := by
  obtain ⟨W0, hW0⟩ : ∃ W0, w.alloc (.cells #[.bool false, .slice none 0 0, .slice none 0 0] 56) = W0 := ⟨_, rfl⟩
  have B0 : Hid (Below w.heap.size w W0) := by rw [← hW0]; exact (Below.refl _ w).alloc (Nat.le_refl _) _
  have A0 : Hid (W0.heap[w.heap.size]? = some (.cells #[.bool false, .slice none 0 0, .slice none 0 0] 56 (0, 0))) := by rw [← hW0]; exact heap_alloc_new w _
  have q1 := hide (point_calls W0 s l hs (by omega))
  rw [hi] at q1
  have q2 := hide (rdigits_calls W0 s l hs (by omega))
  rw [decide_eq_false hL] at q2
  obtain ⟨z0, z1, z2, f0, f1, f2⟩ := box3 A0.out
  clear hL hi
  go_enter Tryz.func45, Tryz.ntmps45
  go_wp2_with (first
    | (go_at_call 85; (with_reducible refine q1.out.mono ?_); rintro e wx ⟨rfl, hwx⟩; rw [hwx])
    | (go_at_call 86; (with_reducible refine q2.out.mono ?_); rintro e wx ⟨rfl, hwx⟩; rw [hwx]))
  refine bodyPost_ret (v := .tuple #[.agg #[.bool false, .slice none 0 0, .slice none 0 0], .bool false]) (by simp [results, Tryz.results45, go_sem, z0, z1, z2]) rfl ?_
  exact ⟨rfl, B0.out.then_grown (set3 _ _ _ _ _) (by rintro g ⟨⟩; exact Nat.le_refl _)⟩
set_option maxRecDepth 100000 in
set_option maxHeartbeats 4000000 in
theorem lit_whole (w : World) (s : ByteArray) (l : List UInt8) (hs : s.data.toList = l) (hl : l.length ≤ 1073741824) (hi : Lib.index l [46] = -1) (hL : Lit l) :
    Calls Tryz.prog 45 #[.string s] w fun e w' => (∃ v, e = .returned (.tuple #[v, .bool true]) ∧ RR w' v false (M.dec l) 1) ∧ Below w.heap.size w w' := by
  obtain ⟨W0, hW0⟩ : ∃ W0, w.alloc (.cells #[.bool false, .slice none 0 0, .slice none 0 0] 56) = W0 := ⟨_, rfl⟩
  have B0 : Hid (Below w.heap.size w W0) := by rw [← hW0]; exact (Below.refl _ w).alloc (Nat.le_refl _) _
  have A0 : Hid (W0.heap[w.heap.size]? = some (.cells #[.bool false, .slice none 0 0, .slice none 0 0] 56 (0, 0))) := by rw [← hW0]; exact heap_alloc_new w _
  have q1 := hide (point_calls W0 s l hs (by omega))
  rw [hi] at q1
  have q2 := hide (rdigits_calls W0 s l hs (by omega))
  rw [decide_eq_true hL] at q2
  have q3 := hide (rnatOf_calls W0 s l hs hL.1.2 (by omega))
  clear hL hi
  go_enter Tryz.func45, Tryz.ntmps45
  go_wp2_with (first
    | (go_at_call 85; (with_reducible refine q1.out.mono ?_); rintro e wx ⟨rfl, hwx⟩; rw [hwx])
    | (go_at_call 86; (with_reducible refine q2.out.mono ?_); rintro e wx ⟨rfl, hwx⟩; rw [hwx])
    | (go_at_call 40; (with_reducible refine q3.out.mono ?_); rintro e w3 ⟨⟨v3, rfl, n3⟩, b3⟩; obtain ⟨na, nl, nc, rfl, -, -, -⟩ := n3.form; have q4 := hide (natInt_calls w3 1 (by decide) (by decide)); replace n3 := hide n3; replace b3 := hide b3)
    | (go_at_call 80; (with_reducible refine q4.out.mono ?_); rintro e w4 ⟨⟨v4, rfl, n4⟩, b4⟩; obtain ⟨da, dl, dc, rfl, -, -, -⟩ := n4.form; have A1 := hide (kept_block (kept_block A0.out b3.out) b4); obtain ⟨z0, z1, z2, f0, f1, f2⟩ := box3 A1.out; have B4 : Hid (Below w.heap.size w w4) := (B0.out.then_below b3.out).then_below b4; replace n4 := hide n4; replace b4 := hide b4))
  refine bodyPost_ret (v := .tuple #[.agg #[.bool false, .slice na nl nc, .slice da dl dc], .bool true]) (by simp [results, Tryz.results45, go_sem, z0, z1, z2]) rfl ?_
  have q := set3 w4 w.heap.size (.bool false) (.slice na nl nc) (.slice da dl dc)
  exact ⟨⟨_, rfl, na, nl, nc, da, dl, dc, rfl, (n3.out.below b4.out).past A1.out q, n4.out.past A1.out q⟩, B4.out.then_grown q (by rintro g ⟨⟩; exact Nat.le_refl _)⟩
set_option maxRecDepth 100000 in
set_option maxHeartbeats 4000000 in
theorem lit_point_no (w : World) (s : ByteArray) (l u t : List UInt8) (q : Nat) (hs : s.data.toList = l) (hl : l.length ≤ 1073741824) (hq : q < l.length) (hi : Lib.index l [46] = q) (hu : u = l.take q) (ht : t = l.drop (q + 1)) (hL : ¬ Lit u) :
    Calls Tryz.prog 45 #[.string s] w fun e w' => e = .returned (.tuple #[.agg #[.bool false, .slice none 0 0, .slice none 0 0], .bool false]) ∧ Below w.heap.size w w' := by
  obtain ⟨W0, hW0⟩ : ∃ W0, w.alloc (.cells #[.bool false, .slice none 0 0, .slice none 0 0] 56) = W0 := ⟨_, rfl⟩
  have B0 : Hid (Below w.heap.size w W0) := by rw [← hW0]; exact (Below.refl _ w).alloc (Nat.le_refl _) _
  have A0 : Hid (W0.heap[w.heap.size]? = some (.cells #[.bool false, .slice none 0 0, .slice none 0 0] 56 (0, 0))) := by rw [← hW0]; exact heap_alloc_new w _
  obtain ⟨U, eU⟩ : ∃ U, s.extract 0 q = U := ⟨_, rfl⟩
  obtain ⟨L, eL⟩ : ∃ L, s.extract (q + 1) l.length = L := ⟨_, rfl⟩
  have hsz := size_of s l hs
  have hU : Hid (U.data.toList = u) := by show _ = _; rw [← eU, hu]; exact extract_take hs q
  have hLo : Hid (L.data.toList = t) := by show _ = _; rw [← eL, ht]; exact extract_drop' hs hsz (q + 1)
  have hul : u.length = q := by rw [hu, List.length_take]; omega
  have htl : t.length = l.length - (q + 1) := by rw [ht, List.length_drop]
  clear hu ht
  have hUz := size_of U _ hU.out
  have hLz := size_of L _ hLo.out
  have q1 := hide (point_calls W0 s l hs (by omega))
  rw [hi] at q1
  have q2 := hide (rdigits_calls W0 U u hU.out (by omega))
  have i1 : (0 : Int) ≤ (q : Int) := by omega
  have i2 : (q : Int) ≤ (l.length : Int) := by omega
  have i3 : (q : Int) + 1 ≤ (l.length : Int) := by omega
  have i4 : ¬ (q : Int) < 0 := by omega
  rw [decide_eq_false hL] at q2
  obtain ⟨z0, z1, z2, f0, f1, f2⟩ := box3 A0.out
  clear hL hi hul htl
  go_enter Tryz.func45, Tryz.ntmps45
  go_wp2_with (first
    | (go_at_call 85; (with_reducible refine q1.out.mono ?_); rintro e wx ⟨rfl, hwx⟩; rw [hwx])
    | (go_at_call 86; (with_reducible refine q2.out.mono ?_); rintro e wx ⟨rfl, hwx⟩; rw [hwx]))
  refine bodyPost_ret (v := .tuple #[.agg #[.bool false, .slice none 0 0, .slice none 0 0], .bool false]) (by simp [results, Tryz.results45, go_sem, z0, z1, z2]) rfl ?_
  exact ⟨rfl, B0.out.then_grown (set3 _ _ _ _ _) (by rintro g ⟨⟩; exact Nat.le_refl _)⟩
set_option maxRecDepth 100000 in
set_option maxHeartbeats 4000000 in
theorem lit_point_nil (w : World) (s : ByteArray) (l u t : List UInt8) (q : Nat) (hs : s.data.toList = l) (hl : l.length ≤ 1073741824) (hq : q < l.length) (hi : Lib.index l [46] = q) (hu : u = l.take q) (ht : t = l.drop (q + 1)) (hL : Lit u) (hn : t.length = 0) :
    Calls Tryz.prog 45 #[.string s] w fun e w' => e = .returned (.tuple #[.agg #[.bool false, .slice none 0 0, .slice none 0 0], .bool false]) ∧ Below w.heap.size w w' := by
  obtain ⟨W0, hW0⟩ : ∃ W0, w.alloc (.cells #[.bool false, .slice none 0 0, .slice none 0 0] 56) = W0 := ⟨_, rfl⟩
  have B0 : Hid (Below w.heap.size w W0) := by rw [← hW0]; exact (Below.refl _ w).alloc (Nat.le_refl _) _
  have A0 : Hid (W0.heap[w.heap.size]? = some (.cells #[.bool false, .slice none 0 0, .slice none 0 0] 56 (0, 0))) := by rw [← hW0]; exact heap_alloc_new w _
  obtain ⟨U, eU⟩ : ∃ U, s.extract 0 q = U := ⟨_, rfl⟩
  obtain ⟨L, eL⟩ : ∃ L, s.extract (q + 1) l.length = L := ⟨_, rfl⟩
  have hsz := size_of s l hs
  have hU : Hid (U.data.toList = u) := by show _ = _; rw [← eU, hu]; exact extract_take hs q
  have hLo : Hid (L.data.toList = t) := by show _ = _; rw [← eL, ht]; exact extract_drop' hs hsz (q + 1)
  have hul : u.length = q := by rw [hu, List.length_take]; omega
  have htl : t.length = l.length - (q + 1) := by rw [ht, List.length_drop]
  clear hu ht
  have hUz := size_of U _ hU.out
  have hLz := size_of L _ hLo.out
  have q1 := hide (point_calls W0 s l hs (by omega))
  rw [hi] at q1
  have q2 := hide (rdigits_calls W0 U u hU.out (by omega))
  have i1 : (0 : Int) ≤ (q : Int) := by omega
  have i2 : (q : Int) ≤ (l.length : Int) := by omega
  have i3 : (q : Int) + 1 ≤ (l.length : Int) := by omega
  have i4 : ¬ (q : Int) < 0 := by omega
  rw [decide_eq_true hL] at q2
  obtain ⟨z0, z1, z2, f0, f1, f2⟩ := box3 A0.out
  clear hL hi hul htl
  go_enter Tryz.func45, Tryz.ntmps45
  go_wp2_with (first
    | (go_at_call 85; (with_reducible refine q1.out.mono ?_); rintro e wx ⟨rfl, hwx⟩; rw [hwx])
    | (go_at_call 86; (with_reducible refine q2.out.mono ?_); rintro e wx ⟨rfl, hwx⟩; rw [hwx]))
  refine bodyPost_ret (v := .tuple #[.agg #[.bool false, .slice none 0 0, .slice none 0 0], .bool false]) (by simp [results, Tryz.results45, go_sem, z0, z1, z2]) rfl ?_
  exact ⟨rfl, B0.out.then_grown (set3 _ _ _ _ _) (by rintro g ⟨⟩; exact Nat.le_refl _)⟩
set_option maxRecDepth 100000 in
set_option maxHeartbeats 6400000 in
theorem lit_point (w : World) (s : ByteArray) (l u t : List UInt8) (q : Nat) (hs : s.data.toList = l) (hl : l.length ≤ 1073741824) (hq : q < l.length) (hi : Lib.index l [46] = q) (hu : u = l.take q) (ht : t = l.drop (q + 1)) (hL : Lit u) (hn : 0 < t.length) :
    Calls Tryz.prog 45 #[.string s] w fun e w' => ((M.Digs t → ∃ v, e = .returned (.tuple #[v, .bool true]) ∧ RR w' v (false && !decide (M.dec (u ++ t) = 0)) (M.dec (u ++ t) / Nat.gcd (M.dec (u ++ t)) (10 ^ t.length)) (10 ^ t.length / Nat.gcd (M.dec (u ++ t)) (10 ^ t.length))) ∧ (¬ M.Digs t → e = .returned (.tuple #[.agg #[.bool false, .slice none 0 0, .slice none 0 0], .bool false]))) ∧ Below w.heap.size w w' := by
  obtain ⟨W0, hW0⟩ : ∃ W0, w.alloc (.cells #[.bool false, .slice none 0 0, .slice none 0 0] 56) = W0 := ⟨_, rfl⟩
  have B0 : Hid (Below w.heap.size w W0) := by rw [← hW0]; exact (Below.refl _ w).alloc (Nat.le_refl _) _
  have A0 : Hid (W0.heap[w.heap.size]? = some (.cells #[.bool false, .slice none 0 0, .slice none 0 0] 56 (0, 0))) := by rw [← hW0]; exact heap_alloc_new w _
  obtain ⟨U, eU⟩ : ∃ U, s.extract 0 q = U := ⟨_, rfl⟩
  obtain ⟨L, eL⟩ : ∃ L, s.extract (q + 1) l.length = L := ⟨_, rfl⟩
  have hsz := size_of s l hs
  have hU : Hid (U.data.toList = u) := by show _ = _; rw [← eU, hu]; exact extract_take hs q
  have hLo : Hid (L.data.toList = t) := by show _ = _; rw [← eL, ht]; exact extract_drop' hs hsz (q + 1)
  have hul : u.length = q := by rw [hu, List.length_take]; omega
  have htl : t.length = l.length - (q + 1) := by rw [ht, List.length_drop]
  clear hu ht
  have hUz := size_of U _ hU.out
  have hLz := size_of L _ hLo.out
  have q1 := hide (point_calls W0 s l hs (by omega))
  rw [hi] at q1
  have q2 := hide (rdigits_calls W0 U u hU.out (by omega))
  have i1 : (0 : Int) ≤ (q : Int) := by omega
  have i2 : (q : Int) ≤ (l.length : Int) := by omega
  have i3 : (q : Int) + 1 ≤ (l.length : Int) := by omega
  have i4 : ¬ (q : Int) < 0 := by omega
  rw [decide_eq_true hL] at q2
  have dU := hide hL.1.2
  have q3 := hide (natInt_calls W0 1 (by decide) (by decide))
  have lU : u.length + t.length ≤ l.length := by omega
  have hn0 : ¬ (t.length : Int) = 0 := by omega
  have hn1 : ((t.length : Int) == 0) = false := by simpa using hn0
  clear hL hi hul htl
  go_enter Tryz.func45, Tryz.ntmps45
  go_wp2_with (first
    | (go_at_call 85; (with_reducible refine q1.out.mono ?_); rintro e wx ⟨rfl, hwx⟩; rw [hwx])
    | (go_at_call 86; (with_reducible refine q2.out.mono ?_); rintro e wx ⟨rfl, hwx⟩; rw [hwx])
    | (go_at_call 80; (with_reducible refine q3.out.mono ?_); rintro e w1 ⟨⟨v1, rfl, n1⟩, b1⟩; replace n1 := hide n1; replace b1 := hide b1))
  go_loopw [7, 8] (fun d j wr => ∃ k : Nat, k ≤ t.length ∧ j = .int .i64 k ∧ Hid (RN wr d (10 ^ k)) ∧ Hid (M.Digs (t.take k)) ∧ Hid (Below W0.heap.size W0 wr)) (fun _ j _ => t.length - (intOf j).toNat)
  case atStart => exact ⟨0, Nat.zero_le _, rfl, n1, fun b hb => by simp at hb, b1⟩
  case round =>
    obtain ⟨k, hk, rfl, nd, hd, bw⟩ := hrel
    by_cases hlt : k < t.length
    · have hks : k < L.size := by omega
      have hb := byteAt L t hLo.out k hks
      have hgo := hide (fun h1 h2 => digs_take_succ hd.out hlt h1 h2)
      have hno := hide (fun h => not_digs hlt h)
      have hbb : (t.getD k 0).toNat < 256 := UInt8.toNat_lt _
      generalize t.getD k 0 = b at *
      have z1 : (0 : Int) ≤ (k : Int) := by omega
      have z2 : (k : Int) < (t.length : Int) := by omega
      by_cases hbad : ¬ (48 ≤ b.toNat ∧ b.toNat ≤ 57)
      · have hN := hide (hno.out hbad)
        have A1 := hide (kept_block A0.out bw.out)
        obtain ⟨z0, z1, z2, f0, f1, f2⟩ := box3 A1.out
        clear hno hgo
        by_cases h48 : b.toNat < 48
        · go_wp2
          refine bodyPost_ret (v := .tuple #[.agg #[.bool false, .slice none 0 0, .slice none 0 0], .bool false]) (by simp [results, Tryz.results45, go_sem, z0, z1, z2]) rfl ?_
          exact ⟨⟨fun h => absurd h hN.out, fun _ => rfl⟩, (B0.out.then_below bw.out).then_grown (set3 _ _ _ _ _) (by rintro g ⟨⟩; exact Nat.le_refl _)⟩
        · have h57 : 57 < b.toNat := by omega
          go_wp2
          refine bodyPost_ret (v := .tuple #[.agg #[.bool false, .slice none 0 0, .slice none 0 0], .bool false]) (by simp [results, Tryz.results45, go_sem, z0, z1, z2]) rfl ?_
          exact ⟨⟨fun h => absurd h hN.out, fun _ => rfl⟩, (B0.out.then_below bw.out).then_grown (set3 _ _ _ _ _) (by rintro g ⟨⟩; exact Nat.le_refl _)⟩
      · have h48 : ¬ b.toNat < 48 := by omega
        have h57 : ¬ 57 < b.toNat := by omega
        have hd2 := hide (hgo.out (by omega) (by omega))
        have q4 := hide (fun W => natInt_calls W 10 (by decide) (by decide))
        have kd := hide (ten_NB k (l.length + 1) (by omega))
        have k1 := hide (ten_NB 1 (l.length + 1) (by omega))
        clear hno hgo hbad
        go_wp2_with (first
          | (go_at_call 80; (with_reducible refine (q4.out _).mono ?_); rintro e w2 ⟨⟨v2, rfl, n2⟩, b2⟩; have q5 := hide (mulRN w2 _ _ (10 ^ k) 10 (l.length + 1) (nd.out.below b2) n2 kd.out k1.out (by omega)); replace n2 := hide n2; replace b2 := hide b2)
          | (go_at_call 87; (with_reducible refine q5.out.mono ?_); rintro e w3 ⟨⟨v3, rfl, n3⟩, b3⟩; replace n3 := hide n3; replace b3 := hide b3))
        go_roundw
        case rel => exact ⟨k + 1, by omega, by simp, n3, hd2, (bw.out.then_below b2.out).then_below b3.out⟩
        case measure => simp [intOf]; omega
    · obtain rfl : k = t.length := by omega
      rw [List.take_length] at hd
      have hcat : Hid ((U ++ L).data.toList = u ++ t) := by show _ = _; rw [← hU.out, ← hLo.out]; simp
      have q4 := hide (fun W => rnatOf_calls W (U ++ L) (u ++ t) hcat.out (digs_app dU.out hd.out) (by rw [List.length_append]; omega))
      have kn := hide (dec_NB (K := l.length + 1) (digs_app dU.out hd.out) (by rw [List.length_append]; omega))
      have kd := hide (ten_NB t.length (l.length + 1) (by omega))
      have hd0 : Hid (0 < 10 ^ t.length) := Nat.pow_pos (by decide)
      have mm : ¬ 9223372036854775807 < U.size + L.size := by omega
      have mm2 : ¬ 9223372036854775807 < u.length + t.length := by omega
      obtain ⟨da, dl, dc, rfl, -, -, -⟩ := nd.out.form
      go_wp2_with (first
        | (go_at_call 40; (with_reducible refine (q4.out _).mono ?_); rintro e w2 ⟨⟨v2, rfl, n2⟩, b2⟩; have q5 := hide (ratio_calls w2 false _ _ (M.dec (u ++ t)) (10 ^ t.length) (l.length + 1) n2 (nd.out.below b2) hd0.out kn.out kd.out (by omega) (by omega)); replace n2 := hide n2; replace b2 := hide b2)
        | (go_at_call 42; (with_reducible refine q5.out.mono ?_); rintro e w3 ⟨⟨v3, rfl, n3⟩, b3⟩; obtain ⟨pa, pl, pc, ra, rl, rc, rfl, m1, m2⟩ := n3; have A1 := hide (kept_block (kept_block (kept_block A0.out bw.out) b2.out) b3); obtain ⟨z0, z1, z2, f0, f1, f2⟩ := box3 A1.out; have B3 : Hid (Below w.heap.size w w3) := ((B0.out.then_below bw.out).then_below b2.out).then_below b3; replace m1 := hide m1; replace m2 := hide m2; replace b3 := hide b3))
      refine bodyPost_ret (v := .tuple #[.agg #[.bool (false && !decide (M.dec (u ++ t) = 0)), .slice pa pl pc, .slice ra rl rc], .bool true]) (by simp [results, Tryz.results45, go_sem, z0, z1, z2]) rfl ?_
      have q := set3 w3 w.heap.size (.bool false) (.slice pa pl pc) (.slice ra rl rc)
      exact ⟨⟨fun _ => ⟨_, rfl, pa, pl, pc, ra, rl, rc, rfl, m1.out.past A1.out q, m2.out.past A1.out q⟩, fun h => absurd hd.out h⟩, B3.out.then_grown q (by rintro g ⟨⟩; exact Nat.le_refl _)⟩
theorem text_one (n : Nat) : rText false n 1 = lowText false (n / Nat.gcd n 1) (1 / Nat.gcd n 1) := by
  have h := text_same false n 1 (by decide)
  rw [← h]
  simp
set_option maxRecDepth 100000 in
set_option maxHeartbeats 4000000 in
/-- Where Literal answers no. -/
theorem rread_no (w : World) (s : ByteArray) (h : Calls Tryz.prog 45 #[.string s] w fun e w' => e = .returned (.tuple #[.agg #[.bool false, .slice none 0 0, .slice none 0 0], .bool false]) ∧ Below w.heap.size w w') :
    Calls Tryz.prog 13 #[.string s] w fun e w' => e = .returned (.tuple #[.string ⟨#[]⟩, .int .i64 1]) ∧ Below w.heap.size w w' := by
  replace h := hide h
  go_enter Tryz.func13, Tryz.ntmps13
  go_wp2_with (go_at_call 45; (with_reducible refine h.out.mono ?_); rintro e w1 ⟨rfl, b1⟩; replace b1 := hide b1)
  go_ret2
  exact ⟨rfl, b1.out.then_below (alloc_below w1 _)⟩
set_option maxRecDepth 100000 in
set_option maxHeartbeats 4000000 in
/-- Where it answers a rational. -/
theorem rread_yes (w : World) (s : ByteArray) (neg : Bool) (n d K : Nat) (h : Calls Tryz.prog 45 #[.string s] w fun e w' => (∃ v, e = .returned (.tuple #[v, .bool true]) ∧ RR w' v neg n d) ∧ Below w.heap.size w w') (hd0 : 0 < d) (kn : (n : Int) < M.NB ^ K) (kd : (d : Int) < M.NB ^ K) (hK : K ≤ 1099511627776) :
    Calls Tryz.prog 13 #[.string s] w fun e w' => e = .returned (.tuple #[.string ⟨(rText neg n d).toArray⟩, .int .i64 0]) ∧ Below w.heap.size w w' := by
  replace h := hide h
  replace kn := hide kn
  replace kd := hide kd
  go_enter Tryz.func13, Tryz.ntmps13
  go_wp2_with (first
    | (go_at_call 45; (with_reducible refine h.out.mono ?_); rintro e w1 ⟨⟨v, rfl, n1⟩, b1⟩; obtain ⟨na, nl, nc, da, dl, dc, rfl, m1, m2⟩ := n1; replace m1 := hide m1; replace m2 := hide m2; replace b1 := hide b1)
    | (go_at_call 41; refine (rtext_calls _ _ neg n d K ⟨na, nl, nc, da, dl, dc, rfl, m1.out.below (alloc_below w1 _), m2.out.below (alloc_below w1 _)⟩ hd0 kn.out kd.out hK).mono ?_; rintro e w2 ⟨rfl, b2⟩; replace b2 := hide b2))
  go_ret2
  exact ⟨rfl, (b1.out.then_below (alloc_below w1 _)).then_below b2.out⟩
theorem first_at (c : UInt8) (l : List UInt8) : (∀ j, j < l.length → l.getD j 0 ≠ c) ∨ ∃ q, q < l.length ∧ l.getD q 0 = c ∧ ∀ j, j < q → l.getD j 0 ≠ c := by
  induction l with
  | nil => exact .inl (fun j hj => by simp at hj)
  | cons b l ih =>
    by_cases hb : b = c
    · exact .inr ⟨0, by simp, by simpa using hb, fun j hj => absurd hj (Nat.not_lt_zero j)⟩
    · rcases ih with h | ⟨q, h1, h2, h3⟩
      · refine .inl (fun j hj => ?_)
        cases j with
        | zero => simpa using hb
        | succ j => have := h j (by simpa using hj); simpa using this
      · refine .inr ⟨q + 1, by simpa using h1, by simpa using h2, fun j hj => ?_⟩
        cases j with
        | zero => simpa using hb
        | succ j => have := h3 j (by omega); simpa using this
theorem div_NB {a b : Nat} {K : Nat} (h : (a : Int) < M.NB ^ K) : ((a / b : Nat) : Int) < M.NB ^ K := Int.lt_of_le_of_lt (by have := Nat.div_le_self a b; omega) h
theorem rread_calls (w : World) (s : ByteArray) (l : List UInt8) (hs : s.data.toList = l) (hl : l.length ≤ 1073741824) :
    Calls Tryz.prog 13 #[.string s] w fun e w' => e = .returned (.tuple #[.string ⟨(readText l).1.toArray⟩, .int .i64 (readText l).2]) ∧ Below w.heap.size w w' := by
  unfold readText
  rcases first_at 46 l with hno | ⟨q, hq, hb, hno⟩
  · rw [cutp_none l hno]
    simp only
    have hi := indexc_none 46 l hno
    by_cases hL : Lit l
    · rw [read_yes ⟨hL, fun h => by cases h⟩, List.append_nil, List.length_nil, Nat.pow_zero, ← text_one]
      exact rread_yes w s false (M.dec l) 1 (l.length + 1) (lit_whole w s l hs hl hi hL) (by decide) (dec_NB hL.1.2 (by omega)) (ten_NB 0 _ (by omega)) (by omega)
    · rw [read_no (fun h => hL h.1)]
      exact rread_no w s (lit_whole_no w s l hs hl hi hL)
  · rw [cutp_at l q hno hq hb]
    simp only
    have hi := indexc_at 46 l q hno hq hb
    by_cases hL : Lit (l.take q)
    · by_cases hn : (l.drop (q + 1)).length = 0
      · rw [read_no (fun h => (h.2 rfl).1 (List.length_eq_zero_iff.1 hn))]
        exact rread_no w s (lit_point_nil w s l _ _ q hs hl hq hi rfl rfl hL hn)
      · have h := lit_point w s l _ _ q hs hl hq hi rfl rfl hL (by omega)
        have hlen : (l.take q).length + (l.drop (q + 1)).length + 1 = l.length := by rw [List.length_take, List.length_drop]; omega
        by_cases hD : M.Digs (l.drop (q + 1))
        · have hne : l.drop (q + 1) ≠ [] := fun e => hn (by rw [e]; rfl)
          rw [read_yes ⟨hL, fun _ => ⟨hne, hD⟩⟩, ← text_same false _ _ (Nat.pow_pos (by decide))]
          have d0 : 0 < 10 ^ (l.drop (q + 1)).length := Nat.pow_pos (by decide)
          refine rread_yes w s _ _ _ (l.length + 1) (h.mono (fun e w' ⟨⟨h1, _⟩, b⟩ => ⟨h1 hD, b⟩)) (Nat.div_pos (Nat.gcd_le_right _ d0) (Nat.gcd_pos_of_pos_right _ d0)) (div_NB (dec_NB (digs_app hL.1.2 hD) (by rw [List.length_append]; omega))) (div_NB (ten_NB _ _ (by omega))) (by omega)
        · rw [read_no (fun h => hD (h.2 rfl).2)]
          exact rread_no w s (h.mono (fun e w' ⟨⟨_, h2⟩, b⟩ => ⟨h2 hD, b⟩))
    · rw [read_no (fun h => hL h.1)]
      exact rread_no w s (lit_point_no w s l _ _ q hs hl hq hi rfl rfl hL)
end Go.Proofs.YteghlbhpaaocmaaGreatDoor
