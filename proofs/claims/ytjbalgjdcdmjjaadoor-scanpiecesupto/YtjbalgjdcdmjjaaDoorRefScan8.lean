/-
  The document's side of scan: hexadecimals and binaries.
-/
import Derived.Test.YtjbalgjdcdmjjaaDoorRefScan7
namespace Go.Proofs.YtjbalgjdcdmjjaaDoor
open Go.RowKit
set_option linter.unusedVariables false
theorem hex_small (b : UInt8) : hexS (S.small b) = S.hexa b := of_decide_eq_true (all_bytes (P := fun b => decide (hexS (S.small b) = S.hexa b)) (by decide +kernel) b)
theorem bin_small (b : UInt8) : decide ((S.small b).toNat = 48 ∨ (S.small b).toNat = 49) = S.bin b := of_decide_eq_true (all_bytes (P := fun b => decide (decide ((S.small b).toNat = 48 ∨ (S.small b).toNat = 49) = S.bin b)) (by decide +kernel) b)
theorem two_new (w : World) (a b : Value) (T : TypeId) : ∀ j u, ([a, b] : List Value)[j]? = some u → (w.alloc (.cells #[a, b] T)).cell? ((⟨w.heap.size, 0, none⟩ : Addr).add j) = some u := by
  intro j u hu
  rw [add_zero', cell_of_row _ _ j _ _ (0, 0) (heap_alloc_new w (.cells #[a, b] T))]
  simpa using hu
/-- The loop's word: the digits read so far. -/
def HashAt (P : UInt8 → Bool) (l : List UInt8) (c : UInt8) (i k : Nat) (acc : List UInt8) : Prop := S.front P (l.drop (i + 2)) = acc ++ S.front P (l.drop k) ∧ i + 2 + acc.length = k
theorem HashAt.next {P : UInt8 → Bool} {l : List UInt8} {c d : UInt8} {i k : Nat} {acc : List UInt8} (h : HashAt P l c i k acc) (ed : l.drop k = d :: l.drop (k + 1)) (hp : P d = true) : HashAt P l c i (k + 1) (acc ++ [d]) := by
  obtain ⟨h1, h2⟩ := h
  rw [ed, front_cons_pos hp] at h1
  exact ⟨by rw [h1]; simp, by rw [List.length_append, List.length_singleton]; omega⟩
theorem HashAt.stop {P : UInt8 → Bool} {l : List UInt8} {c d : UInt8} {i k : Nat} {acc : List UInt8} (h : HashAt P l c i k acc) (ed : l.drop k = d :: l.drop (k + 1)) (hp : P d = false) : S.front P (l.drop (i + 2)) = acc := by
  have h1 := h.1
  rw [ed, front_cons_neg hp] at h1
  simpa using h1
theorem HashAt.last {P : UInt8 → Bool} {l : List UInt8} {c : UInt8} {i k : Nat} {acc : List UInt8} (h : HashAt P l c i k acc) (ed : l.drop k = []) : S.front P (l.drop (i + 2)) = acc := by
  have h1 := h.1
  rw [ed] at h1
  simpa [S.front] using h1
/-- What comes of it. -/
theorem hash_of {P : UInt8 → Bool} {l : List UInt8} {c : UInt8} {i k : Nat} {acc : List UInt8} (h : HashAt P l c i k acc) (hf : S.front P (l.drop (i + 2)) = acc) {kd : Nat} {D : S.DR} (hD : D = if S.front P (l.drop (i + 2)) = [] then .inr (12, i + 2) else S.dAfter kd i (i + 2 + (S.front P (l.drop (i + 2))).length) (35 :: c :: (S.front P (l.drop (i + 2))).map S.small) (S.rest P (l.drop (i + 2)))) :
    (acc = [] ∧ k = i + 2 ∧ D = .inr (12, k)) ∨ (acc ≠ [] ∧ i + 2 < k ∧ D = S.dAfter kd i k (35 :: c :: acc.map S.small) (l.drop k)) := by
  have h2 := h.2
  have e : S.rest P (l.drop (i + 2)) = l.drop k := by
    have := drop_front0 P (l.drop (i + 2))
    rw [hf, List.drop_drop, h2] at this
    exact this.symm
  rw [e, hf, h2] at hD
  by_cases ha : acc = []
  · rw [if_pos ha] at hD
    subst ha
    simp at h2
    exact .inl ⟨rfl, h2.symm, by rw [hD, h2]⟩
  · rw [if_neg ha] at hD
    have : 0 < acc.length := List.length_pos_iff.2 ha
    exact .inr ⟨ha, by omega, hD⟩
theorem two_new' (w : World) (o : Obj) (a b : Value) : ∀ j u, ([a, b] : List Value)[j]? = some u → ((w.alloc o).alloc (.cells #[a, b] 5)).cell? ((⟨w.heap.size + 1, 0, none⟩ : Addr).add j) = some u := by
  have h := two_new (w.alloc o) a b 5
  simpa using h
set_option maxRecDepth 100000 in
set_option maxHeartbeats 600000 in
theorem hash_x (w : World) (s : ByteArray) (l : List UInt8) (hs : s.data.toList = l) (hl : l.length ≤ 1073741824) (i : Nat) (hi : i + 1 < l.length) (hc : l.getD (i + 1) 0 = 120) (D : S.DR) (hD0 : D = if S.front S.hexa (l.drop (i + 2)) = [] then .inr (12, i + 2) else S.dAfter 7 i (i + 2 + (S.front S.hexa (l.drop (i + 2))).length) (35 :: 120 :: (S.front S.hexa (l.drop (i + 2))).map S.small) (S.rest S.hexa (l.drop (i + 2)))) :
    Calls Tryd.prog 44 #[.string s, .int .i64 i] w fun e w' => e = .returned (oneV D) ∧ Below w.heap.size w w' := by
  obtain ⟨i0, hi1, hz0, hz1, hz2⟩ := info_parts infoByte
  have hn := size_of s l hs
  have hz : s.size ≤ 1073741824 := by omega
  have hat := hide (fun (k : Nat) (h : k < s.size) => byteAt s l hs k h)
  have hi0 : i + 1 < s.size := by omega
  have hb1 : s[i + 1]'hi0 = 120 := by rw [← hc]; exact hat.out (i + 1) hi0
  have hi2 : (i : Int) + 1 < s.size := by omega
  have hi3 : ¬ (s.size : Int) ≤ (i : Int) + 1 := by omega
  have hi4 : decide ((s.size : Int) ≤ (i : Int) + 1) = false := by simp; omega
  have qw := hide (fun W (kd : Int) (kd' : Nat) (hkd : kd = kd') k (hk : k ≤ l.length) x => rwhole_at W s l hs hl i k hk x kd kd' hkd)
  have H0 : Hid (HashAt S.hexa l 120 i (i + 2) []) := ⟨by simp, by simp⟩
  have hD := hide hD0
  have B0 : Hid (Below w.heap.size w (w.alloc (.cells #[.int .i64 0, .int .i64 0, .int .i64 0, .string ⟨#[]⟩] 66))) := (Below.refl _ w).alloc (Nat.le_refl _) _
  have W0s : Hid ((w.alloc (.cells #[.int .i64 0, .int .i64 0, .int .i64 0, .string ⟨#[]⟩] 66)).heap.size = w.heap.size + 1) := by simp [Hid]
  replace hn := hide hn
  clear hs hl hc hD0 hi
  go_enter Tryd.func44, Tryd.ntmps44
  go_wp2_with (at_builtin; (refine wpList_append_own _ rfl _ _ 70 rfl (w.heap.size + 1) 5 i0 (.int .u8 0) 1 1 sliceByte hi1 hz0 hz1 hz2 rfl (by decide) (.slice none 0 0) 0 [] rfl (World.ownsRow_nil _ _ _ _) ⟨w.heap.size + 1, 0, none⟩ 2 2 [.int .u8 35, .int .u8 120] rfl rfl (two_new' _ _ _ _) (by simp [Value.oneCell']) (by unfold maxLen; omega) (by omega) (by simp) ?_; intro v' w1 o1 g1 _; replace o1 := hide o1; replace g1 := hide g1))
  have O0 : Hid (OwnV (w.heap.size + 1) w1 v' [35, 120]) := o1.out
  have Bw : Hid (Below (w.heap.size + 1) (w.alloc (.cells #[.int .i64 0, .int .i64 0, .int .i64 0, .string ⟨#[]⟩] 66)) w1) := ((Below.refl _ _).alloc (by simp) _).grown g1.out (by simp) (fun g hg => by simp [Value.ownBlock] at hg)
  clear o1 g1
  go_loopw [7, 8] (fun v j wr => ∃ (k : Nat) (acc : List UInt8), i + 2 ≤ k ∧ k ≤ s.size ∧ j = .int .i64 k ∧ Hid (HashAt S.hexa l 120 i k acc) ∧ Hid (OwnV (w.heap.size + 1) wr v (35 :: 120 :: acc.map S.small)) ∧ Hid (Below (w.heap.size + 1) (w.alloc (.cells #[.int .i64 0, .int .i64 0, .int .i64 0, .string ⟨#[]⟩] 66)) wr)) (fun _ j _ => s.size - (intOf j).toNat)
  case atStart => exact ⟨i + 2, [], by omega, by omega, by go_num, H0, O0, Bw⟩
  case round =>
    clear H0 O0 Bw
    obtain ⟨k, acc, hk1, hk2, rfl, hH, hO, hBw⟩ := hrel
    have hbr := res_cells hBw.out
    obtain ⟨r0, r1, r2, r3, rz⟩ := hbr
    have cv := hO.out.conv
    have hwz : w.heap.size + 1 ≤ wr.heap.size := by have := hBw.out.size; simpa using this
    obtain ⟨va, vc, hv⟩ := own_shape (ownsRow_zero hO.out)
    subst hv
    obtain ⟨L, hL⟩ : ∃ L, (35 :: 120 :: acc.map S.small : List UInt8).length = L := ⟨_, rfl⟩
    have hLb : L ≤ k + 2 := by rw [← hL]; simp; have := hH.out.2; omega
    rw [hL] at cv hO ⊢
    have hO2 := hO.out
    unfold OwnV at hO2
    rw [hL] at hO2
    replace hO2 := hide hO2
    have hLh := hide hL
    clear hL
    by_cases hlt : k < s.size
    · have hll : k < l.length := by rw [← hn.out]; exact hlt
      have hb : s[k]'hlt = l.getD k 0 := hat.out k hlt
      have ed := drop_cons l k hll
      obtain ⟨d, hb2⟩ : ∃ d, l.getD k 0 = d := ⟨_, rfl⟩
      rw [hb2] at hb ed
      have qs := hide (fun W => rSmall_calls W d)
      have hlt1 : (k : Int) < s.size := by omega
      cases hp : S.hexa d with
      | true =>
        have qh := hide (fun W => rHex_calls W (S.small d))
        rw [hex_small, hp] at qh
        have hH2 := hide (hH.out.next ed hp)
        clear hp ed hb2 hH cv
        go_wp2_with (first
          | (go_at_call 56; refine (qs.out _).mono ?_; rintro e w2 ⟨rfl, rfl⟩)
          | (go_at_call 57; refine (qh.out _).mono ?_; rintro e w2 ⟨rfl, rfl⟩)
          | (at_builtin; (refine wpList_append_own _ rfl _ _ 70 rfl (w.heap.size + 1) 5 i0 (.int .u8 0) 1 1 sliceByte hi1 hz0 hz1 hz2 rfl (by decide) _ _ _ rfl (hO2.out.alloc _) _ 1 1 [.int .u8 (S.small d).toNat] rfl rfl (cell_one_new _ _ _) (by simp [Value.oneCell']) (by unfold maxLen; omega) (by omega) (by simp; omega) ?_; intro v' w2 o2 g2 _; replace o2 := hide o2; replace g2 := hide g2)))
        go_roundw
        case rel => exact ⟨k + 1, acc ++ [d], by omega, by omega, by go_num, hH2, by rw [List.map_append]; exact own_snoc (acc := 35 :: 120 :: acc.map S.small) (x := S.small d) hLh.out o2.out, own_below hBw.out hwz g2.out hO.out⟩
        case measure => simp [intOf]; omega
      | false =>
        have qh := hide (fun W => rHex_calls W (S.small d))
        rw [hex_small, hp] at qh
        have hf := hide (hH.out.stop ed hp)
        clear hp ed hb2
        rcases hash_of hH.out hf.out hD.out with ⟨h1, h2, h3⟩ | ⟨h1, h2, h3⟩
        · subst h2
          have h3h := hide h3
          clear h1 h3 hf hH hD
          go_wp2_with (first
            | (go_at_call 56; refine (qs.out _).mono ?_; rintro e w2 ⟨rfl, rfl⟩)
            | (go_at_call 57; refine (qh.out _).mono ?_; rintro e w2 ⟨rfl, rfl⟩))
          refine bodyPost_ret (v := .tuple #[.agg #[.int .i64 0, .int .i64 0, .int .i64 0, .string ⟨#[]⟩], .int .i64 12, .int .i64 ((i : Int) + 2)]) (by simp [results, Tryd.results44, go_sem, r0, r1, r2, r3]) rfl ?_
          exact ⟨by rw [h3h.out]; rfl, res_below B0.out hBw.out _ _ _ _⟩
        · have h2i : ¬ (k : Int) = (i : Int) + 2 := by omega
          have qx := hide (fun W => qw.out W 7 7 rfl k (by have := hn.out; omega) (35 :: 120 :: acc.map S.small))
          rw [← h3] at qx
          clear h1 h3 hf hH hD
          generalize (35 :: 120 :: acc.map S.small : List UInt8) = x at qx cv
          go_wp2_with (first
            | (go_at_call 56; refine (qs.out _).mono ?_; rintro e w2 ⟨rfl, rfl⟩)
            | (go_at_call 57; refine (qh.out _).mono ?_; rintro e w2 ⟨rfl, rfl⟩)
            | (go_at_call 58; refine (qx.out _).mono ?_; rintro e w3 ⟨rfl, b1⟩; have B2 := hBw.out.trans (b1.mono hwz); have rc := res_cells B2; obtain ⟨t0, t1, t2, t3, tz⟩ := rc; unfold oneV tkAgg; replace B2 := hide B2; clear b1))
          refine bodyPost_ret (v := oneV D) (by simp [results, Tryd.results44, go_sem, oneV, tkAgg, t0, t1, t2, t3]) rfl ?_
          exact ⟨rfl, res_below B0.out B2.out _ _ _ _⟩
    · have hf : Hid (S.front S.hexa (l.drop (i + 2)) = acc) := hH.out.last (List.drop_eq_nil_of_le (by rw [← hn.out]; omega))
      have hlt1 : ¬ (k : Int) < s.size := by omega
      rcases hash_of hH.out hf.out hD.out with ⟨h1, h2, h3⟩ | ⟨h1, h2, h3⟩
      · subst h2
        have h3h := hide h3
        clear h1 h3 hf hH hD
        go_wp2
        refine bodyPost_ret (v := .tuple #[.agg #[.int .i64 0, .int .i64 0, .int .i64 0, .string ⟨#[]⟩], .int .i64 12, .int .i64 ((i : Int) + 2)]) (by simp [results, Tryd.results44, go_sem, r0, r1, r2, r3]) rfl ?_
        exact ⟨by rw [h3h.out]; rfl, res_below B0.out hBw.out _ _ _ _⟩
      · have h2i : ¬ (k : Int) = (i : Int) + 2 := by omega
        have qx := hide (fun W => qw.out W 7 7 rfl k (by have := hn.out; omega) (35 :: 120 :: acc.map S.small))
        rw [← h3] at qx
        clear h1 h3 hf hH hD
        generalize (35 :: 120 :: acc.map S.small : List UInt8) = x at qx cv
        go_wp2_with (first
          | (go_at_call 58; refine (qx.out _).mono ?_; rintro e w3 ⟨rfl, b1⟩; have B2 := hBw.out.trans (b1.mono hwz); have rc := res_cells B2; obtain ⟨t0, t1, t2, t3, tz⟩ := rc; unfold oneV tkAgg; replace B2 := hide B2; clear b1))
        refine bodyPost_ret (v := oneV D) (by simp [results, Tryd.results44, go_sem, oneV, tkAgg, t0, t1, t2, t3]) rfl ?_
        exact ⟨rfl, res_below B0.out B2.out _ _ _ _⟩
set_option maxRecDepth 100000 in
set_option maxHeartbeats 600000 in
theorem hash_b (w : World) (s : ByteArray) (l : List UInt8) (hs : s.data.toList = l) (hl : l.length ≤ 1073741824) (i : Nat) (hi : i + 1 < l.length) (hc : l.getD (i + 1) 0 = 98) (D : S.DR) (hD0 : D = if S.front S.bin (l.drop (i + 2)) = [] then .inr (12, i + 2) else S.dAfter 8 i (i + 2 + (S.front S.bin (l.drop (i + 2))).length) (35 :: 98 :: (S.front S.bin (l.drop (i + 2))).map S.small) (S.rest S.bin (l.drop (i + 2)))) :
    Calls Tryd.prog 44 #[.string s, .int .i64 i] w fun e w' => e = .returned (oneV D) ∧ Below w.heap.size w w' := by
  obtain ⟨i0, hi1, hz0, hz1, hz2⟩ := info_parts infoByte
  have hn := size_of s l hs
  have hz : s.size ≤ 1073741824 := by omega
  have hat := hide (fun (k : Nat) (h : k < s.size) => byteAt s l hs k h)
  have hi0 : i + 1 < s.size := by omega
  have hb1 : s[i + 1]'hi0 = 98 := by rw [← hc]; exact hat.out (i + 1) hi0
  have hi2 : (i : Int) + 1 < s.size := by omega
  have hi3 : ¬ (s.size : Int) ≤ (i : Int) + 1 := by omega
  have hi4 : decide ((s.size : Int) ≤ (i : Int) + 1) = false := by simp; omega
  have qw := hide (fun W (kd : Int) (kd' : Nat) (hkd : kd = kd') k (hk : k ≤ l.length) x => rwhole_at W s l hs hl i k hk x kd kd' hkd)
  have H0 : Hid (HashAt S.bin l 98 i (i + 2) []) := ⟨by simp, by simp⟩
  have hD := hide hD0
  have B0 : Hid (Below w.heap.size w (w.alloc (.cells #[.int .i64 0, .int .i64 0, .int .i64 0, .string ⟨#[]⟩] 66))) := (Below.refl _ w).alloc (Nat.le_refl _) _
  have W0s : Hid ((w.alloc (.cells #[.int .i64 0, .int .i64 0, .int .i64 0, .string ⟨#[]⟩] 66)).heap.size = w.heap.size + 1) := by simp [Hid]
  replace hn := hide hn
  clear hs hl hc hD0 hi
  go_enter Tryd.func44, Tryd.ntmps44
  go_wp2_with (at_builtin; (refine wpList_append_own _ rfl _ _ 70 rfl (w.heap.size + 1) 5 i0 (.int .u8 0) 1 1 sliceByte hi1 hz0 hz1 hz2 rfl (by decide) (.slice none 0 0) 0 [] rfl (World.ownsRow_nil _ _ _ _) ⟨w.heap.size + 1, 0, none⟩ 2 2 [.int .u8 35, .int .u8 98] rfl rfl (two_new' _ _ _ _) (by simp [Value.oneCell']) (by unfold maxLen; omega) (by omega) (by simp) ?_; intro v' w1 o1 g1 _; replace o1 := hide o1; replace g1 := hide g1))
  have O0 : Hid (OwnV (w.heap.size + 1) w1 v' [35, 98]) := o1.out
  have Bw : Hid (Below (w.heap.size + 1) (w.alloc (.cells #[.int .i64 0, .int .i64 0, .int .i64 0, .string ⟨#[]⟩] 66)) w1) := ((Below.refl _ _).alloc (by simp) _).grown g1.out (by simp) (fun g hg => by simp [Value.ownBlock] at hg)
  clear o1 g1
  go_loopw [7, 8] (fun v j wr => ∃ (k : Nat) (acc : List UInt8), i + 2 ≤ k ∧ k ≤ s.size ∧ j = .int .i64 k ∧ Hid (HashAt S.bin l 98 i k acc) ∧ Hid (OwnV (w.heap.size + 1) wr v (35 :: 98 :: acc.map S.small)) ∧ Hid (Below (w.heap.size + 1) (w.alloc (.cells #[.int .i64 0, .int .i64 0, .int .i64 0, .string ⟨#[]⟩] 66)) wr)) (fun _ j _ => s.size - (intOf j).toNat)
  case atStart => exact ⟨i + 2, [], by omega, by omega, by go_num, H0, O0, Bw⟩
  case round =>
    clear H0 O0 Bw
    obtain ⟨k, acc, hk1, hk2, rfl, hH, hO, hBw⟩ := hrel
    have hbr := res_cells hBw.out
    obtain ⟨r0, r1, r2, r3, rz⟩ := hbr
    have cv := hO.out.conv
    have hwz : w.heap.size + 1 ≤ wr.heap.size := by have := hBw.out.size; simpa using this
    obtain ⟨va, vc, hv⟩ := own_shape (ownsRow_zero hO.out)
    subst hv
    obtain ⟨L, hL⟩ : ∃ L, (35 :: 98 :: acc.map S.small : List UInt8).length = L := ⟨_, rfl⟩
    have hLb : L ≤ k + 2 := by rw [← hL]; simp; have := hH.out.2; omega
    rw [hL] at cv hO ⊢
    have hO2 := hO.out
    unfold OwnV at hO2
    rw [hL] at hO2
    replace hO2 := hide hO2
    have hLh := hide hL
    clear hL
    by_cases hlt : k < s.size
    · have hll : k < l.length := by rw [← hn.out]; exact hlt
      have hb : s[k]'hlt = l.getD k 0 := hat.out k hlt
      have ed := drop_cons l k hll
      obtain ⟨d, hb2⟩ : ∃ d, l.getD k 0 = d := ⟨_, rfl⟩
      rw [hb2] at hb ed
      have qs := hide (fun W => rSmall_calls W d)
      have hlt1 : (k : Int) < s.size := by omega
      cases hp : S.bin d with
      | true =>
        have hb3 : (S.small d).toNat = 48 ∨ (S.small d).toNat = 49 := by
          have h := bin_small d
          rw [hp] at h
          exact of_decide_eq_true h
        have hH2 := hide (hH.out.next ed hp)
        clear hp ed hb2 hH cv
        have dec : (((S.small d).toNat : Int) != 48) = false ∨ ((((S.small d).toNat : Int) != 48) = true ∧ (((S.small d).toNat : Int) != 49) = false) := by
          rcases hb3 with h | h
          · exact .inl (by simp; omega)
          · exact .inr ⟨by simp; omega, by simp; omega⟩
        clear hb3
        rcases dec with m48 | ⟨m48, m49⟩
        all_goals
          go_wp2_with (first
            | (go_at_call 56; refine (qs.out _).mono ?_; rintro e w2 ⟨rfl, rfl⟩)
            | (at_builtin; (refine wpList_append_own _ rfl _ _ 70 rfl (w.heap.size + 1) 5 i0 (.int .u8 0) 1 1 sliceByte hi1 hz0 hz1 hz2 rfl (by decide) _ _ _ rfl (hO2.out.alloc _) _ 1 1 [.int .u8 (S.small d).toNat] rfl rfl (cell_one_new _ _ _) (by simp [Value.oneCell']) (by unfold maxLen; omega) (by omega) (by simp; omega) ?_; intro v' w2 o2 g2 _; replace o2 := hide o2; replace g2 := hide g2)))
          go_roundw
          case rel => exact ⟨k + 1, acc ++ [d], by omega, by omega, by go_num, hH2, by rw [List.map_append]; exact own_snoc (acc := 35 :: 98 :: acc.map S.small) (x := S.small d) hLh.out o2.out, own_below hBw.out hwz g2.out hO.out⟩
          case measure => simp [intOf]; omega
      | false =>
        have hb3 : ¬ ((S.small d).toNat = 48 ∨ (S.small d).toNat = 49) := by
          have h := bin_small d
          rw [hp] at h
          exact of_decide_eq_false h
        have m48 : (((S.small d).toNat : Int) != 48) = true := by simp; omega
        have m49 : (((S.small d).toNat : Int) != 49) = true := by simp; omega
        clear hb3
        have hf := hide (hH.out.stop ed hp)
        clear hp ed hb2
        rcases hash_of hH.out hf.out hD.out with ⟨h1, h2, h3⟩ | ⟨h1, h2, h3⟩
        · subst h2
          have h3h := hide h3
          clear h1 h3 hf hH hD
          go_wp2_with (first
            | (go_at_call 56; refine (qs.out _).mono ?_; rintro e w2 ⟨rfl, rfl⟩))
          refine bodyPost_ret (v := .tuple #[.agg #[.int .i64 0, .int .i64 0, .int .i64 0, .string ⟨#[]⟩], .int .i64 12, .int .i64 ((i : Int) + 2)]) (by simp [results, Tryd.results44, go_sem, r0, r1, r2, r3]) rfl ?_
          exact ⟨by rw [h3h.out]; rfl, res_below B0.out hBw.out _ _ _ _⟩
        · have h2i : ¬ (k : Int) = (i : Int) + 2 := by omega
          have qx := hide (fun W => qw.out W 8 8 rfl k (by have := hn.out; omega) (35 :: 98 :: acc.map S.small))
          rw [← h3] at qx
          clear h1 h3 hf hH hD
          generalize (35 :: 98 :: acc.map S.small : List UInt8) = x at qx cv
          go_wp2_with (first
            | (go_at_call 56; refine (qs.out _).mono ?_; rintro e w2 ⟨rfl, rfl⟩)
            | (go_at_call 58; refine (qx.out _).mono ?_; rintro e w3 ⟨rfl, b1⟩; have B2 := hBw.out.trans (b1.mono hwz); have rc := res_cells B2; obtain ⟨t0, t1, t2, t3, tz⟩ := rc; unfold oneV tkAgg; replace B2 := hide B2; clear b1))
          refine bodyPost_ret (v := oneV D) (by simp [results, Tryd.results44, go_sem, oneV, tkAgg, t0, t1, t2, t3]) rfl ?_
          exact ⟨rfl, res_below B0.out B2.out _ _ _ _⟩
    · have hf : Hid (S.front S.bin (l.drop (i + 2)) = acc) := hH.out.last (List.drop_eq_nil_of_le (by rw [← hn.out]; omega))
      have hlt1 : ¬ (k : Int) < s.size := by omega
      rcases hash_of hH.out hf.out hD.out with ⟨h1, h2, h3⟩ | ⟨h1, h2, h3⟩
      · subst h2
        have h3h := hide h3
        clear h1 h3 hf hH hD
        go_wp2
        refine bodyPost_ret (v := .tuple #[.agg #[.int .i64 0, .int .i64 0, .int .i64 0, .string ⟨#[]⟩], .int .i64 12, .int .i64 ((i : Int) + 2)]) (by simp [results, Tryd.results44, go_sem, r0, r1, r2, r3]) rfl ?_
        exact ⟨by rw [h3h.out]; rfl, res_below B0.out hBw.out _ _ _ _⟩
      · have h2i : ¬ (k : Int) = (i : Int) + 2 := by omega
        have qx := hide (fun W => qw.out W 8 8 rfl k (by have := hn.out; omega) (35 :: 98 :: acc.map S.small))
        rw [← h3] at qx
        clear h1 h3 hf hH hD
        generalize (35 :: 98 :: acc.map S.small : List UInt8) = x at qx cv
        go_wp2_with (first
          | (go_at_call 58; refine (qx.out _).mono ?_; rintro e w3 ⟨rfl, b1⟩; have B2 := hBw.out.trans (b1.mono hwz); have rc := res_cells B2; obtain ⟨t0, t1, t2, t3, tz⟩ := rc; unfold oneV tkAgg; replace B2 := hide B2; clear b1))
        refine bodyPost_ret (v := oneV D) (by simp [results, Tryd.results44, go_sem, oneV, tkAgg, t0, t1, t2, t3]) rfl ?_
        exact ⟨rfl, res_below B0.out B2.out _ _ _ _⟩
end Go.Proofs.YtjbalgjdcdmjjaaDoor
