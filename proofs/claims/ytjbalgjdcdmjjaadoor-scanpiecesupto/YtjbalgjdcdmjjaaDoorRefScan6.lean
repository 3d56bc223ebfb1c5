/-
  The document's side of scan: strings.
-/
import Derived.Test.YtjbalgjdcdmjjaaDoorRefScan5
namespace Go.Proofs.YtjbalgjdcdmjjaaDoor
open Go.RowKit
set_option linter.unusedVariables false
/-- Bytes of one's own. -/
def OwnV (B : Nat) (w : World) (v : Value) (acc : List UInt8) : Prop := w.ownsRow B 5 1 v acc.length (acc.map byteV)
theorem OwnV.conv {B : Nat} {w : World} {v : Value} {acc : List UInt8} (h : OwnV B w v acc) : (convert 70 9 v).run Tryd.prog w = .ok (.string ⟨acc.toArray⟩) w := by
  have h0 := ownsRow_zero h
  rcases h0 with ⟨h1, ⟨rfl, h2⟩ | ⟨b, cap, cur, rfl, h3, hb, h4, h5, h6, h7⟩⟩
  · have : acc = [] := List.length_eq_zero_iff.1 h2
    subst this
    exact conv_none w
  · refine run_convert_bytes_back (P := Tryd.prog) w 70 9 5 ⟨b, 0, none⟩ cap acc sliceByte (by kernel_rfl) (by kernel_rfl) (fun j hj => ?_)
    exact (ownsRow_zero h).cells (g := b) rfl j (byteV acc[j]) (by rw [List.getElem?_map, List.getElem?_eq_getElem hj]; rfl)
theorem own_below {B : Nat} {W0 wr w1 : World} {o : Obj} {v : Value} {acc : List UInt8} (hB : Below B W0 wr) (hz : B ≤ wr.heap.size) (g1 : (wr.alloc o).grownBy w1 v.ownBlock) (hO : OwnV B wr v acc) : Below B W0 w1 :=
  (hB.alloc hz _).grown g1 (by simp; omega) (fun g hg => (hO.lt g hg).1)
theorem own_snoc {B : Nat} {w1 : World} {v : Value} {acc : List UInt8} {x : UInt8} {L : Nat} (hL : acc.length = L) (h : w1.ownsRow B 5 1 v (L + 1) (acc.map byteV ++ [.int .u8 x.toNat])) : OwnV B w1 v (acc ++ [x]) := by
  unfold OwnV
  rw [List.length_append, List.length_singleton, hL, List.map_append]
  exact h
theorem dStr_ctl {g : Nat} {a t : List UInt8} {i : Nat} {b : UInt8} (h1 : b ≠ 34) (h3 : S.ctl b = true) : S.dStr g a (b :: t) i = .inr (10, i) := by
  rw [S.dStr.eq_def]; simp [h1, h3]
theorem dStr_bad {g : Nat} {a t : List UInt8} {i : Nat} {b : UInt8} (h1 : b ≠ 34) (h3 : S.ctl b = false) (h4 : S.chr (b :: t) = 0) : S.dStr g a (b :: t) i = .inr (11, i) := by
  rw [S.dStr.eq_def]; simp [h1, h3, h4]
theorem dStr_step {g : Nat} {a t : List UInt8} {i : Nat} {b : UInt8} (h1 : b ≠ 34) (h3 : S.ctl b = false) (h4 : S.chr (b :: t) ≠ 0) : S.dStr g a (b :: t) i = S.dStr g (a ++ (b :: t).take (S.chr (b :: t))) ((b :: t).drop (S.chr (b :: t))) (i + S.chr (b :: t)) := by
  rw [S.dStr.eq_def]; simp [h1, h3, h4]
theorem dStr_last {g : Nat} {a : List UInt8} {i : Nat} : S.dStr g a [34] i = .inl (⟨9, g, i + 1, a⟩, []) := by
  rw [S.dStr.eq_def]; simp
theorem dStr_end {g : Nat} {a r : List UInt8} {i : Nat} {c : UInt8} (h : c ≠ 34) : S.dStr g a (34 :: c :: r) i = .inl (⟨9, g, i + 1, a⟩, c :: r) := by
  rw [S.dStr.eq_def]; simp [h]
theorem dStr_two {g : Nat} {a r : List UInt8} {i : Nat} : S.dStr g a (34 :: 34 :: r) i = S.dStr g (a ++ [34]) r (i + 2) := by
  rw [S.dStr.eq_def]; simp
/-- The result's own cells are written, at the end. -/
theorem res_below {w W0 wr : World} {B : Nat} (hB0 : Below w.heap.size w W0) (hB : Below B W0 wr) (u0 u1 u2 u3 : Value) (hz : w.heap.size ≤ B := by omega) : Below w.heap.size w ((((wr.setCell ⟨w.heap.size, 0, none⟩ u0).setCell ⟨w.heap.size, 1, none⟩ u1).setCell ⟨w.heap.size, 2, none⟩ u2).setCell ⟨w.heap.size, 3, none⟩ u3) :=
  ((((hB0.trans (hB.mono hz)).setCell (Nat.le_refl _) _).setCell (Nat.le_refl _) _).setCell (Nat.le_refl _) _).setCell (Nat.le_refl _) _
theorem res_cells {w wr : World} (hB : Below (w.heap.size + 1) (w.alloc (.cells #[.int .i64 0, .int .i64 0, .int .i64 0, .string ⟨#[]⟩] 66)) wr) :
    wr.cell? ⟨w.heap.size, 0, none⟩ = some (.int .i64 0) ∧ wr.cell? ⟨w.heap.size, 1, none⟩ = some (.int .i64 0) ∧ wr.cell? ⟨w.heap.size, 2, none⟩ = some (.int .i64 0) ∧ wr.cell? ⟨w.heap.size, 3, none⟩ = some (.string ⟨#[]⟩) ∧ ∀ j, wr.frozen? ⟨w.heap.size, j, none⟩ = false := by
  have A := (hB.block w.heap.size (by omega)).trans (heap_alloc_new w (.cells #[.int .i64 0, .int .i64 0, .int .i64 0, .string ⟨#[]⟩] 66))
  refine ⟨cell_of_row _ _ 0 _ _ (0, 0) A, cell_of_row _ _ 1 _ _ (0, 0) A, cell_of_row _ _ 2 _ _ (0, 0) A, cell_of_row _ _ 3 _ _ (0, 0) A, fun j => ?_⟩
  simp [World.frozen?, A]
theorem take_snoc' (l : List UInt8) (k j : Nat) (h : k + j < l.length) : (l.drop k).take (j + 1) = (l.drop k).take j ++ [l.getD (k + j) 0] := by
  rw [List.take_succ_eq_append_getElem (by rw [List.length_drop]; omega), List.getElem_drop, List.getD_eq_getElem?_getD, List.getElem?_eq_getElem h]
  rfl
set_option maxRecDepth 100000 in
set_option maxHeartbeats 4000000 in
theorem text_calls (w : World) (s : ByteArray) (l : List UInt8) (hs : s.data.toList = l) (hl : l.length ≤ 1073741824) (i : Nat) (hi : i < l.length) :
    Calls Tryd.prog 42 #[.string s, .int .i64 i] w fun e w' => e = .returned (oneV (S.dStr i [] (l.drop (i + 1)) (i + 1))) ∧ Below w.heap.size w w' := by
  obtain ⟨i0, hi1, hz0, hz1, hz2⟩ := info_parts infoByte
  have hn := size_of s l hs
  have hz : s.size ≤ 1073741824 := by omega
  have hat := hide (fun (k : Nat) (h : k < s.size) => byteAt s l hs k h)
  have qc := hide (fun W k (hk : k < l.length) => char_calls W s l hs hl k hk)
  have hi0 : i < s.size := by omega
  obtain ⟨R, hR⟩ : ∃ R, S.dStr i [] (l.drop (i + 1)) (i + 1) = R := ⟨_, rfl⟩
  rw [hR]
  have hR0 := hide hR
  replace hn := hide hn
  clear hs hl hi hR
  have B0 : Hid (Below w.heap.size w (w.alloc (.cells #[.int .i64 0, .int .i64 0, .int .i64 0, .string ⟨#[]⟩] 66))) := (Below.refl _ w).alloc (Nat.le_refl _) _
  go_enter Tryd.func42, Tryd.ntmps42
  go_wp2
  go_loopw [7, 8] (fun v j wr => ∃ (k : Nat) (acc : List UInt8), i + 1 ≤ k ∧ k ≤ s.size ∧ acc.length ≤ k ∧ j = .int .i64 k ∧ Hid (S.dStr i acc (l.drop k) k = R) ∧ Hid (OwnV (w.heap.size + 1) wr v acc) ∧ Hid (Below (w.heap.size + 1) (w.alloc (.cells #[.int .i64 0, .int .i64 0, .int .i64 0, .string ⟨#[]⟩] 66)) wr)) (fun _ j _ => s.size - (intOf j).toNat)
  case atStart => exact ⟨i + 1, [], by omega, by omega, by simp, by go_num, hR0, World.ownsRow_nil _ _ _ _, Below.refl _ _⟩
  case round =>
    clear hR0
    obtain ⟨k, acc, hk1, hk2, hk3, rfl, hR, hO, hBw⟩ := hrel
    obtain ⟨r0, r1, r2, r3, rz⟩ := res_cells hBw.out
    have cv := hO.out.conv
    have hwz : w.heap.size + 1 ≤ wr.heap.size := by have := hBw.out.size; simpa using this
    obtain ⟨va, vc, hv⟩ := own_shape (ownsRow_zero hO.out)
    subst hv
    obtain ⟨L, hL⟩ : ∃ L, acc.length = L := ⟨_, rfl⟩
    rw [hL] at hk3 cv hO ⊢
    have hO2 := hO.out
    unfold OwnV at hO2
    rw [hL] at hO2
    replace hO2 := hide hO2
    have hLh := hide hL
    clear hL
    by_cases hlt : k < s.size
    · have hll : k < l.length := by rw [← hn.out]; exact hlt
      have hb : s[k]'hlt = l.getD k 0 := hat.out k hlt
      have ed := drop_cons l k hll
      obtain ⟨b, hb2⟩ : ∃ b, l.getD k 0 = b := ⟨_, rfl⟩
      rw [hb2] at hb ed
      have hR2 := hR.out
      rw [ed] at hR2
      by_cases c34 : b = 34
      · subst c34
        by_cases hend : k + 1 < s.size
        · have hb3 : s[k + 1]'hend = l.getD (k + 1) 0 := hat.out (k + 1) hend
          have ed2 := drop_cons l (k + 1) (by rw [← hn.out]; exact hend)
          obtain ⟨c, hc2⟩ : ∃ c, l.getD (k + 1) 0 = c := ⟨_, rfl⟩
          rw [hc2] at hb3 ed2
          rw [ed2] at hR2
          have hend1 : (k : Int) + 1 < s.size := by omega
          have hend2 : ¬ (s.size : Int) ≤ (k : Int) + 1 := by omega
          by_cases d34 : c = 34
          · subst d34
            rw [dStr_two] at hR2
            have hR4 := hide hR2
            clear hR hR2 ed ed2 hb2 hc2 cv
            go_wp2_with (at_builtin; (refine wpList_append_own _ rfl _ _ 70 rfl (w.heap.size + 1) 5 i0 (.int .u8 0) 1 1 sliceByte hi1 hz0 hz1 hz2 rfl (by decide) _ _ _ rfl (hO2.out.alloc _) ⟨wr.heap.size, 0, none⟩ 1 1 [.int .u8 34] rfl rfl (cell_one_new _ _ _) (by simp [Value.oneCell']) (by unfold maxLen; omega) (by omega) (by simp; omega) ?_; intro v' w1 o1 g1 _; replace o1 := hide o1; replace g1 := hide g1))
            go_roundw
            case rel => exact ⟨k + 2, acc ++ [34], by omega, by omega, by simp [hLh.out]; omega, by go_num, hR4, own_snoc (x := 34) hLh.out o1.out, own_below hBw.out hwz g1.out hO.out⟩
            case measure => simp [intOf]; omega
          · have m34 : ¬ (c.toNat : Int) = 34 := ne_byte (by decide) d34
            have e1 : Hid (R = .inl (⟨9, i, k + 1, acc⟩, l.drop (k + 1))) := hide (by rw [← hR2, dStr_end d34, ed2])
            clear hR hR2 ed ed2 hb2 hc2 d34
            go_wp2
            refine bodyPost_ret (v := .tuple #[.agg #[.int .i64 9, .int .i64 i, .int .i64 ((k : Int) + 1), .string ⟨acc.toArray⟩], .int .i64 0, .int .i64 0]) (by simp [results, Tryd.results42, go_sem, r0, r1, r2, r3]) rfl ?_
            exact ⟨by rw [e1.out]; rfl, res_below B0.out hBw.out _ _ _ _⟩
        · have hend2 : (s.size : Int) ≤ (k : Int) + 1 := by omega
          have ed2 : l.drop (k + 1) = [] := List.drop_eq_nil_of_le (by rw [← hn.out]; omega)
          rw [ed2] at hR2
          have e1 : Hid (R = .inl (⟨9, i, k + 1, acc⟩, [])) := hide (by rw [← hR2, dStr_last])
          clear hR hR2 ed ed2 hb2
          go_wp2
          refine bodyPost_ret (v := .tuple #[.agg #[.int .i64 9, .int .i64 i, .int .i64 ((k : Int) + 1), .string ⟨acc.toArray⟩], .int .i64 0, .int .i64 0]) (by simp [results, Tryd.results42, go_sem, r0, r1, r2, r3]) rfl ?_
          exact ⟨by rw [e1.out]; rfl, res_below B0.out hBw.out _ _ _ _⟩
      have n34 : ¬ (b.toNat : Int) = 34 := ne_byte (by decide) c34
      have qt := hide (fun W => rControl_calls W b)
      cases hct : S.ctl b with
      | true =>
        rw [hct] at qt
        have e1 : Hid (R = .inr (10, k)) := by rw [← hR2]; exact dStr_ctl c34 hct
        clear hR hR2 ed hb2 hct c34
        go_wp2_with (go_at_call 40; refine (qt.out _).mono ?_; rintro e w2 ⟨rfl, rfl⟩)
        refine bodyPost_ret (v := .tuple #[.agg #[.int .i64 0, .int .i64 0, .int .i64 0, .string ⟨#[]⟩], .int .i64 10, .int .i64 k]) (by simp [results, Tryd.results42, go_sem, r0, r1, r2, r3]) rfl ?_
        exact ⟨by rw [e1.out]; rfl, res_below B0.out hBw.out _ _ _ _⟩
      | false =>
        rw [hct] at qt
        have qd := fun W => qc.out W k hll
        rw [ed] at qd
        obtain ⟨n, hnn⟩ : ∃ n, S.chr (b :: l.drop (k + 1)) = n := ⟨_, rfl⟩
        rw [hnn] at qd
        replace qd := hide qd
        by_cases h0 : n = 0
        · subst h0
          have e1 : Hid (R = .inr (11, k)) := by rw [← hR2]; exact dStr_bad c34 hct hnn
          clear hR hR2 ed hb2 hct c34 hnn
          go_wp2_with (first
            | (go_at_call 40; refine (qt.out _).mono ?_; rintro e w2 ⟨rfl, rfl⟩)
            | (go_at_call 41; refine (qd.out _).mono ?_; rintro e w2 ⟨rfl, rfl⟩))
          refine bodyPost_ret (v := .tuple #[.agg #[.int .i64 0, .int .i64 0, .int .i64 0, .string ⟨#[]⟩], .int .i64 11, .int .i64 k]) (by simp [results, Tryd.results42, go_sem, r0, r1, r2, r3]) rfl ?_
          exact ⟨by rw [e1.out]; rfl, res_below B0.out hBw.out _ _ _ _⟩
        · rw [dStr_step c34 hct (by rw [hnn]; exact h0)] at hR2
          have hle := chr_pos_le (b := b) (t := l.drop (k + 1)) (by rw [hnn]; exact h0)
          rw [hnn] at hR2 hle
          rw [← ed, List.drop_drop] at hR2
          rw [List.length_drop] at hle
          have hmn : k + n ≤ s.size := by have := hn.out; omega
          have hR4 := hide hR2
          have h01 : ((n : Int) == 0) = false := by simp; omega
          have hn1 : 1 ≤ n := hle.1
          have hO3 : Hid (OwnV (w.heap.size + 1) wr (.slice va L vc) (acc ++ (l.drop k).take 0)) := by
            simp only [List.take_zero, List.append_nil]
            exact hO.out
          clear hR2 ed hb2 hR hct c34 hnn hle cv
          go_wp2_with (first
            | (go_at_call 40; refine (qt.out _).mono ?_; rintro e w2 ⟨rfl, rfl⟩)
            | (go_at_call 41; refine (qd.out _).mono ?_; rintro e w2 ⟨rfl, rfl⟩))
          go_loopw [7, 10] (fun v j wx => ∃ jj : Nat, jj ≤ n ∧ j = .int .i64 jj ∧ Hid (OwnV (w.heap.size + 1) wx v (acc ++ (l.drop k).take jj)) ∧ Hid (Below (w.heap.size + 1) (w.alloc (.cells #[.int .i64 0, .int .i64 0, .int .i64 0, .string ⟨#[]⟩] 66)) wx)) (fun _ j _ => n - (intOf j).toNat)
          case atStart => exact ⟨0, Nat.zero_le _, rfl, hO3, hBw⟩
          case round =>
            clear hO3
            obtain ⟨jj, hj1, rfl, hOj, hBj⟩ := hrel
            by_cases hjl : jj < n
            · have hjl1 : (jj : Int) < n := by omega
              have hx : k + jj < s.size := by omega
              have hbj : s[k + jj]'hx = l.getD (k + jj) 0 := hat.out (k + jj) hx
              have hsn := take_snoc' l k jj (by rw [← hn.out]; exact hx)
              obtain ⟨x, hx2⟩ : ∃ x, l.getD (k + jj) 0 = x := ⟨_, rfl⟩
              rw [hx2] at hbj hsn
              obtain ⟨va2, vc2, hv2⟩ := own_shape (ownsRow_zero hOj.out)
              subst hv2
              obtain ⟨L2, hL2⟩ : ∃ L2, (acc ++ (l.drop k).take jj).length = L2 := ⟨_, rfl⟩
              have hL2b : L2 ≤ L + n := by rw [← hL2, List.length_append, hLh.out, List.length_take]; omega
              have hO5 := hOj.out
              unfold OwnV at hO5
              rw [hL2] at hO5 hOj ⊢
              replace hO5 := hide hO5
              have hwz2 : w.heap.size + 1 ≤ wr.heap.size := by have := hBj.out.size; simpa using this
              have ei2 : (k : Int) + jj < s.size := by omega
              have ew2 : IntKind.i64.wrap ((k : Int) + jj) = (k : Int) + jj := by rw [IntKind.wrap_i64]; omega
              have hsn' := hide hsn
              have hL2h := hide hL2
              clear hsn hx2 hL2
              go_wp2_with (at_builtin; (refine wpList_append_own _ rfl _ _ 70 rfl (w.heap.size + 1) 5 i0 (.int .u8 0) 1 1 sliceByte hi1 hz0 hz1 hz2 rfl (by decide) _ _ _ rfl (hO5.out.alloc _) ⟨wr.heap.size, 0, none⟩ 1 1 [.int .u8 x.toNat] rfl rfl (cell_one_new _ _ _) (by simp [Value.oneCell']) (by unfold maxLen; omega) (by omega) (by simp; omega) ?_; intro v' w1 o1 g1 _; replace o1 := hide o1; replace g1 := hide g1))
              go_roundw
              case rel => exact ⟨jj + 1, by omega, by go_num, by rw [hsn'.out, ← List.append_assoc]; exact own_snoc (x := x) hL2h.out o1.out, own_below hBj.out hwz2 g1.out hOj.out⟩
              case measure => simp [intOf]; omega
            · have hjn : jj = n := by omega
              subst hjn
              go_wp2
              go_roundw
              case rel => exact ⟨k + jj, acc ++ (l.drop k).take jj, by omega, by omega, by rw [List.length_append, hLh.out, List.length_take]; omega, by go_num, hR4, hOj, hBj⟩
              case measure => simp [intOf]; omega
    · have e1 : Hid (R = .inr (14, i)) := by
        have hk3 : k = l.length := by have := hn.out; omega
        have h := hR.out
        rw [hk3, List.drop_length, S.dStr] at h
        exact h.symm
      clear hR
      go_wp2
      refine bodyPost_ret (v := .tuple #[.agg #[.int .i64 0, .int .i64 0, .int .i64 0, .string ⟨#[]⟩], .int .i64 14, .int .i64 i]) (by simp [results, Tryd.results42, go_sem, r0, r1, r2, r3]) rfl ?_
      exact ⟨by rw [e1.out]; rfl, res_below B0.out hBw.out _ _ _ _⟩
end Go.Proofs.YtjbalgjdcdmjjaaDoor
