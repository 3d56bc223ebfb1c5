/- Laid together of: RefScan6, RefScan7. -/
import Derived.Test.YtackibimlpkcmaaGreatDoorKz12
/- ==== RefScan6 ==== -/
namespace Go.Proofs.YtackibimlpkcmaaGreatDoor
open Go.RowKit
set_option linter.unusedVariables false
/-- Bytes of one's own. -/
def OwnV (B : Nat) (w : World) (v : Value) (acc : List UInt8) : Prop := w.ownsRow B 5 1 v acc.length (acc.map byteV)
theorem OwnV.conv {B : Nat} {w : World} {v : Value} {acc : List UInt8} (h : OwnV B w v acc) : (convert 44 9 v).run Tryz.prog w = .ok (.string ⟨acc.toArray⟩) w := by
  have h0 := ownsRow_zero h
  rcases h0 with ⟨h1, ⟨rfl, h2⟩ | ⟨b, cap, cur, rfl, h3, hb, h4, h5, h6, h7⟩⟩
  · have : acc = [] := List.length_eq_zero_iff.1 h2
    subst this
    exact conv_none w
  · refine run_convert_bytes_back (P := Tryz.prog) w 44 9 5 ⟨b, 0, none⟩ cap acc sliceByte (by kernel_rfl) (by kernel_rfl) (fun j hj => ?_)
    exact (ownsRow_zero h).cells (g := b) rfl j (byteV acc[j]) (by rw [List.getElem?_map, List.getElem?_eq_getElem hj]; rfl)
theorem own_below {B : Nat} {W0 wr w1 : World} {o : Obj} {v : Value} {acc : List UInt8} (hB : Below B W0 wr) (hz : B ≤ wr.heap.size) (g1 : (wr.alloc o).grownBy w1 v.ownBlock) (hO : OwnV B wr v acc) : Below B W0 w1 :=
  (hB.alloc hz _).grown g1 (by simp; omega) (fun g hg => (hO.lt g hg).1)
theorem own_snoc {B : Nat} {w1 : World} {v : Value} {acc : List UInt8} {x : UInt8} {L : Nat} (hL : acc.length = L) (h : w1.ownsRow B 5 1 v (L + 1) (acc.map byteV ++ [.int .u8 x.toNat])) : OwnV B w1 v (acc ++ [x]) := by
  unfold OwnV
  rw [List.length_append, List.length_singleton, hL, List.map_append]
  exact h
theorem dStr_ctl {g : Nat} {a t : List UInt8} {i : Nat} {b : UInt8} (h1 : b ≠ 34) (h3 : S.ctl b = true) : S.dStr g a (b :: t) i = .inr (10, i) := by
  rw [S.dStr.eq_def]; simp [h1, h3]
theorem dStr_bad {g : Nat} {a t : List UInt8} {i : Nat} {b : UInt8} (h1 : b ≠ 34) (h3 : S.ctl b = false) (h4 : S.chr (b :: t) = 0) : S.dStr g a (b :: t) i = .inr (11, i) := by
  rw [S.dStr.eq_def]; simp [h1, h3, h4]
theorem dStr_step {g : Nat} {a t : List UInt8} {i : Nat} {b : UInt8} (h1 : b ≠ 34) (h3 : S.ctl b = false) (h4 : S.chr (b :: t) ≠ 0) : S.dStr g a (b :: t) i = S.dStr g (a ++ (b :: t).take (S.chr (b :: t))) ((b :: t).drop (S.chr (b :: t))) (i + S.chr (b :: t)) := by
  rw [S.dStr.eq_def]; simp [h1, h3, h4]
theorem dStr_last {g : Nat} {a : List UInt8} {i : Nat} : S.dStr g a [34] i = .inl (⟨9, g, i + 1, a⟩, []) := by
  rw [S.dStr.eq_def]; simp
theorem dStr_end {g : Nat} {a r : List UInt8} {i : Nat} {c : UInt8} (h : c ≠ 34) : S.dStr g a (34 :: c :: r) i = .inl (⟨9, g, i + 1, a⟩, c :: r) := by
  rw [S.dStr.eq_def]; simp [h]
theorem dStr_two {g : Nat} {a r : List UInt8} {i : Nat} : S.dStr g a (34 :: 34 :: r) i = S.dStr g (a ++ [34]) r (i + 2) := by
  rw [S.dStr.eq_def]; simp
/-- The result's own cells are written, at the end. -/
theorem res_below {w W0 wr : World} {B : Nat} (hB0 : Below w.heap.size w W0) (hB : Below B W0 wr) (u0 u1 u2 u3 : Value) (hz : w.heap.size ≤ B := by omega) : Below w.heap.size w ((((wr.setCell ⟨w.heap.size, 0, none⟩ u0).setCell ⟨w.heap.size, 1, none⟩ u1).setCell ⟨w.heap.size, 2, none⟩ u2).setCell ⟨w.heap.size, 3, none⟩ u3) :=
  ((((hB0.trans (hB.mono hz)).setCell (Nat.le_refl _) _).setCell (Nat.le_refl _) _).setCell (Nat.le_refl _) _).setCell (Nat.le_refl _) _
theorem res_cells {w wr : World} (hB : Below (w.heap.size + 1) (w.alloc (.cells #[.int .i64 0, .int .i64 0, .int .i64 0, .string ⟨#[]⟩] 61)) wr) :
    wr.cell? ⟨w.heap.size, 0, none⟩ = some (.int .i64 0) ∧ wr.cell? ⟨w.heap.size, 1, none⟩ = some (.int .i64 0) ∧ wr.cell? ⟨w.heap.size, 2, none⟩ = some (.int .i64 0) ∧ wr.cell? ⟨w.heap.size, 3, none⟩ = some (.string ⟨#[]⟩) ∧ ∀ j, wr.frozen? ⟨w.heap.size, j, none⟩ = false := by
  have A := (hB.block w.heap.size (by omega)).trans (heap_alloc_new w (.cells #[.int .i64 0, .int .i64 0, .int .i64 0, .string ⟨#[]⟩] 61))
  refine ⟨cell_of_row _ _ 0 _ _ (0, 0) A, cell_of_row _ _ 1 _ _ (0, 0) A, cell_of_row _ _ 2 _ _ (0, 0) A, cell_of_row _ _ 3 _ _ (0, 0) A, fun j => ?_⟩
  simp [World.frozen?, A]
theorem take_snoc' (l : List UInt8) (k j : Nat) (h : k + j < l.length) : (l.drop k).take (j + 1) = (l.drop k).take j ++ [l.getD (k + j) 0] := by
  rw [List.take_succ_eq_append_getElem (by rw [List.length_drop]; omega), List.getElem_drop, List.getD_eq_getElem?_getD, List.getElem?_eq_getElem h]
  rfl
set_option maxRecDepth 100000 in
set_option maxHeartbeats 4000000 in
theorem text_calls (w : World) (s : ByteArray) (l : List UInt8) (hs : s.data.toList = l) (hl : l.length ≤ 1073741824) (i : Nat) (hi : i < l.length) :
    Calls Tryz.prog 49 #[.string s, .int .i64 i] w fun e w' => e = .returned (oneV (S.dStr i [] (l.drop (i + 1)) (i + 1))) ∧ Below w.heap.size w w' := by
  obtain ⟨i0, hi1, hz0, hz1, hz2⟩ := info_parts infoByte
  have hn := size_of s l hs
  have hz : s.size ≤ 1073741824 := by omega
  have hat := hide (fun (k : Nat) (h : k < s.size) => byteAt s l hs k h)
  have qc := hide (fun W k (hk : k < l.length) => char_calls W s l hs hl k hk)
  have hi0 : i < s.size := by omega
  obtain ⟨R, hR⟩ : ∃ R, S.dStr i [] (l.drop (i + 1)) (i + 1) = R := ⟨_, rfl⟩
  rw [hR]
  have hR0 := hide hR
  replace hn := hide hn
  clear hs hl hi hR
  have B0 : Hid (Below w.heap.size w (w.alloc (.cells #[.int .i64 0, .int .i64 0, .int .i64 0, .string ⟨#[]⟩] 61))) := (Below.refl _ w).alloc (Nat.le_refl _) _
  go_enter Tryz.func49, Tryz.ntmps49
  go_wp2
  go_loopw [7, 8] (fun v j wr => ∃ (k : Nat) (acc : List UInt8), i + 1 ≤ k ∧ k ≤ s.size ∧ acc.length ≤ k ∧ j = .int .i64 k ∧ Hid (S.dStr i acc (l.drop k) k = R) ∧ Hid (OwnV (w.heap.size + 1) wr v acc) ∧ Hid (Below (w.heap.size + 1) (w.alloc (.cells #[.int .i64 0, .int .i64 0, .int .i64 0, .string ⟨#[]⟩] 61)) wr)) (fun _ j _ => s.size - (intOf j).toNat)
  case atStart => exact ⟨i + 1, [], by omega, by omega, by simp, by go_num, hR0, World.ownsRow_nil _ _ _ _, Below.refl _ _⟩
  case round =>
    clear hR0
    obtain ⟨k, acc, hk1, hk2, hk3, rfl, hR, hO, hBw⟩ := hrel
    obtain ⟨r0, r1, r2, r3, rz⟩ := res_cells hBw.out
    have cv := hO.out.conv
    have hwz : w.heap.size + 1 ≤ wr.heap.size := by have := hBw.out.size; simpa using this
    obtain ⟨va, vc, hv⟩ := own_shape (ownsRow_zero hO.out)
    subst hv
    obtain ⟨L, hL⟩ : ∃ L, acc.length = L := ⟨_, rfl⟩
    rw [hL] at hk3 cv hO ⊢
    have hO2 := hO.out
    unfold OwnV at hO2
    rw [hL] at hO2
    replace hO2 := hide hO2
    have hLh := hide hL
    clear hL
    by_cases hlt : k < s.size
    · have hll : k < l.length := by rw [← hn.out]; exact hlt
      have hb : s[k]'hlt = l.getD k 0 := hat.out k hlt
      have ed := drop_cons l k hll
      obtain ⟨b, hb2⟩ : ∃ b, l.getD k 0 = b := ⟨_, rfl⟩
      rw [hb2] at hb ed
      have hR2 := hR.out
      rw [ed] at hR2
      by_cases c34 : b = 34
      · subst c34
        by_cases hend : k + 1 < s.size
        · have hb3 : s[k + 1]'hend = l.getD (k + 1) 0 := hat.out (k + 1) hend
          have ed2 := drop_cons l (k + 1) (by rw [← hn.out]; exact hend)
          obtain ⟨c, hc2⟩ : ∃ c, l.getD (k + 1) 0 = c := ⟨_, rfl⟩
          rw [hc2] at hb3 ed2
          rw [ed2] at hR2
          have hend1 : (k : Int) + 1 < s.size := by omega
          have hend2 : ¬ (s.size : Int) ≤ (k : Int) + 1 := by omega
          by_cases d34 : c = 34
          · subst d34
            rw [dStr_two] at hR2
            have hR4 := hide hR2
            clear hR hR2 ed ed2 hb2 hc2 cv
            go_wp2_with (at_builtin; (refine wpList_append_own _ rfl _ _ 44 rfl (w.heap.size + 1) 5 i0 (.int .u8 0) 1 1 sliceByte hi1 hz0 hz1 hz2 rfl (by decide) _ _ _ rfl (hO2.out.alloc _) ⟨wr.heap.size, 0, none⟩ 1 1 [.int .u8 34] rfl rfl (cell_one_new _ _ _) (by simp [Value.oneCell']) (by unfold maxLen; omega) (by omega) (by simp; omega) ?_; intro v' w1 o1 g1 _; replace o1 := hide o1; replace g1 := hide g1))
            go_roundw
            case rel => exact ⟨k + 2, acc ++ [34], by omega, by omega, by simp [hLh.out]; omega, by go_num, hR4, own_snoc (x := 34) hLh.out o1.out, own_below hBw.out hwz g1.out hO.out⟩
            case measure => simp [intOf]; omega
          · have m34 : ¬ (c.toNat : Int) = 34 := ne_byte (by decide) d34
            have e1 : Hid (R = .inl (⟨9, i, k + 1, acc⟩, l.drop (k + 1))) := hide (by rw [← hR2, dStr_end d34, ed2])
            clear hR hR2 ed ed2 hb2 hc2 d34
            go_wp2
            refine bodyPost_ret (v := .tuple #[.agg #[.int .i64 9, .int .i64 i, .int .i64 ((k : Int) + 1), .string ⟨acc.toArray⟩], .int .i64 0, .int .i64 0]) (by simp [results, Tryz.results49, go_sem, r0, r1, r2, r3]) rfl ?_
            exact ⟨by rw [e1.out]; rfl, res_below B0.out hBw.out _ _ _ _⟩
        · have hend2 : (s.size : Int) ≤ (k : Int) + 1 := by omega
          have ed2 : l.drop (k + 1) = [] := List.drop_eq_nil_of_le (by rw [← hn.out]; omega)
          rw [ed2] at hR2
          have e1 : Hid (R = .inl (⟨9, i, k + 1, acc⟩, [])) := hide (by rw [← hR2, dStr_last])
          clear hR hR2 ed ed2 hb2
          go_wp2
          refine bodyPost_ret (v := .tuple #[.agg #[.int .i64 9, .int .i64 i, .int .i64 ((k : Int) + 1), .string ⟨acc.toArray⟩], .int .i64 0, .int .i64 0]) (by simp [results, Tryz.results49, go_sem, r0, r1, r2, r3]) rfl ?_
          exact ⟨by rw [e1.out]; rfl, res_below B0.out hBw.out _ _ _ _⟩
      have n34 : ¬ (b.toNat : Int) = 34 := ne_byte (by decide) c34
      have qt := hide (fun W => rControl_calls W b)
      cases hct : S.ctl b with
      | true =>
        rw [hct] at qt
        have e1 : Hid (R = .inr (10, k)) := by rw [← hR2]; exact dStr_ctl c34 hct
        clear hR hR2 ed hb2 hct c34
        go_wp2_with (go_at_call 47; refine (qt.out _).mono ?_; rintro e w2 ⟨rfl, rfl⟩)
        refine bodyPost_ret (v := .tuple #[.agg #[.int .i64 0, .int .i64 0, .int .i64 0, .string ⟨#[]⟩], .int .i64 10, .int .i64 k]) (by simp [results, Tryz.results49, go_sem, r0, r1, r2, r3]) rfl ?_
        exact ⟨by rw [e1.out]; rfl, res_below B0.out hBw.out _ _ _ _⟩
      | false =>
        rw [hct] at qt
        have qd := fun W => qc.out W k hll
        rw [ed] at qd
        obtain ⟨n, hnn⟩ : ∃ n, S.chr (b :: l.drop (k + 1)) = n := ⟨_, rfl⟩
        rw [hnn] at qd
        replace qd := hide qd
        by_cases h0 : n = 0
        · subst h0
          have e1 : Hid (R = .inr (11, k)) := by rw [← hR2]; exact dStr_bad c34 hct hnn
          clear hR hR2 ed hb2 hct c34 hnn
          go_wp2_with (first
            | (go_at_call 47; refine (qt.out _).mono ?_; rintro e w2 ⟨rfl, rfl⟩)
            | (go_at_call 48; refine (qd.out _).mono ?_; rintro e w2 ⟨rfl, rfl⟩))
          refine bodyPost_ret (v := .tuple #[.agg #[.int .i64 0, .int .i64 0, .int .i64 0, .string ⟨#[]⟩], .int .i64 11, .int .i64 k]) (by simp [results, Tryz.results49, go_sem, r0, r1, r2, r3]) rfl ?_
          exact ⟨by rw [e1.out]; rfl, res_below B0.out hBw.out _ _ _ _⟩
        · rw [dStr_step c34 hct (by rw [hnn]; exact h0)] at hR2
          have hle := chr_pos_le (b := b) (t := l.drop (k + 1)) (by rw [hnn]; exact h0)
          rw [hnn] at hR2 hle
          rw [← ed, List.drop_drop] at hR2
          rw [List.length_drop] at hle
          have hmn : k + n ≤ s.size := by have := hn.out; omega
          have hR4 := hide hR2
          have h01 : ((n : Int) == 0) = false := by simp; omega
          have hn1 : 1 ≤ n := hle.1
          have hO3 : Hid (OwnV (w.heap.size + 1) wr (.slice va L vc) (acc ++ (l.drop k).take 0)) := by
            simp only [List.take_zero, List.append_nil]
            exact hO.out
          clear hR2 ed hb2 hR hct c34 hnn hle cv
          go_wp2_with (first
            | (go_at_call 47; refine (qt.out _).mono ?_; rintro e w2 ⟨rfl, rfl⟩)
            | (go_at_call 48; refine (qd.out _).mono ?_; rintro e w2 ⟨rfl, rfl⟩))
          go_loopw [7, 10] (fun v j wx => ∃ jj : Nat, jj ≤ n ∧ j = .int .i64 jj ∧ Hid (OwnV (w.heap.size + 1) wx v (acc ++ (l.drop k).take jj)) ∧ Hid (Below (w.heap.size + 1) (w.alloc (.cells #[.int .i64 0, .int .i64 0, .int .i64 0, .string ⟨#[]⟩] 61)) wx)) (fun _ j _ => n - (intOf j).toNat)
          case atStart => exact ⟨0, Nat.zero_le _, rfl, hO3, hBw⟩
          case round =>
            clear hO3
            obtain ⟨jj, hj1, rfl, hOj, hBj⟩ := hrel
            by_cases hjl : jj < n
            · have hjl1 : (jj : Int) < n := by omega
              have hx : k + jj < s.size := by omega
              have hbj : s[k + jj]'hx = l.getD (k + jj) 0 := hat.out (k + jj) hx
              have hsn := take_snoc' l k jj (by rw [← hn.out]; exact hx)
              obtain ⟨x, hx2⟩ : ∃ x, l.getD (k + jj) 0 = x := ⟨_, rfl⟩
              rw [hx2] at hbj hsn
              obtain ⟨va2, vc2, hv2⟩ := own_shape (ownsRow_zero hOj.out)
              subst hv2
              obtain ⟨L2, hL2⟩ : ∃ L2, (acc ++ (l.drop k).take jj).length = L2 := ⟨_, rfl⟩
              have hL2b : L2 ≤ L + n := by rw [← hL2, List.length_append, hLh.out, List.length_take]; omega
              have hO5 := hOj.out
              unfold OwnV at hO5
              rw [hL2] at hO5 hOj ⊢
              replace hO5 := hide hO5
              have hwz2 : w.heap.size + 1 ≤ wr.heap.size := by have := hBj.out.size; simpa using this
              have ei2 : (k : Int) + jj < s.size := by omega
              have ew2 : IntKind.i64.wrap ((k : Int) + jj) = (k : Int) + jj := by rw [IntKind.wrap_i64]; omega
              have hsn' := hide hsn
              have hL2h := hide hL2
              clear hsn hx2 hL2
              go_wp2_with (at_builtin; (refine wpList_append_own _ rfl _ _ 44 rfl (w.heap.size + 1) 5 i0 (.int .u8 0) 1 1 sliceByte hi1 hz0 hz1 hz2 rfl (by decide) _ _ _ rfl (hO5.out.alloc _) ⟨wr.heap.size, 0, none⟩ 1 1 [.int .u8 x.toNat] rfl rfl (cell_one_new _ _ _) (by simp [Value.oneCell']) (by unfold maxLen; omega) (by omega) (by simp; omega) ?_; intro v' w1 o1 g1 _; replace o1 := hide o1; replace g1 := hide g1))
              go_roundw
              case rel => exact ⟨jj + 1, by omega, by go_num, by rw [hsn'.out, ← List.append_assoc]; exact own_snoc (x := x) hL2h.out o1.out, own_below hBj.out hwz2 g1.out hOj.out⟩
              case measure => simp [intOf]; omega
            · have hjn : jj = n := by omega
              subst hjn
              go_wp2
              go_roundw
              case rel => exact ⟨k + jj, acc ++ (l.drop k).take jj, by omega, by omega, by rw [List.length_append, hLh.out, List.length_take]; omega, by go_num, hR4, hOj, hBj⟩
              case measure => simp [intOf]; omega
    · have e1 : Hid (R = .inr (14, i)) := by
        have hk3 : k = l.length := by have := hn.out; omega
        have h := hR.out
        rw [hk3, List.drop_length, S.dStr] at h
        exact h.symm
      clear hR
      go_wp2
      refine bodyPost_ret (v := .tuple #[.agg #[.int .i64 0, .int .i64 0, .int .i64 0, .string ⟨#[]⟩], .int .i64 14, .int .i64 i]) (by simp [results, Tryz.results49, go_sem, r0, r1, r2, r3]) rfl ?_
      exact ⟨by rw [e1.out]; rfl, res_below B0.out hBw.out _ _ _ _⟩
end Go.Proofs.YtackibimlpkcmaaGreatDoor
/- ==== RefScan7 ==== -/
namespace Go.Proofs.YtackibimlpkcmaaGreatDoor
open Go.RowKit
set_option linter.unusedVariables false
set_option maxRecDepth 100000 in
set_option maxHeartbeats 1600000 in
theorem rwhole_calls (w : World) (s : ByteArray) (l : List UInt8) (hs : s.data.toList = l) (hl : l.length ≤ 1073741824) (kd i k : Nat) (hk : k ≤ l.length) (x : List UInt8) :
    Calls Tryz.prog 67 #[.string s, .int .i64 kd, .int .i64 i, .int .i64 k, .string ⟨x.toArray⟩] w fun e w' => e = .returned (oneV (S.dAfter kd i k x (l.drop k))) ∧ Below w.heap.size w w' := by
  have hn := size_of s l hs
  have hz : s.size ≤ 1073741824 := by omega
  by_cases hlt : k < s.size
  · have hll : k < l.length := by omega
    have hb : s[k]'hlt = l.getD k 0 := byteAt s l hs k hlt
    rw [drop_cons l k hll]
    obtain ⟨b, hb2⟩ : ∃ b, l.getD k 0 = b := ⟨_, rfl⟩
    rw [hb2] at hb ⊢
    have q := hide (fun W => rSym_calls W b)
    have hlt1 : (k : Int) < s.size := by omega
    cases hp : S.sym b with
    | true =>
      rw [hp] at q
      rw [show S.dAfter kd i k x (b :: l.drop (k + 1)) = .inr (13, k) from by simp [S.dAfter, hp]]
      clear hp hb2 hs hn hll hl hk
      go_enter Tryz.func67, Tryz.ntmps67
      go_wp2_with (go_at_call 55; refine (q.out _).mono ?_; rintro e w1 ⟨rfl, rfl⟩)
      refine bodyPost_ret (v := .tuple #[.agg #[.int .i64 0, .int .i64 0, .int .i64 0, .string ⟨#[]⟩], .int .i64 13, .int .i64 k]) (by simp [results, Tryz.results67, go_sem]) rfl ?_
      exact ⟨rfl, (Below.refl _ w).alloc (Nat.le_refl _) _⟩
    | false =>
      rw [hp] at q
      rw [show S.dAfter kd i k x (b :: l.drop (k + 1)) = .inl (⟨kd, i, k, x⟩, b :: l.drop (k + 1)) from by simp [S.dAfter, hp]]
      clear hp hb2 hs hn hll hl hk
      go_enter Tryz.func67, Tryz.ntmps67
      go_wp2_with (go_at_call 55; refine (q.out _).mono ?_; rintro e w1 ⟨rfl, rfl⟩)
      refine bodyPost_ret (v := .tuple #[.agg #[.int .i64 kd, .int .i64 i, .int .i64 k, .string ⟨x.toArray⟩], .int .i64 0, .int .i64 0]) (by simp [results, Tryz.results67, go_sem]) rfl ?_
      exact ⟨rfl, (Below.refl _ w).alloc (Nat.le_refl _) _⟩
  · have hlt1 : ¬ (k : Int) < s.size := by omega
    rw [show l.drop k = [] from List.drop_eq_nil_of_le (by omega)]
    rw [show S.dAfter kd i k x [] = .inl (⟨kd, i, k, x⟩, []) from rfl]
    clear hs hn hl hk
    go_enter Tryz.func67, Tryz.ntmps67
    go_wp2
    refine bodyPost_ret (v := .tuple #[.agg #[.int .i64 kd, .int .i64 i, .int .i64 k, .string ⟨x.toArray⟩], .int .i64 0, .int .i64 0]) (by simp [results, Tryz.results67, go_sem]) rfl ?_
    exact ⟨rfl, (Below.refl _ w).alloc (Nat.le_refl _) _⟩
theorem res_cells' {w wr : World} (hB : Below (w.alloc (.cells #[.int .i64 0, .int .i64 0, .int .i64 0, .string ⟨#[]⟩] 61)).heap.size (w.alloc (.cells #[.int .i64 0, .int .i64 0, .int .i64 0, .string ⟨#[]⟩] 61)) wr) :
    wr.cell? ⟨w.heap.size, 0, none⟩ = some (.int .i64 0) ∧ wr.cell? ⟨w.heap.size, 1, none⟩ = some (.int .i64 0) ∧ wr.cell? ⟨w.heap.size, 2, none⟩ = some (.int .i64 0) ∧ wr.cell? ⟨w.heap.size, 3, none⟩ = some (.string ⟨#[]⟩) ∧ ∀ j, wr.frozen? ⟨w.heap.size, j, none⟩ = false :=
  res_cells (hB.mono (by simp))
theorem rwhole_at (w : World) (s : ByteArray) (l : List UInt8) (hs : s.data.toList = l) (hl : l.length ≤ 1073741824) (i k : Nat) (hk : k ≤ l.length) (x : List UInt8) (kd : Int) (kd' : Nat) (hkd : kd = kd') :
    Calls Tryz.prog 67 #[.string s, .int .i64 kd, .int .i64 i, .int .i64 k, .string ⟨x.toArray⟩] w fun e w' => e = .returned (oneV (S.dAfter kd' i k x (l.drop k))) ∧ Below w.heap.size w w' := by
  subst hkd
  exact rwhole_calls w s l hs hl kd' i k hk x
theorem digEnd_at (w : World) (s : ByteArray) (l : List UInt8) (hs : s.data.toList = l) (hl : l.length ≤ 1073741824) (i : Nat) (hi : i ≤ l.length) (n : Int) (hn : n = i) :
    Calls Tryz.prog 68 #[.string s, .int .i64 n] w fun e w' => e = .returned (.int .i64 ((i + (S.front S.dig (l.drop i)).length : Nat) : Int)) ∧ w' = w := by
  subst hn
  exact digEnd_calls w s l hs hl i hi
theorem take_front0 (p : UInt8 → Bool) (l : List UInt8) : l.take (S.front p l).length = S.front p l := by
  have := S.take_front p l 0
  simpa using this
theorem drop_front0 (p : UInt8 → Bool) (l : List UInt8) : l.drop (S.front p l).length = S.rest p l := by
  have := S.drop_front p l 0
  simpa using this
theorem mid_take (l : List UInt8) (i m : Nat) : (l.take (i + m)).drop i = (l.drop i).take m := by
  rw [List.drop_take]
  congr 1
  omega
/-- Where the first digits end. -/
def numK (l : List UInt8) (b : UInt8) (i : Nat) : Nat := if b = 48 then i + 1 else i + (S.front S.dig (l.drop i)).length
theorem num_eq {l : List UInt8} {b : UInt8} {t : List UInt8} {i : Nat} (hd : l.drop i = b :: t) (hb : S.dig b = true) :
    S.dNum b t i = S.dNumTail i ((l.take (numK l b i)).drop i) (l.drop (numK l b i)) ∧ i + ((l.take (numK l b i)).drop i).length = numK l b i ∧ i < numK l b i ∧ numK l b i ≤ l.length := by
  have hlen : i + (t.length + 1) = l.length := by
    have := congrArg List.length hd
    simp at this
    omega
  unfold numK S.dNum
  by_cases h : b = 48
  · subst h
    rw [if_pos rfl, if_pos rfl, mid_take, hd]
    have e2 : l.drop (i + 1) = t := by rw [← List.drop_drop, hd]; rfl
    rw [e2]
    exact ⟨rfl, rfl, by omega, by omega⟩
  · rw [if_neg h, if_neg h, mid_take, take_front0, ← List.drop_drop, drop_front0, hd, front_cons_pos hb]
    have e2 : S.rest S.dig (b :: t) = S.rest S.dig t := by simp [S.rest, hb]
    have hle : (S.front S.dig t).length ≤ t.length := by have := S.front_len S.dig t; omega
    rw [e2]
    exact ⟨rfl, rfl, by simp, by simp; omega⟩
set_option maxRecDepth 100000 in
set_option maxHeartbeats 1600000 in
theorem number_calls' (w : World) (s : ByteArray) (l : List UInt8) (hs : s.data.toList = l) (hl : l.length ≤ 1073741824) (i : Nat) (b : UInt8) (t : List UInt8) (hd : l.drop i = b :: t) (hdig : S.dig b = true) :
    Calls Tryz.prog 53 #[.string s, .int .i64 i] w fun e w' => e = .returned (oneV (S.dNum b t i)) ∧ Below w.heap.size w w' := by
  obtain ⟨e1, e2, e3, e4⟩ := num_eq hd hdig
  have hi : i < l.length := by omega
  have hb0 : l.getD i 0 = b := by
    have := drop_cons l i hi
    rw [hd] at this
    exact (List.cons.inj this).1.symm
  have hn := size_of s l hs
  have hz : s.size ≤ 1073741824 := by omega
  have hi0 : i < s.size := by omega
  have hb : s[i]'hi0 = b := by rw [← hb0]; exact byteAt s l hs i hi0
  have qe := fun W => digEnd_calls W s l hs hl i (by omega)
  rw [e1]
  have hK : Hid (b = 48 → numK l b i = i + 1) := fun h => by unfold numK; rw [if_pos h]
  have hK2 : Hid (b ≠ 48 → i + (S.front S.dig (l.drop i)).length = numK l b i) := fun h => by unfold numK; rw [if_neg h]
  obtain ⟨k, hk⟩ : ∃ k, numK l b i = k := ⟨_, rfl⟩
  rw [hk] at e2 e3 e4 hK hK2 ⊢
  obtain ⟨u, hu⟩ : ∃ u, (l.take k).drop i = u := ⟨_, rfl⟩
  rw [hu] at e2 ⊢
  clear e1 hk hd hb0 hi
  have sm := fun W => run_midL s l hs (i : Int) (k : Int) i k rfl rfl (by omega) (by omega) W
  rw [hu] at sm
  -- what stands behind the first digits
  have key : (S.dNumTail i u (l.drop k) = S.dAfter 5 i k u (l.drop k) ∧ (∀ hlt : k < s.size, s[k]'hlt ≠ 46)) ∨
      (∃ (hlt : k < s.size), s[k]'hlt = 46 ∧ S.front S.dig (l.drop (k + 1)) = [] ∧ S.dNumTail i u (l.drop k) = .inr (12, k + 1)) ∨
      (∃ (hlt : k < s.size) (e : Nat), s[k]'hlt = 46 ∧ e = k + 1 + (S.front S.dig (l.drop (k + 1))).length ∧ k + 1 < e ∧ e ≤ l.length ∧ S.dNumTail i u (l.drop k) = S.dAfter 6 i e ((l.take e).drop i) (l.drop e)) := by
    by_cases hlt : k < s.size
    · have hll : k < l.length := by omega
      have hbk := byteAt s l hs k hlt
      have ed := drop_cons l k hll
      by_cases hc : l.getD k 0 = 46
      · rw [hc] at hbk ed
        by_cases hf : S.front S.dig (l.drop (k + 1)) = []
        · refine .inr (.inl ⟨hlt, hbk, hf, ?_⟩)
          rw [ed]
          simp only [S.dNumTail, if_true, hf]
          rw [show i + u.length + 1 = k + 1 from by omega]
        · have hfl : 0 < (S.front S.dig (l.drop (k + 1))).length := List.length_pos_iff.2 hf
          have hfe := S.front_len S.dig (l.drop (k + 1))
          rw [List.length_drop] at hfe
          refine .inr (.inr ⟨hlt, _, hbk, rfl, by omega, by omega, ?_⟩)
          rw [ed]
          simp only [S.dNumTail, if_true, hf, if_false]
          rw [show i + u.length + 1 = k + 1 from by omega]
          congr 1
          · rw [show k + 1 + (S.front S.dig (l.drop (k + 1))).length = i + (u.length + (1 + (S.front S.dig (l.drop (k + 1))).length)) from by omega, mid_take, List.take_add, List.drop_drop, show i + u.length = k from by omega, ed]
            have hu2 : (l.drop i).take u.length = u := by rw [← mid_take, show i + u.length = k from by omega, hu]
            rw [hu2, Nat.add_comm 1, List.take_succ_cons, take_front0]
          · have h := drop_front0 S.dig (l.drop (k + 1))
            rw [List.drop_drop] at h
            exact h.symm
      · refine .inl ⟨?_, fun _ => by rw [hbk]; exact hc⟩
        rw [ed]
        simp only [S.dNumTail, hc, if_false]
        rw [show i + u.length = k from by omega]
    · refine .inl ⟨?_, fun h => absurd h hlt⟩
      rw [show l.drop k = [] from List.drop_eq_nil_of_le (by omega)]
      simp only [S.dNumTail]
      rw [show i + u.length = k from by omega]
  have qw := hide (fun W (kd : Int) (kd' : Nat) (hkd : kd = kd') k (hk : k ≤ l.length) x => rwhole_at W s l hs hl i k hk x kd kd' hkd)
  have qd := hide (fun W (n : Int) k (hk : k ≤ l.length) (hn : n = k) => digEnd_at W s l hs hl k hk n hn)
  have qe0 := hide qe
  clear qe
  have hs' := hide hs
  have B0 : Hid (Below w.heap.size w (w.alloc (.cells #[.int .i64 0, .int .i64 0, .int .i64 0, .string ⟨#[]⟩] 61))) := (Below.refl _ w).alloc (Nat.le_refl _) _
  have hn2 : l.length = s.size := hn.symm
  have first : (b = 48 ∧ (i : Int) + 1 = k) ∨ (¬ (b.toNat : Int) = 48 ∧ i + (S.front S.dig (l.drop i)).length = k) := by
    by_cases h : b = 48
    · exact .inl ⟨h, by have := hK.out h; omega⟩
    · exact .inr ⟨ne_byte (by decide) h, hK2.out h⟩
  clear hs hn hK hK2 hl e2 hu hdig
  rw [hn2] at e4
  have hik : i + 1 ≤ s.size := by omega
  rcases key with ⟨k1, k2⟩ | ⟨hlt, k1, k2, k3⟩ | ⟨hlt, e, k1, k2, k3, k4, k5⟩
  · rw [k1]
    have q5 := hide (fun W => qw.out W 5 5 rfl k (by rw [hn2]; exact e4) u)
    obtain ⟨R, hR⟩ : ∃ R, S.dAfter 5 i k u (l.drop k) = R := ⟨_, rfl⟩
    rw [hR] at q5 ⊢
    have out : (k < s.size ∧ ∃ c : UInt8, ∃ hlt : k < s.size, s[k]'hlt = c ∧ ¬ (c.toNat : Int) = 46) ∨ s.size ≤ k := by
      by_cases hlt : k < s.size
      · exact .inl ⟨hlt, s[k]'hlt, hlt, rfl, ne_byte (by decide) (k2 hlt)⟩
      · exact .inr (by omega)
    clear k1 k2 hR qw qd
    rcases out with ⟨hlt, c, hlt', hc, hne⟩ | hge
    · have hlt1 : (k : Int) < s.size := by omega
      have hlt2 : ¬ (s.size : Int) ≤ k := by omega
      have hne' : ((c.toNat : Int) != 46) = true := by simpa using hne
      rcases first with ⟨rfl, ek⟩ | ⟨h48, hk⟩
      · go_enter Tryz.func53, Tryz.ntmps53
        go_wp2_with (first
          | (go_at_call 67; refine (q5.out _).mono ?_; rintro e w1 ⟨rfl, b1⟩; have rc := res_cells' b1; obtain ⟨r0, r1, r2, r3, rz⟩ := rc; unfold oneV tkAgg; replace b1 := hide b1))
        refine bodyPost_ret (v := oneV R) (by simp [results, Tryz.results53, go_sem, oneV, tkAgg, r0, r1, r2, r3]) rfl ?_
        exact ⟨rfl, res_below B0.out b1.out _ _ _ _ (by simp)⟩
      · have qe0 := qe0.out
        rw [hk] at qe0
        have qe := hide qe0
        clear qe0 hk
        have QE : Hid True := trivial
        go_enter Tryz.func53, Tryz.ntmps53
        go_wp2_with (first
          | (go_at_call 68; have y := QE; clear y; refine (qe.out _).mono ?_; rintro e w1 ⟨rfl, rfl⟩; clear QE)
          | (go_at_call 67; refine (q5.out _).mono ?_; rintro e w1 ⟨rfl, b1⟩; have rc := res_cells' b1; obtain ⟨r0, r1, r2, r3, rz⟩ := rc; unfold oneV tkAgg; replace b1 := hide b1))
        refine bodyPost_ret (v := oneV R) (by simp [results, Tryz.results53, go_sem, oneV, tkAgg, r0, r1, r2, r3]) rfl ?_
        exact ⟨rfl, res_below B0.out b1.out _ _ _ _ (by simp)⟩
    · have hlt2 : (s.size : Int) ≤ k := by omega
      rcases first with ⟨rfl, ek⟩ | ⟨h48, hk⟩
      · go_enter Tryz.func53, Tryz.ntmps53
        go_wp2_with (first
          | (go_at_call 67; refine (q5.out _).mono ?_; rintro e w1 ⟨rfl, b1⟩; have rc := res_cells' b1; obtain ⟨r0, r1, r2, r3, rz⟩ := rc; unfold oneV tkAgg; replace b1 := hide b1))
        refine bodyPost_ret (v := oneV R) (by simp [results, Tryz.results53, go_sem, oneV, tkAgg, r0, r1, r2, r3]) rfl ?_
        exact ⟨rfl, res_below B0.out b1.out _ _ _ _ (by simp)⟩
      · have qe0 := qe0.out
        rw [hk] at qe0
        have qe := hide qe0
        clear qe0 hk
        have QE : Hid True := trivial
        go_enter Tryz.func53, Tryz.ntmps53
        go_wp2_with (first
          | (go_at_call 68; have y := QE; clear y; refine (qe.out _).mono ?_; rintro e w1 ⟨rfl, rfl⟩; clear QE)
          | (go_at_call 67; refine (q5.out _).mono ?_; rintro e w1 ⟨rfl, b1⟩; have rc := res_cells' b1; obtain ⟨r0, r1, r2, r3, rz⟩ := rc; unfold oneV tkAgg; replace b1 := hide b1))
        refine bodyPost_ret (v := oneV R) (by simp [results, Tryz.results53, go_sem, oneV, tkAgg, r0, r1, r2, r3]) rfl ?_
        exact ⟨rfl, res_below B0.out b1.out _ _ _ _ (by simp)⟩
  · rw [k3]
    have hlt1 : (k : Int) < s.size := by omega
    have hlt2 : ¬ (s.size : Int) ≤ k := by omega
    have hlt3 : decide (s.size ≤ k) = false := by simp; omega
    have qf2 : Hid (∀ W, Calls Tryz.prog 68 #[.string s, .int .i64 ((k : Int) + 1)] W fun e w' => e = .returned (.int .i64 ((k : Int) + 1)) ∧ w' = W) := by
      intro W
      have h := qd.out W ((k : Int) + 1) (k + 1) (by rw [hn2]; exact hlt) (by omega)
      rw [k2] at h
      exact h
    clear qw qd k2 k3
    rcases first with ⟨rfl, ek⟩ | ⟨h48, hk⟩
    · go_enter Tryz.func53, Tryz.ntmps53
      go_wp2_with (first
        | (go_at_call 68; refine (qf2.out _).mono ?_; rintro e w1 ⟨rfl, rfl⟩))
      refine bodyPost_ret (v := .tuple #[.agg #[.int .i64 0, .int .i64 0, .int .i64 0, .string ⟨#[]⟩], .int .i64 12, .int .i64 ((k : Int) + 1)]) (by simp [results, Tryz.results53, go_sem]) rfl ?_
      exact ⟨rfl, (Below.refl _ w).alloc (Nat.le_refl _) _⟩
    · have qe0 := qe0.out
      rw [hk] at qe0
      have qe := hide qe0
      clear qe0 hk
      have QE : Hid True := trivial
      go_enter Tryz.func53, Tryz.ntmps53
      go_wp2_with (first
        | (go_at_call 68; have y := QE; clear y; refine (qe.out _).mono ?_; rintro e w1 ⟨rfl, rfl⟩; clear QE)
        | (go_at_call 68; refine (qf2.out _).mono ?_; rintro e w1 ⟨rfl, rfl⟩))
      refine bodyPost_ret (v := .tuple #[.agg #[.int .i64 0, .int .i64 0, .int .i64 0, .string ⟨#[]⟩], .int .i64 12, .int .i64 ((k : Int) + 1)]) (by simp [results, Tryz.results53, go_sem]) rfl ?_
      exact ⟨rfl, (Below.refl _ w).alloc (Nat.le_refl _) _⟩
  · rw [k5]
    have hlt1 : (k : Int) < s.size := by omega
    have hlt2 : ¬ (s.size : Int) ≤ k := by omega
    have hlt3 : decide (s.size ≤ k) = false := by simp; omega
    have qf2 : Hid (∀ W, Calls Tryz.prog 68 #[.string s, .int .i64 ((k : Int) + 1)] W fun x w' => x = .returned (.int .i64 (e : Int)) ∧ w' = W) := by
      intro W
      have h := qd.out W ((k : Int) + 1) (k + 1) (by rw [hn2]; exact hlt) (by omega)
      rw [← k2] at h
      exact h
    have sm2 := fun W => run_midL s l hs'.out (i : Int) (e : Int) i e rfl rfl (by omega) (by rw [← hn2]; exact k4) W
    have q5 := hide (fun W => qw.out W 6 6 rfl e k4 ((l.take e).drop i))
    obtain ⟨R, hR⟩ : ∃ R, S.dAfter 6 i e ((l.take e).drop i) (l.drop e) = R := ⟨_, rfl⟩
    rw [hR] at q5 ⊢
    generalize (l.take e).drop i = x at q5 sm2
    have k3' : ¬ (e : Int) = (k : Int) + 1 := by omega
    rw [hn2] at k4
    clear qw qd k2 k5 hR sm k3
    rcases first with ⟨rfl, ek⟩ | ⟨h48, hk⟩
    · go_enter Tryz.func53, Tryz.ntmps53
      go_wp2_with (first
        | (go_at_call 68; refine (qf2.out _).mono ?_; rintro e w1 ⟨rfl, rfl⟩)
        | (go_at_call 67; refine (q5.out _).mono ?_; rintro e w1 ⟨rfl, b1⟩; have rc := res_cells' b1; obtain ⟨r0, r1, r2, r3, rz⟩ := rc; unfold oneV tkAgg; replace b1 := hide b1))
      refine bodyPost_ret (v := oneV R) (by simp [results, Tryz.results53, go_sem, oneV, tkAgg, r0, r1, r2, r3]) rfl ?_
      exact ⟨rfl, res_below B0.out b1.out _ _ _ _ (by simp)⟩
    · have qe0 := qe0.out
      rw [hk] at qe0
      have qe := hide qe0
      clear qe0 hk
      have QE : Hid True := trivial
      go_enter Tryz.func53, Tryz.ntmps53
      go_wp2_with (first
        | (go_at_call 68; have y := QE; clear y; refine (qe.out _).mono ?_; rintro e w1 ⟨rfl, rfl⟩; clear QE)
        | (go_at_call 68; refine (qf2.out _).mono ?_; rintro e w1 ⟨rfl, rfl⟩)
        | (go_at_call 67; refine (q5.out _).mono ?_; rintro e w1 ⟨rfl, b1⟩; have rc := res_cells' b1; obtain ⟨r0, r1, r2, r3, rz⟩ := rc; unfold oneV tkAgg; replace b1 := hide b1))
      refine bodyPost_ret (v := oneV R) (by simp [results, Tryz.results53, go_sem, oneV, tkAgg, r0, r1, r2, r3]) rfl ?_
      exact ⟨rfl, res_below B0.out b1.out _ _ _ _ (by simp)⟩
end Go.Proofs.YtackibimlpkcmaaGreatDoor
