/-
  Hold.list: a list is copied, with two marks behind it, and the copy and the list are noted.
-/
import Derived.Test.YtcpmeehchmdljaaHoldMem
namespace Go.Proofs.Ytcpmeehchmdljaa
open Go.RowKit
set_option linter.unusedVariables false
set_option maxRecDepth 100000 in
set_option maxHeartbeats 4000000 in
theorem list_calls (w : World) (B hb : Nat) (v : Value) (l : List Int) (vs : Nat → Value) (xs : Nat → List Value) (h : HR hb w vs xs) (hl : IRow B w v l) (hB : B ≤ hb) (n0 : l.length ≤ 1099511627776) (n1 : (xs 0).length ≤ 1099511627776) (n2 : (xs 1).length ≤ 1099511627776) :
    Calls Try.prog 15 #[.pointer (some ⟨hb, 0, none⟩), v] w fun e w' => ∃ m, e = .returned (cutV m l.length) ∧ DI w' m l ∧ (∃ vs', HR hb w' vs' (upd (upd xs 0 (xs 0 ++ [m])) 1 (xs 1 ++ [v]))) ∧ Hk hb w w' := by
  obtain ⟨i0, hi, hz0, hz1, hz2⟩ := info_parts hInfoInt
  obtain ⟨i1, ki, kz0, kz1, kz2⟩ := info_parts hInfoInts
  obtain ⟨av, cv, rfl, -⟩ := hl.shape
  have hlt := h.lt
  replace h := hide h
  replace hl := hide hl
  have O0 : Hid ((w.alloc (.cells #[] 3)).ownsRow w.heap.size 3 1 (.slice (some ⟨w.heap.size, 0, none⟩) 0 0) 0 ((l.take 0).map (Value.int .i64))) := World.ownsRow_made w #[] 0 (Nat.le_refl _) (by decide) rfl
  have R0 : Hid (Below w.heap.size w (w.alloc (.cells #[] 3))) := (Below.refl _ _).alloc (Nat.le_refl _) _
  go_enter Try.func15, Try.ntmps15
  go_wp2_with fail
  go_loopw [5, 6] (fun m x wr => ∃ k : Nat, x = .int .i64 (k : Int) ∧ k ≤ l.length ∧ Hid (wr.ownsRow w.heap.size 3 1 m k ((l.take k).map (Value.int .i64))) ∧ Hid (Below w.heap.size w wr)) (fun _ x _ => l.length - (intOf x).toNat)
  case atStart => exact ⟨0, rfl, Nat.zero_le _, O0, R0⟩
  case round =>
    clear O0 R0
    obtain ⟨k, rfl, hk, OO, BB⟩ := hrel
    by_cases hkl : k < l.length
    · obtain ⟨b, off, rfl, hb', c0⟩ := (hl.out.below (BB.out.mono (by omega))).at_ hkl
      have kl : (k : Int) < (l.length : Int) := by omega
      have hsz := BB.out.size
      obtain ⟨x, hx⟩ : ∃ x, l.getD k 0 = x := ⟨_, rfl⟩
      have hst : Hid ((l.take (k + 1)).map (Value.int .i64) = (l.take k).map (Value.int .i64) ++ [.int .i64 x]) := by
        show _ = _
        rw [take_map_next hkl, hx]
      rw [hx] at c0
      clear hx
      go_wp2_with (at_builtin; (refine wpList_append_own _ rfl _ _ 24 rfl w.heap.size 3 i0 (.int .i64 0) 1 8 hSliceInt hi hz0 hz1 hz2 rfl (by decide) _ _ _ rfl (World.ownsRow.alloc OO.out _) ⟨wr.heap.size, 0, none⟩ 1 1 [.int .i64 x] rfl rfl (cell_one_new _ _ _) (by simp [Value.oneCell']) (by unfold maxLen; omega) (by omega) (by simp; omega) ?_; intro v' w5 hown' hgrow _; replace hown' := hide hown'; replace hgrow := hide hgrow))
      go_roundw
      case rel =>
        refine ⟨k + 1, by go_num, by omega, ?_, ?_⟩
        · rw [hst.out]
          exact hown'
        · exact (BB.out.then_below ((Below.refl _ wr).alloc (Nat.le_refl _) _)).then_grown hgrow.out (fun g hg => (OO.out.lt g hg).1)
      case measure => simp [intOf]; omega
    · obtain rfl : k = l.length := by omega
      have hsz := BB.out.size
      have OO2 : Hid (wr.ownsRow w.heap.size 3 1 u5 l.length (l.map (Value.int .i64))) := by have := OO.out; rw [List.take_length] at this; exact this
      clear hkl hk OO
      have HRr := hide (h.out.below BB.out)
      have KB := hide (Hk.of_below BB.out (Nat.le_of_lt hlt))
      go_upto_region 7 with (at_builtin; (refine wpList_append_own _ rfl _ _ 24 rfl w.heap.size 3 i0 (.int .i64 0) 1 8 hSliceInt hi hz0 hz1 hz2 rfl (by decide) _ _ _ rfl (World.ownsRow.alloc OO2.out _) ⟨wr.heap.size, 0, none⟩ 2 2 [.int .i64 (-71), .int .i64 (-72)] rfl rfl (cell_two_new _ _ _ _) (by simp [Value.oneCell']) (by unfold maxLen; omega) (by omega) (by simp; omega) ?_; intro v5 w5 hown5 hgrow5 _; replace hown5 := hide hown5; replace hgrow5 := hide hgrow5))
      have D5 := hide (di_of_row hown5.out)
      have H5 := (HRr.out.below ((Below.refl _ wr).alloc (Nat.le_refl _) _)).grown (World.ownsRow.alloc OO2.out _) (by decide) hgrow5.out
      have K5 := hide ((KB.out.alloc (Nat.le_of_lt hlt) _).grown_new (Nat.le_of_lt hlt) (World.ownsRow.alloc OO2.out _) (Nat.le_refl _) hgrow5.out)
      have lt5 := H5.lt
      obtain ⟨c0, z0⟩ := H5.cell (i := 0) (by decide)
      have P5 : w5.ownsRow (hb + 1) 24 1 (vs 0) (xs 0).length (xs 0) := H5.2.1 0 (by decide)
      obtain ⟨a0, k0, e0⟩ := ownsRow_slice P5
      rw [e0] at c0 P5
      replace P5 := hide P5
      replace H5 := hide H5
      replace e0 := hide e0
      obtain ⟨g5, cap5, rfl, hc5, -⟩ := id D5.out
      clear OO2 hown5 hgrow5 HRr KB BB hsz h hl
      go_upto_region 8 with (at_builtin; (refine wpList_append_own_at _ rfl _ _ 37 rfl (hb + 1) 24 i1 (.slice none 0 0) 1 24 hSliceInts ki kz0 kz1 kz2 rfl (by decide) _ _ _ rfl (World.ownsRow.alloc P5.out _) ⟨w5.heap.size, 0, none⟩ 1 1 [.slice (some ⟨g5, 0, none⟩) (l.length + 2) cap5] rfl rfl (cell_one_new _ _ _) (by simp [Value.oneCell']) (by unfold maxLen; omega) (by omega) (by simp; omega) ?_; intro v6 w6 hown6 hgrow6 _ hv6; obtain ⟨a6, k6, rfl⟩ := ownsRow_slice hown6; obtain ⟨H6, K6, c6, z6⟩ := HR.put' e0.out H5.out (i := 0) (by decide) hown6 hgrow6 hv6; replace H6 := hide H6; replace K6 := hide K6; clear hown6 hgrow6 hv6))
      have H6' := H6.out
      have lt6 := H6'.lt
      obtain ⟨c1, z1⟩ := H6'.cell (i := 1) (by decide)
      have P6 : (w6.setCell ⟨hb, 0, none⟩ (.slice a6 ((xs 0).length + 1) k6)).ownsRow (hb + 1) 24 1 (upd vs 0 (.slice a6 ((xs 0).length + 1) k6) 1) (xs 1).length (xs 1) := by
        have := H6'.2.1 1 (by decide)
        rw [upd_other xs 0 _ (by decide)] at this
        exact this
      obtain ⟨a1, k1, e1⟩ := ownsRow_slice P6
      rw [e1] at c1 P6
      have D6 := hide (D5.out.keeps K6.out)
      have KK6 := hide (K5.out.trans K6.out)
      replace P6 := hide P6
      replace e1 := hide e1
      clear H6' c6 z6 K6 D5 K5 H5 P5 c0 z0 e0
      generalize (w6.setCell ⟨hb, 0, none⟩ (.slice a6 ((xs 0).length + 1) k6)) = w7 at *
      generalize upd vs 0 (.slice a6 ((xs 0).length + 1) k6) = vs1 at *
      go_upto_region 9 with (at_builtin; (refine wpList_append_own_at _ rfl _ _ 37 rfl (hb + 1) 24 i1 (.slice none 0 0) 1 24 hSliceInts ki kz0 kz1 kz2 rfl (by decide) _ _ _ rfl (World.ownsRow.alloc P6.out _) ⟨w7.heap.size, 0, none⟩ 1 1 [.slice av l.length cv] rfl rfl (cell_one_new _ _ _) (by simp [Value.oneCell']) (by unfold maxLen; omega) (by omega) (by simp; omega) ?_; intro v8 w8 hown8 hgrow8 _ hv8; obtain ⟨a8, k8, rfl⟩ := ownsRow_slice hown8; obtain ⟨H8, K8, c8, z8⟩ := HR.put' e1.out H6.out (i := 1) (by decide) hown8 hgrow8 hv8; replace H8 := hide H8; replace K8 := hide K8; clear hown8 hgrow8 hv8))
      have D8 := hide (D6.out.keeps K8.out)
      have KK8 := hide (KK6.out.trans K8.out)
      clear c8 z8 K8 D6 KK6 c1 z1 H6 P6 e1
      generalize (w8.setCell ⟨hb, 1, none⟩ (.slice a8 ((xs 1).length + 1) k8)) = w9 at *
      go_wp2_with fail
      go_ret
      exact ⟨_, rfl, D8.out, ⟨_, H8.out⟩, KK8.out⟩
theorem list_hn (w : World) (B hb : Nat) (v : Value) (l : List Int) (ns : List NE) (fs : List FE) (ls : List LE') (h : HN B hb w ns fs ls) (hl : IRow B w v l) (hB : B ≤ hb) (n0 : l.length ≤ 1099511627776) (n1 : ns.length ≤ 1099511627776) :
    Calls Try.prog 15 #[.pointer (some ⟨hb, 0, none⟩), v] w fun e w' => ∃ g cap, e = .returned (.slice (some ⟨g, 0, none⟩) l.length cap) ∧ DI w' (.slice (some ⟨g, 0, none⟩) (l.length + 2) cap) l ∧ HN B hb w' (ns ++ [(.slice (some ⟨g, 0, none⟩) (l.length + 2) cap, v, l)]) fs ls ∧ Hk hb w w' := by
  obtain ⟨vs, hr⟩ := h.1
  refine (list_calls w B hb v l vs _ hr hl hB n0 (by show (List.map _ ns).length ≤ _; rw [List.length_map]; exact n1) (by show (List.map _ ns).length ≤ _; rw [List.length_map]; exact n1)).mono fun e w' => ?_
  rintro ⟨m, rfl, hd, hr', hk⟩
  obtain ⟨g, cap, rfl, -⟩ := id hd
  exact ⟨g, cap, rfl, hd, h.num hB hk hd hl hr', hk⟩
end Go.Proofs.Ytcpmeehchmdljaa
