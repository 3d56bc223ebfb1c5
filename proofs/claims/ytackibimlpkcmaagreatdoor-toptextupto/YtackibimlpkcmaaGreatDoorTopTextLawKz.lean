/-
  The law TopText.
-/
import Derived.Test.YtackibimlpkcmaaGreatDoorKz37
import Derived.Test.YtackibimlpkcmaaGreatDoorRefReadKz
import Derived.Test.YtackibimlpkcmaaGreatDoorKz35
import Derived.Test.YtackibimlpkcmaaGreatDoorKz23
/- ==== TopTextLaw ==== -/
namespace Go.Proofs.YtackibimlpkcmaaGreatDoor
open Go.RowKit
set_option linter.unusedVariables false
theorem nkey_at {fs f : List X.N} (h : fs.map nkey = f.map nkey) (k : Nat) : (fs.getD k X.n0).kind = (f.getD k X.n0).kind ∧ (fs.getD k X.n0).size = (f.getD k X.n0).size ∧ (fs.getD k X.n0).text = (f.getD k X.n0).text := by
  have hk : nkey (fs.getD k X.n0) = nkey (f.getD k X.n0) := by
    have h1 : (fs.map nkey)[k]? = (f.map nkey)[k]? := by rw [h]
    rw [List.getElem?_map, List.getElem?_map] at h1
    rw [List.getD_eq_getElem?_getD, List.getD_eq_getElem?_getD]
    cases ha : fs[k]? with
    | none =>
      rw [ha] at h1
      cases hb : f[k]? with
      | none => rfl
      | some y => rw [hb] at h1; cases h1
    | some x =>
      rw [ha] at h1
      cases hb : f[k]? with
      | none => rw [hb] at h1; cases h1
      | some y => rw [hb] at h1; exact Option.some.inj h1
  simp only [nkey, Prod.mk.injEq] at hk
  obtain ⟨e1, e2, e3⟩ := hk
  exact ⟨by omega, by omega, e3⟩
theorem TRow.jrow {w : World} {v : Value} {ts : List S.Tok} (h : TRow w v ts) : JRow w v (ts.map jOf) := by
  obtain ⟨a, cap, rfl, h1, h2, h4⟩ := h
  refine ⟨a, cap, by rw [List.length_map], by rw [List.length_map]; exact h1, h2, fun hne => ?_⟩
  obtain ⟨b, off, rfl, hc⟩ := h4 (by rintro rfl; exact hne rfl)
  refine ⟨b, off, rfl, fun j hj => ?_⟩
  rw [List.length_map] at hj
  have e : (ts.map jOf).getD j j0 = jOf (ts.getD j tk0) := by
    rw [List.getD_eq_getElem?_getD, List.getD_eq_getElem?_getD, List.getElem?_map, List.getElem?_eq_getElem hj]
    rfl
  rw [e]
  exact hc j hj
set_option maxRecDepth 100000 in
set_option maxHeartbeats 1000000 in
theorem sameNodes_calls (w : World) (va vb : Value) (f fs : List X.N) (ha : NRow w va f) (hb : NRow w vb fs) (hk : fs.map nkey = f.map nkey) (hl : fs.length = f.length) (hn : f.length ≤ 2932031007402) :
    Calls Tryz.prog 12 #[va, vb] w fun e w' => e = .returned (.bool true) ∧ Below w.heap.size w w' := by
  have t1 := hide ha
  have t2 := hide hb
  obtain ⟨a1, cp1, rfl, n1, n1', -⟩ := ha
  obtain ⟨a2, cp2, rfl, n2, n2', -⟩ := hb
  obtain ⟨LL, hLL⟩ : ∃ n, f.length = n := ⟨_, rfl⟩
  rw [hl] at t2 n2 ⊢
  rw [hLL] at n1 n2 t1 t2 hn ⊢
  have hLh := hide hLL
  have hlh := hide hl
  have hkh := hide (nkey_at hk)
  clear hLL hl hk
  have B0 : Hid (Below w.heap.size w w) := Below.refl _ w
  go_enter Tryz.func12, Tryz.ntmps12
  go_wp2
  go_loopw [5] (fun j wr => ∃ k : Nat, k ≤ LL ∧ j = .int .i64 k ∧ Hid (Below w.heap.size w wr)) (fun j _ => LL - (intOf j).toNat)
  case atStart => exact ⟨0, Nat.zero_le _, rfl, B0⟩
  case round =>
    clear B0
    obtain ⟨k, hk', rfl, hBw⟩ := hrel
    by_cases hlt : k < LL
    · have T1 := t1.out.below hBw.out
      obtain ⟨g1, f1, rfl, x0, x1, x2, x3, x4⟩ := T1.at_ (j := k) (by rw [hLh.out]; exact hlt)
      have T2 := t2.out.below hBw.out
      obtain ⟨g2, f2, rfl, y0, y1, y2, y3, y4⟩ := T2.at_ (j := k) (by rw [hlh.out, hLh.out]; exact hlt)
      obtain ⟨e0, e3, e4⟩ := hkh.out k
      rw [e0] at y0
      rw [e3] at y3
      rw [e4] at y4
      clear e0 e3 e4 T1 T2 x1 x2 y1 y2
      generalize (f.getD k X.n0).kind = kd at x0 y0
      generalize (f.getD k X.n0).size = sz at x3 y3
      generalize (⟨(f.getD k X.n0).text.toArray⟩ : ByteArray) = tx at x4 y4
      have i1 : (k : Int) < LL := by omega
      have i0 : (0 : Int) ≤ k := by omega
      go_wp2
      go_quiet (fail)
      go_wp2
      go_roundw
      case rel => exact ⟨k + 1, by omega, by go_num, below_drewN hBw.out _⟩
      case measure => simp [intOf]; omega
    · have i1 : ¬ (k : Int) < LL := by omega
      go_wp2
      go_ret
      exact ⟨rfl, hBw.out⟩
set_option maxRecDepth 100000 in
set_option maxHeartbeats 4000000 in
theorem topText_calls (w : World) (hc : Cls w) (hr : Rsv w) (hm : Mx w) (s : ByteArray) (l : List UInt8) (hs : s.data.toList = l) (hl : l.length ≤ 1048576) :
    Calls Tryz.prog 4 #[.string s] w fun e w' => e = .returned (.bool true) ∧ Below w.heap.size w w' := by
  have hd := X.out_doc (S.run resv .idle l 0).1 (S.run resv .idle l 0).2.1 (S.run resv .idle l 0).2.2 (S.run_place resv l .idle 0)
  have q0 := hide (sexpRead_calls w hc s l hs (by omega) _ rfl)
  have q1 := hide (fun W (hW : Rsv W) => sread_calls W hW s l hs (by omega) _ rfl)
  have tm := tm_of l (S.run resv .idle l 0).2.1 (S.run resv .idle l 0).2.2
  rw [← hd] at q1
  obtain ⟨o, ho⟩ : ∃ o, X.out (S.run resv .idle l 0).1 (S.run resv .idle l 0).2.1 (S.run resv .idle l 0).2.2 = o := ⟨_, rfl⟩
  rw [ho] at q0 q1 tm
  obtain ⟨f, e, p⟩ := o
  simp only at q0 q1 tm
  obtain ⟨m1, m2, m3, out, m4, m5, T, fs, m6, m7, m8, m9, m10, m11, m12, m13, jn, m14, m15, T3, f3, m16, m17, m18, m19⟩ := tm
  have c1 : showE (f.map toNd) = 0 := by unfold showE; rw [m3, if_pos rfl, m4]; rfl
  have c2 : showV (f.map toNd) = out := by unfold showV; rw [m3, if_pos rfl, m4]; rfl
  have d1 : showE (fs.map toNd) = 0 := by unfold showE; rw [m10, if_pos rfl, m11]; rfl
  have d2 : showV (fs.map toNd) = out := by unfold showV; rw [m10, if_pos rfl, m11]; rfl
  obtain ⟨S1, hS1⟩ : ∃ x : ByteArray, (⟨out.toArray⟩ : ByteArray) = x := ⟨_, rfl⟩
  have hS1l : S1.data.toList = out := by rw [← hS1]
  obtain ⟨S2, hS2⟩ : ∃ x : ByteArray, (⟨jn.toArray⟩ : ByteArray) = x := ⟨_, rfl⟩
  have hS2l : S2.data.toList = jn := by rw [← hS2]
  have wl : ∀ k, jtot (lnt (f.map toNd) k) ≤ 33554432 := fun k => Nat.le_trans (lnt_tot _ k) (by omega)
  have qs : Hid (∀ W v, Cls W → Mx W → NRow W v f → Calls Tryz.prog 6 #[v] W fun e w' => e = .returned (.tuple #[.string S1, .int .i64 0]) ∧ Below W.heap.size W w') := by
    intro W v h1 h2 h3
    have := show_calls W h1 h2 W.heap.size v (f.map toNd) (h3.nds (by omega)) (Nat.le_refl _) (by rw [List.length_map]; omega) (fun k _ => wl k)
    rw [c1, c2, hS1] at this
    exact this
  have qs2 : Hid (∀ W v, Cls W → Mx W → NRow W v fs → Calls Tryz.prog 6 #[v] W fun e w' => e = .returned (.tuple #[.string S1, .int .i64 0]) ∧ Below W.heap.size W w') := by
    intro W v h1 h2 h3
    have := show_calls W h1 h2 W.heap.size v (fs.map toNd) (h3.nds (by omega)) (Nat.le_refl _) (by rw [List.length_map]; omega) (fun k _ => by rw [m12]; exact wl k)
    rw [d1, d2, hS1] at this
    exact this
  have qr : Hid (∀ W, Cls W → Calls Tryz.prog 10 #[.string S1] W fun e w' => ∃ v, e = .returned (.tuple #[v, .int .i64 0, .int .i64 0]) ∧ NRow w' v fs ∧ Below W.heap.size W w') := by
    intro W h1
    have := sexpRead_calls W h1 S1 out hS1l (by omega) (fs, 0, 0) (by rw [m6]; exact m7.symm)
    exact this
  have qt := fun W (h : Cls W) => tokens_calls W h S1 out hS1l (by omega)
  rw [m6] at qt
  simp only at qt
  replace qt := hide qt
  have qj : Hid (∀ W v, Cls W → Mx W → JRow W v (T.map jOf) → Calls Tryz.prog 14 #[v] W fun e w' => e = .returned (.tuple #[.string S2, .int .i64 0]) ∧ Below W.heap.size W w') := by
    intro W v h1 h2 h3
    have := join_calls W h1 h2 v (T.map jOf) h3 (by omega)
    rw [m14] at this
    show Calls _ _ _ _ (fun e w' => e = .returned (.tuple #[.string S2, .int .i64 0]) ∧ Below W.heap.size W w')
    rw [← hS2]
    exact this
  have q3 : Hid (∀ W, Cls W → Calls Tryz.prog 10 #[.string S2] W fun e w' => ∃ v, e = .returned (.tuple #[v, .int .i64 0, .int .i64 0]) ∧ NRow w' v f3 ∧ Below W.heap.size W w') := by
    intro W h1
    have := sexpRead_calls W h1 S2 jn hS2l (by omega) (f3, 0, 0) (by rw [m16]; exact m17.symm)
    exact this
  have qa : Hid (∀ W va vb, NRow W va f → NRow W vb fs → Calls Tryz.prog 12 #[va, vb] W fun e w' => e = .returned (.bool true) ∧ Below W.heap.size W w') := fun W va vb h1 h2 => sameNodes_calls W va vb f fs h1 h2 m8 m9 (by omega)
  have qb : Hid (∀ W va vb, NRow W va f → NRow W vb f3 → Calls Tryz.prog 12 #[va, vb] W fun e w' => e = .returned (.bool true) ∧ Below W.heap.size W w') := fun W va vb h1 h2 => sameNodes_calls W va vb f f3 h1 h2 m18 m19 (by omega)
  obtain ⟨TJ, hTJ⟩ : ∃ TJ, T.map jOf = TJ := ⟨_, rfl⟩
  rw [hTJ] at qj
  replace hTJ := hide hTJ
  have hrH := hide hr
  have hcH := hide hc
  have hmH := hide hm
  clear hc hr hm hs hl ho hd m1 m2 m3 m4 m5 m6 m7 m8 m9 m10 m11 m12 m13 m14 m15 m16 m17 m18 m19 c1 c2 d1 d2 hS1 hS1l hS2 hS2l wl
  go_enter Tryz.func4, Tryz.ntmps4
  go_wp2_with fail
  refine q0.out.mono ?_
  rintro x w1 ⟨v1, rfl, r1, b1⟩
  obtain ⟨a1, cp1, rfl, n1, n1'⟩ := r1.shape
  replace r1 := hide r1
  replace b1 := hide b1
  have p1 := hide (q1.out w1 (hrH.out.below b1.out))
  clear q0 q1
  go_wp2_with fail
  refine p1.out.mono ?_
  rintro x w2 ⟨v2, rfl, r2, b2⟩
  obtain ⟨a2, cp2, rfl, n2, n2'⟩ := r2.shape
  have r1b := hide (r1.out.below b2)
  replace b2 := hide (b1.out.then_below b2)
  have p2 := hide (qs.out w2 _ (cls_below hcH.out b2.out) (hmH.out.below b2.out) r1b.out)
  clear r2 r1 p1 b1 qs
  go_wp2_with fail
  refine p2.out.mono ?_
  rintro x w3 ⟨rfl, b3⟩
  have r1c := hide (r1b.out.below b3)
  replace b3 := hide (b2.out.then_below b3)
  have p3 := hide (qr.out w3 (cls_below hcH.out b3.out))
  clear p2 r1b b2 qr
  go_wp2_with fail
  refine p3.out.mono ?_
  rintro x w4 ⟨v4, rfl, r4, b4⟩
  obtain ⟨a4, cp4, rfl, n4, n4'⟩ := r4.shape
  have r1d := hide (r1c.out.below b4)
  replace r4 := hide r4
  replace b4 := hide (b3.out.then_below b4)
  have p4 := hide (qa.out w4 _ _ r1d.out r4.out)
  clear p3 r1c b3 qa
  go_wp2_with fail
  refine p4.out.mono ?_
  rintro x w5 ⟨rfl, b5⟩
  have r1e := hide (r1d.out.below b5)
  have r4e := hide (r4.out.below b5)
  replace b5 := hide (b4.out.then_below b5)
  have p5 := hide (qs2.out w5 _ (cls_below hcH.out b5.out) (hmH.out.below b5.out) r4e.out)
  clear p4 r1d r4 b4 qs2
  go_wp2_with fail
  refine p5.out.mono ?_
  rintro x w6 ⟨rfl, b6⟩
  have r1f := hide (r1e.out.below b6)
  replace b6 := hide (b5.out.then_below b6)
  have p6 := hide (qt.out w6 (cls_below hcH.out b6.out))
  clear p5 r1e r4e b5 qt
  go_wp2_with fail
  refine p6.out.mono ?_
  rintro x w7 ⟨v7, rfl, u7, b7⟩
  have T7 : Hid (JRow w7 v7 TJ) := by show JRow w7 v7 TJ; rw [← hTJ.out]; exact (ownsRow.trow u7).jrow
  obtain ⟨a7, cp7, rfl, n7, n7'⟩ := T7.out.shape
  have r1g := hide (r1f.out.below b7)
  replace b7 := hide (b6.out.then_below b7)
  have p7 := hide (qj.out w7 _ (cls_below hcH.out b7.out) (hmH.out.below b7.out) T7.out)
  clear p6 r1f b6 u7 qj
  go_wp2_with fail
  refine p7.out.mono ?_
  rintro x w8 ⟨rfl, b8⟩
  have r1h := hide (r1g.out.below b8)
  replace b8 := hide (b7.out.then_below b8)
  have p8 := hide (q3.out w8 (cls_below hcH.out b8.out))
  clear p7 r1g b7 T7 q3
  go_wp2_with fail
  refine p8.out.mono ?_
  rintro x w9 ⟨v9, rfl, r9, b9⟩
  obtain ⟨a9, cp9, rfl, n9, n9'⟩ := r9.shape
  have r1i := hide (r1h.out.below b9)
  replace r9 := hide r9
  replace b9 := hide (b8.out.then_below b9)
  have p9 := hide (qb.out w9 _ _ r1i.out r9.out)
  clear p8 r1h b8 qb
  go_wp2_with fail
  refine p9.out.mono ?_
  rintro x w10 ⟨rfl, b10⟩
  replace b10 := hide (b9.out.then_below b10)
  clear p9
  go_wp2_with fail
  go_ret
  exact ⟨rfl, b10.out⟩
end Go.Proofs.YtackibimlpkcmaaGreatDoor
