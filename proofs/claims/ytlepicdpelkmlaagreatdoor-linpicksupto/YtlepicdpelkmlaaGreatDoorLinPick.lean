/-
  Package lin: Pick.
-/
import Derived.Test.YtlepicdpelkmlaaGreatDoorLinMath
import Derived.Test.YtlepicdpelkmlaaGreatDoorLinIn
namespace Go.Proofs.YtlepicdpelkmlaaGreatDoor
open Go.RowKit
set_option linter.unusedVariables false
def Pq.ok (p : Pq) : Bool := okB p.la && okB p.lb && (okB p.ha && okB p.hb)
def Pq.q (p : Pq) : P4 := ⟨qV p.la.data.toList, qV p.lb.data.toList, qV p.ha.data.toList, qV p.hb.data.toList⟩
/-- What Pick answers. -/
def PickA (ps : List Pq) (d : ByteArray) (c : Int) : Prop :=
  (c = 1 ∧ d = ⟨#[]⟩ ∧ ps.all Pq.ok = false) ∨ (ps.all Pq.ok = true ∧ ((c = 3 ∧ d = ⟨#[]⟩ ∧ pickR (ps.map Pq.q) 1 = none) ∨ (c = 0 ∧ ∃ m, pickR (ps.map Pq.q) 1 = some m ∧ d = tB m)))
theorem sgn_le (x : Rat) : sgnQ x ≤ 0 ↔ ¬ 0 < x := by
  unfold sgnQ
  by_cases h : x = 0
  · rw [if_pos h]; grind
  · rw [if_neg h]
    by_cases h2 : x < 0
    · rw [if_pos h2]; grind
    · rw [if_neg h2]; grind
theorem cmpQ_lt (x y : Rat) : cmpQ x y < 0 ↔ x < y := by
  unfold cmpQ
  by_cases h : x < y
  · rw [if_pos h]; simp [h]
  · rw [if_neg h]
    by_cases h2 : x = y
    · rw [if_pos h2]; simp [h]
    · rw [if_neg h2]; simp [h]
/-- A number that Pick may hold. -/
def MB (m : Rat) : Prop := Bd 4194306 m
theorem MB.sz {m : Rat} (h : MB m) : Sz m := Bd.sz (by decide) (by decide) h
theorem bd_one (j : Nat) (h : j ≠ 0) : Bd j 1 := ⟨show (1 : Nat) < _ from Nat.one_lt_pow h (by decide), show (1 : Nat) < _ from Nat.one_lt_pow h (by decide)⟩
theorem mb_one : MB 1 := bd_one _ (by decide)
theorem mb_meet {a b c d : Rat} (ha : Bd 1048576 a) (hb : Bd 1048576 b) (hc : Bd 1048576 c) (hd : Bd 1048576 d) : MB ((a - b) / (c - d)) := by
  have h := (ha.sub hb).div (hc.sub hd)
  rw [show 1048576 + 1048576 + 1 + (1048576 + 1048576 + 1) = 4194306 from by decide] at h
  exact h
theorem ok_tB {s : ByteArray} (h : okB s = true) (hs : s.size ≤ 1048576) : s = tB (qV s.data.toList) ∧ Bd 1048576 (qV s.data.toList) := ⟨of_can h, can_Bd h hs (by decide)⟩
theorem Bd.s20 {q : Rat} (h : Bd 1048576 q) : Sz q := Bd.sz (by decide) (by decide) h
theorem Bd.s21 {q : Rat} (h : Bd (1048576 + 1048576 + 1) q) : Sz q := Bd.sz (by decide) (by decide) h
theorem all_drop {α : Type} (f : α → Bool) (ps : List α) (d : α) (k : Nat) (h : ps.all f = true) (hk : k < ps.length) : f (ps.getD k d) = true := by
  rw [List.getD_eq_getElem?_getD, List.getElem?_eq_getElem hk]
  exact List.all_eq_true.1 h _ (List.getElem_mem hk)
theorem drop_at {α : Type} (ps : List α) (d : α) (k : Nat) (hk : k < ps.length) : ps.drop k = ps.getD k d :: ps.drop (k + 1) := by
  rw [List.drop_eq_getElem_cons hk, List.getD_eq_getElem?_getD, List.getElem?_eq_getElem hk]
  rfl
/-- How the second loop stands. -/
def PkAt (w wr : World) (bL : Nat) (ps : List Pq) (k : Nat) : Prop :=
  ∃ m, MB m ∧ 0 < m ∧ pickR (ps.map Pq.q) 1 = pickR ((ps.drop k).map Pq.q) m ∧ wr.heap[bL]? = some (.cells #[.string (tB m)] 46 (0, 0)) ∧ Below w.heap.size w wr
set_option maxRecDepth 100000 in
set_option maxHeartbeats 8000000 in
theorem pick_calls (w : World) (v : Value) (ps : List Pq) (h : QRow w v ps) (hn : ps.length ≤ 1048576) (hz : ∀ j, j < ps.length → (ps.getD j Pq.z).sz ≤ 1048576) (env : LEnv w) :
    Calls Tryz.prog 4 #[v] w fun e w' => (∃ d c, e = .returned (.tuple #[.string d, .int .i64 c]) ∧ PickA ps d c) ∧ Below w.heap.size w w' := by
  obtain ⟨va, vc, rfl, n1, n2⟩ := h.shape
  obtain ⟨n, hN⟩ : ∃ n, ps.length = n := ⟨_, rfl⟩
  have eH := hide env
  rw [hN] at n1 h hn hz ⊢
  have hNh := hide hN
  have hP := hide h
  have hZ := hide hz
  have B0 : Hid (Below w.heap.size w w) := Below.refl _ w
  clear h hz env hN
  go_enter Tryz.func4, Tryz.ntmps4
  go_wp2
  go_loopw [15] (fun j wr => ∃ k : Nat, k ≤ n ∧ j = .int .i64 k ∧ Hid ((ps.take k).all Pq.ok = true) ∧ Hid (Below w.heap.size w wr)) (fun j _ => n - (intOf j).toNat)
  case atStart => exact ⟨0, Nat.zero_le _, rfl, by show _ = _; rw [List.take_zero]; rfl, B0⟩
  case round =>
    clear B0
    obtain ⟨k, hk, rfl, hA, hB⟩ := hrel
    by_cases hlt : k < n
    · obtain ⟨b, off, rfl, c0, c1, c2, c3⟩ := (hP.out.below hB.out).at_ (j := k) (by rw [hNh.out]; exact hlt)
      have sz := hZ.out k hlt
      have good := hide (fun h => all_take Pq.ok ps Pq.z k (by rw [hNh.out]; exact hlt) hA.out h)
      have bad := hide (fun h => all_no Pq.ok ps Pq.z k (by rw [hNh.out]; exact hlt) h)
      generalize ps.getD k Pq.z = p at c0 c1 c2 c3 sz good bad
      obtain ⟨pa, pb, pc, pd⟩ := p
      simp only [Pq.sz, slen] at c0 c1 c2 c3 sz
      have BA := hide (hB.out.alloc hB.out.size (.cells #[.string pa, .string pb, .string pc, .string pd] 43))
      have q := chkTwo (wr.alloc (.cells #[.string pa, .string pb, .string pc, .string pd] 43)) pa pb pc pd (by omega) (by omega) (by omega) (by omega) (eH.out.below BA.out)
      obtain ⟨ok, hok⟩ : ∃ o, (okB pa && okB pb && (okB pc && okB pd)) = o := ⟨_, rfl⟩
      rw [hok, World.size_alloc] at q
      replace q := hide q
      have i1 : (k : Int) < n := by omega
      have hB2 := hB.out.size
      clear sz
      go_wp2_with fail
      refine q.out.mono ?_
      rintro e w1 ⟨rfl, b1⟩
      have B1 : Hid (Below w.heap.size w w1) := BA.out.trans (b1.mono (by omega))
      clear q b1 BA
      cases ok
      · have fin : Hid (PickA ps ⟨#[]⟩ 1) := .inl ⟨rfl, rfl, bad.out hok⟩
        rw [if_neg (by decide)]
        clear hA good bad hok
        go_wp2
        refine bodyPost_ret (v := .tuple #[.string ⟨#[]⟩, .int .i64 1]) (by simp [results, Tryz.results4, go_sem]) rfl ?_
        exact ⟨⟨_, _, rfl, fin.out⟩, B1.out⟩
      · have hg := hide (good.out hok)
        rw [if_pos rfl]
        clear hA good bad hok
        go_wp2
        go_roundw
        case rel => exact ⟨k + 1, by omega, by go_num, hg, B1⟩
        case measure => simp [intOf]; omega
    · obtain rfl : n = k := by omega
      have i1 : ¬ (n : Int) < n := by omega
      have allok : ps.all Pq.ok = true := by have := hA.out; rwa [List.take_of_length_le (by rw [hNh.out]; exact Nat.le_refl _)] at this
      have one := (eH.out.below hB.out).2.2
      have L0 : Hid (PkAt w (wr.alloc (.cells #[.string ⟨#[49]⟩] 46)) wr.heap.size ps 0) := ⟨1, mb_one, by decide, by rw [List.drop_zero], by rw [t_one]; exact heap_alloc_new wr _, hB.out.alloc hB.out.size _⟩
      have zr := hB.out.size
      replace allok := hide allok
      clear hA hB
      go_wp2
      generalize wr.heap.size = bL at L0 zr ⊢
      go_loopw [32] (fun j wx => ∃ k : Nat, k ≤ n ∧ j = .int .i64 k ∧ Hid (PkAt w wx bL ps k)) (fun j _ => n - (intOf j).toNat)
      case atStart => exact ⟨0, Nat.zero_le _, rfl, L0⟩
      case round =>
        clear L0
        obtain ⟨k, hk, rfl, hL⟩ := hrel
        by_cases hlt : k < n
        · obtain ⟨m, m1, m2, m3, m4, hB⟩ := hL.out
          obtain ⟨b, off, rfl, c0, c1, c2, c3⟩ := (hP.out.below hB).at_ (j := k) (by rw [hNh.out]; exact hlt)
          have sz := hZ.out k hlt
          have ok := all_drop Pq.ok ps Pq.z k allok.out (by rw [hNh.out]; exact hlt)
          rw [drop_at ps Pq.z k (by rw [hNh.out]; exact hlt), List.map_cons] at m3
          generalize ps.getD k Pq.z = p at c0 c1 c2 c3 sz ok m3
          obtain ⟨pa, pb, pc, pd⟩ := p
          simp only [Pq.sz, slen] at c0 c1 c2 c3 sz
          simp only [Pq.ok, Bool.and_eq_true] at ok
          obtain ⟨⟨oa, ob⟩, oc, od⟩ := ok
          obtain ⟨ea, ba⟩ := ok_tB oa (by omega)
          obtain ⟨eb, bb⟩ := ok_tB ob (by omega)
          obtain ⟨ec, bc⟩ := ok_tB oc (by omega)
          obtain ⟨ed, bd⟩ := ok_tB od (by omega)
          obtain ⟨p4, hp4⟩ : ∃ p4, Pq.q ⟨pa, pb, pc, pd⟩ = p4 := ⟨_, rfl⟩
          rw [hp4] at m3
          obtain ⟨A, B, C, D⟩ := p4
          rw [show qV pa.data.toList = A from congrArg P4.la hp4] at ea ba
          rw [show qV pb.data.toList = B from congrArg P4.lb hp4] at eb bb
          rw [show qV pc.data.toList = C from congrArg P4.ha hp4] at ec bc
          rw [show qV pd.data.toList = D from congrArg P4.hb hp4] at ed bd
          clear hp4
          subst ea eb ec ed
          have m3 : pickR (ps.map Pq.q) 1 = if 0 < cmpD A B C D then none else pickR ((ps.drop (k + 1)).map Pq.q) (stepQ ⟨A, B, C, D⟩ m) := m3
          have LE : Hid (∀ W, Below w.heap.size w W → LEnv W) := fun W q => eH.out.below q
          have qc := hide (fun W (q : Below w.heap.size w W) => cmpDel_calls W A B C D ba.s20 bb.s20 bc.s20 bd.s20 (LE.out W q))
          have q1 := hide (fun W (q : Below w.heap.size w W) => lminus_calls W C A bc.s20 ba.s20 (LE.out W q))
          have q2 := hide (fun W (q : Below w.heap.size w W) => lminus_calls W B D bb.s20 bd.s20 (LE.out W q))
          have qs1 := hide (fun W (q : Below w.heap.size w W) => lsign_calls W (C - A) (LE.out W q))
          have qs2 := hide (fun W (q : Below w.heap.size w W) => lsign_calls W (B - D) (LE.out W q))
          have qo := hide (fun W (q : Below w.heap.size w W) (hz : B - D ≠ 0) => lover_calls W (C - A) (B - D) hz (bc.sub ba).s21 (bb.sub bd).s21 (LE.out W q))
          have mm := mb_meet bc ba bb bd
          have qm := hide (fun W (q : Below w.heap.size w W) => lcompare_calls W ((C - A) / (B - D)) m mm.sz m1.sz (LE.out W q))
          have i2 : (k : Int) < n := by omega
          have hBz := hB.size
          have lt := (Array.getElem?_eq_some_iff.1 m4).1
          have LK : Hid (∀ W, Below wr.heap.size wr W → W.heap[bL]? = some (.cells #[.string (tB m)] 46 (0, 0))) := fun W q => (q.block bL lt).trans m4
          have bA := hide ((Below.refl wr.heap.size wr).alloc (Nat.le_refl _) (.cells #[.string (tB A), .string (tB B), .string (tB C), .string (tB D)] 43))
          have XA := hide (heap_alloc_new wr (.cells #[.string (tB A), .string (tB B), .string (tB C), .string (tB D)] 43))
          have hBh := hide hB
          replace m1 := hide m1
          replace m2 := hide m2
          replace mm := hide mm
          clear oa ob oc od ba bb bc bd sz hL m4 hB
          go_wp2_with fail
          refine (qc.out _ (hBh.out.then_below bA.out)).mono ?_
          rintro e w1 ⟨rfl, b1⟩
          have R1 := hide (bA.out.then_below b1)
          have z1 := R1.out.size
          have X1 := hide ((b1.block wr.heap.size (by simp)).trans XA.out)
          clear bA XA b1 qc
          by_cases ho : 0 < cmpD A B C D
          · rw [if_pos ho] at m3
            have fin : Hid (PickA ps ⟨#[]⟩ 3) := .inr ⟨allok.out, .inl ⟨rfl, rfl, m3⟩⟩
            have B1 := hide (hBh.out.then_below R1.out)
            clear m3 q1 q2 qs1 qs2 qo qm LK R1 X1 hBh m1 m2 mm
            generalize cmpD A B C D = c at *
            go_wp2
            refine bodyPost_ret (v := .tuple #[.string ⟨#[]⟩, .int .i64 3]) (by simp [results, Tryz.results4, go_sem]) rfl ?_
            exact ⟨⟨_, _, rfl, fin.out⟩, B1.out⟩
          · rw [if_neg ho] at m3
            have stp : Hid (stepQ ⟨A, B, C, D⟩ m = if 0 < C - A ∧ 0 < B - D ∧ (C - A) / (B - D) < m then (C - A) / (B - D) else m) := rfl
            have spos := hide (step_pos (p := ⟨A, B, C, D⟩) m2.out).1
            have m3' := hide m3
            clear m3 m2
            have y0 : w1.cell? ⟨wr.heap.size, 0, none⟩ = some (.string (tB A)) := by rw [cell_of_row w1 _ _ _ _ (0, 0) X1.out]; rfl
            have y2 : w1.cell? ⟨wr.heap.size, 2, none⟩ = some (.string (tB C)) := by rw [cell_of_row w1 _ _ _ _ (0, 0) X1.out]; rfl
            have l1 := (Array.getElem?_eq_some_iff.1 X1.out).1
            generalize cmpD A B C D = c at ho ⊢
            go_wp2_with fail
            refine (q1.out w1 (hBh.out.then_below R1.out)).mono ?_
            rintro e w2 ⟨rfl, b2⟩
            clear y0 y2
            have R2 := hide (R1.out.then_below b2)
            have z2 := b2.size
            have X2 := hide ((b2.block wr.heap.size l1).trans X1.out)
            have X2' := (heap_alloc_old w2 (.cells #[.string (tB (C - A))] 46) (Array.getElem?_eq_some_iff.1 X2.out).1).trans X2.out
            have y1 : (w2.alloc (.cells #[.string (tB (C - A))] 46)).cell? ⟨wr.heap.size, 1, none⟩ = some (.string (tB B)) := by rw [cell_of_row _ _ _ _ _ (0, 0) X2']; rfl
            have y3 : (w2.alloc (.cells #[.string (tB (C - A))] 46)).cell? ⟨wr.heap.size, 3, none⟩ = some (.string (tB D)) := by rw [cell_of_row _ _ _ _ _ (0, 0) X2']; rfl
            clear X2'
            have R3 := hide (R2.out.alloc (by omega) (.cells #[.string (tB (C - A))] 46))
            have X3 := hide (heap_alloc_new w2 (.cells #[.string (tB (C - A))] 46))
            clear b2 X1 R1 q1
            go_wp2_with fail
            refine (q2.out _ (hBh.out.then_below R3.out)).mono ?_
            rintro e w4 ⟨rfl, b4⟩
            clear y1 y3
            have R4 := hide (R3.out.then_below b4)
            have z4 : w2.heap.size + 1 ≤ w4.heap.size := by have := b4.size; simpa using this
            have X4 := hide ((b4.block w2.heap.size (by simp)).trans X3.out)
            have R5 := hide (R4.out.alloc (by omega) (.cells #[.string (tB (B - D))] 46))
            have X5 := hide (heap_alloc_new w4 (.cells #[.string (tB (B - D))] 46))
            have X4' := hide ((heap_alloc_old w4 (.cells #[.string (tB (B - D))] 46) (show w2.heap.size < w4.heap.size by omega)).trans X4.out)
            have y4 : (w4.alloc (.cells #[.string (tB (B - D))] 46)).cell? ⟨w2.heap.size, 0, none⟩ = some (.string (tB (C - A))) := by rw [cell_of_row _ _ _ _ _ (0, 0) X4'.out]; rfl
            clear b4 X2 X3 R2 R3 q2 X4
            go_wp2_with fail
            refine (qs1.out _ (hBh.out.then_below R5.out)).mono ?_
            rintro e w6 ⟨rfl, b6⟩
            clear y4
            have R6 := hide (R5.out.then_below b6)
            have z6 : w4.heap.size + 1 ≤ w6.heap.size := by have := b6.size; simpa using this
            have X6 := hide ((b6.block w2.heap.size (by simp; omega)).trans X4'.out)
            have W6 := hide ((b6.block w4.heap.size (by simp)).trans X5.out)
            clear b6 X4' X5 R4 R5 qs1
            by_cases hr : 0 < C - A
            · have s1 : ¬ sgnQ (C - A) ≤ 0 := fun x => (sgn_le _).1 x hr
              have y5 : w6.cell? ⟨w4.heap.size, 0, none⟩ = some (.string (tB (B - D))) := by rw [cell_of_row w6 _ _ _ _ (0, 0) W6.out]; rfl
              generalize sgnQ (C - A) = s at s1 ⊢
              go_wp2_with fail
              refine (qs2.out w6 (hBh.out.then_below R6.out)).mono ?_
              rintro e w7 ⟨rfl, b7⟩
              clear y5
              have R7 := hide (R6.out.then_below b7)
              have z7 := b7.size
              have X7 := hide ((b7.block w2.heap.size (by omega)).trans X6.out)
              have W7 := hide ((b7.block w4.heap.size (by omega)).trans W6.out)
              clear b7 X6 W6 R6 qs2
              by_cases hc : 0 < B - D
              · have s2 : ¬ sgnQ (B - D) ≤ 0 := fun x => (sgn_le _).1 x hc
                have y4 : w7.cell? ⟨w2.heap.size, 0, none⟩ = some (.string (tB (C - A))) := by rw [cell_of_row w7 _ _ _ _ (0, 0) X7.out]; rfl
                have y5 : w7.cell? ⟨w4.heap.size, 0, none⟩ = some (.string (tB (B - D))) := by rw [cell_of_row w7 _ _ _ _ (0, 0) W7.out]; rfl
                generalize sgnQ (B - D) = s' at s2 ⊢
                have hne : B - D ≠ 0 := fun x => by rw [x] at hc; exact absurd hc (by decide)
                go_wp2_with fail
                refine (qo.out w7 (hBh.out.then_below R7.out) hne).mono ?_
                rintro e w8 ⟨rfl, b8⟩
                clear y4 y5
                have R8 := hide (R7.out.then_below b8)
                have z8 := b8.size
                have R9 := hide (R8.out.alloc (by omega) (.cells #[.string (tB ((C - A) / (B - D)))] 46))
                have y6 : (w8.alloc (.cells #[.string (tB ((C - A) / (B - D)))] 46)).cell? ⟨bL, 0, none⟩ = some (.string (tB m)) := by rw [cell_of_row _ _ _ _ _ (0, 0) (LK.out _ R9.out)]; rfl
                have X9 := hide (heap_alloc_new w8 (.cells #[.string (tB ((C - A) / (B - D)))] 46))
                clear b8 X7 W7 R7 qo hne
                go_wp2_with fail
                refine (qm.out _ (hBh.out.then_below R9.out)).mono ?_
                rintro e w10 ⟨rfl, b10⟩
                clear y6
                have R10 := hide (R9.out.then_below b10)
                have z10 : w8.heap.size + 1 ≤ w10.heap.size := by have := b10.size; simpa using this
                have X10 := hide ((b10.block w8.heap.size (by simp)).trans X9.out)
                have L10 := hide (LK.out w10 R10.out)
                clear b10 X9 R8 R9 qm
                by_cases hm : (C - A) / (B - D) < m
                · have s3 : cmpQ ((C - A) / (B - D)) m < 0 := (cmpQ_lt _ _).2 hm
                  have y7 : w10.cell? ⟨w8.heap.size, 0, none⟩ = some (.string (tB ((C - A) / (B - D)))) := by rw [cell_of_row w10 _ _ _ _ (0, 0) X10.out]; rfl
                  have y8 : w10.cell? ⟨bL, 0, none⟩ = some (.string (tB m)) := by rw [cell_of_row w10 _ _ _ _ (0, 0) L10.out]; rfl
                  have fz := fun j => frozen_of_row w10 bL j _ _ L10.out
                  have em : stepQ ⟨A, B, C, D⟩ m = (C - A) / (B - D) := by rw [stp.out, if_pos ⟨hr, hc, hm⟩]
                  have nx : Hid (PkAt w (w10.setCell ⟨bL, 0, none⟩ (.string (tB ((C - A) / (B - D))))) bL ps (k + 1)) := by
                    have h3 := m3'.out
                    have h2 := spos.out
                    rw [em] at h3 h2
                    exact ⟨_, mm.out, h2, h3, heap_setCell_same w10 bL 0 _ _ _ L10.out, (hBh.out.then_below R10.out).setCell (by omega) _⟩
                  generalize cmpQ ((C - A) / (B - D)) m = t at s3 ⊢
                  clear em m3' spos stp L10 X10 R10
                  go_wp2
                  go_roundw
                  case rel => exact ⟨k + 1, by omega, by go_num, nx⟩
                  case measure => simp [intOf]; omega
                · have s3 : ¬ cmpQ ((C - A) / (B - D)) m < 0 := fun x => hm ((cmpQ_lt _ _).1 x)
                  have nx : Hid (PkAt w w10 bL ps (k + 1)) := by
                    have h3 := m3'.out
                    have h2 := spos.out
                    have em : stepQ ⟨A, B, C, D⟩ m = m := by rw [stp.out, if_neg (fun x => hm x.2.2)]
                    rw [em] at h3 h2
                    exact ⟨_, m1.out, h2, h3, L10.out, hBh.out.then_below R10.out⟩
                  generalize cmpQ ((C - A) / (B - D)) m = t at s3 ⊢
                  clear m3' spos stp L10 X10 R10
                  go_wp2
                  go_roundw
                  case rel => exact ⟨k + 1, by omega, by go_num, nx⟩
                  case measure => simp [intOf]; omega
              · have s2 : sgnQ (B - D) ≤ 0 := (sgn_le _).2 hc
                have nx : Hid (PkAt w w7 bL ps (k + 1)) := by
                  have h3 := m3'.out
                  have h2 := spos.out
                  have em : stepQ ⟨A, B, C, D⟩ m = m := by rw [stp.out, if_neg (fun x => hc x.2.1)]
                  rw [em] at h3 h2
                  exact ⟨_, m1.out, h2, h3, LK.out w7 R7.out, hBh.out.then_below R7.out⟩
                generalize sgnQ (B - D) = s' at s2 ⊢
                clear m3' spos stp R7
                go_wp2
                go_roundw
                case rel => exact ⟨k + 1, by omega, by go_num, nx⟩
                case measure => simp [intOf]; omega
            · have s1 : sgnQ (C - A) ≤ 0 := (sgn_le _).2 hr
              have nx : Hid (PkAt w w6 bL ps (k + 1)) := by
                have h3 := m3'.out
                have h2 := spos.out
                have em : stepQ ⟨A, B, C, D⟩ m = m := by rw [stp.out, if_neg (fun x => hr x.1)]
                rw [em] at h3 h2
                exact ⟨_, m1.out, h2, h3, LK.out w6 R6.out, hBh.out.then_below R6.out⟩
              generalize sgnQ (C - A) = s at s1 ⊢
              clear m3' spos stp R6
              go_wp2
              go_roundw
              case rel => exact ⟨k + 1, by omega, by go_num, nx⟩
              case measure => simp [intOf]; omega
        · obtain rfl : n = k := by omega
          obtain ⟨m, m1, m2, m3, m4, hB⟩ := hL.out
          have y0 : wr.cell? ⟨bL, 0, none⟩ = some (.string (tB m)) := by rw [cell_of_row wr _ _ _ _ (0, 0) m4]; rfl
          have i2 : ¬ (n : Int) < n := by omega
          have fin : Hid (PickA ps (tB m) 0) := by
            rw [List.drop_of_length_le (by rw [hNh.out]; exact Nat.le_refl _)] at m3
            exact .inr ⟨allok.out, .inr ⟨rfl, m, m3, rfl⟩⟩
          replace hB := hide hB
          clear m3 m4 hL m1 m2
          generalize tB m = M at *
          go_wp2
          refine bodyPost_ret (v := .tuple #[.string M, .int .i64 0]) (by simp [results, Tryz.results4, go_sem]) rfl ?_
          exact ⟨⟨_, _, rfl, fin.out⟩, hB.out⟩
end Go.Proofs.YtlepicdpelkmlaaGreatDoor
