/-
  Package cnf: read.
-/
import Derived.Test.YtkdalejceclanaaRdProg
namespace Go.Proofs.Ytkdalejceclanaa
open Go.RowKit
set_option linter.unusedVariables false
theorem ws_piece {t : List UInt8} {n : Nat} {x : Nat × Nat} {r : List (Nat × Nat)} (h : RD.ws t n = x :: r) : RD.piece t x ≠ [] := by
  by_cases c : RD.skip t n < t.length
  · rw [RD.ws_cons c] at h
    obtain ⟨rfl, -⟩ := List.cons.inj h
    intro e
    have := piece_len (t := t) (Nat.le_of_lt (RD.we_gt c)) (RD.we_le t (Nat.le_of_lt c))
    rw [e] at this
    have h2 := RD.we_gt c
    simp at this
    omega
  · rw [RD.ws_nil c] at h
    cases h
theorem t3_set {W : World} {cb bx i : Nat} {a b c u : Value} (h : W.cell? ⟨cb, 0, none⟩ = some a ∧ W.cell? ⟨cb, 1, none⟩ = some b ∧ W.cell? ⟨cb, 2, none⟩ = some c) (ne : cb ≠ bx) :
    (W.setCell ⟨bx, i, none⟩ u).cell? ⟨cb, 0, none⟩ = some a ∧ (W.setCell ⟨bx, i, none⟩ u).cell? ⟨cb, 1, none⟩ = some b ∧ (W.setCell ⟨bx, i, none⟩ u).cell? ⟨cb, 2, none⟩ = some c := by
  have k : ∀ j, (W.setCell ⟨bx, i, none⟩ u).cell? ⟨cb, j, none⟩ = W.cell? ⟨cb, j, none⟩ := fun j => World.cell?_setCell_other W _ _ u (by intro e; cases e; exact ne rfl)
  rw [k, k, k]
  exact h
theorem t3_drew {W : World} {cb : Nat} {a b c : Value} (h : W.cell? ⟨cb, 0, none⟩ = some a ∧ W.cell? ⟨cb, 1, none⟩ = some b ∧ W.cell? ⟨cb, 2, none⟩ = some c) :
    W.drew.cell? ⟨cb, 0, none⟩ = some a ∧ W.drew.cell? ⟨cb, 1, none⟩ = some b ∧ W.drew.cell? ⟨cb, 2, none⟩ = some c := h
theorem own_ne_nil (v : Value) : v.ownBlock = none ∨ v.ownBlock ≠ nilS.ownBlock := by
  cases v.ownBlock with
  | none => exact .inl rfl
  | some k => exact .inr (by simp [Value.ownBlock])
theorem ppost_no3 {A : Ans} {g : Nat} {s : ByteArray} {w w' : World} {p n : Nat} {x : Int} {ya za : Option Addr} {yn yc zn zc : Nat} {x' y' z' : Value} (K : KG g w w') (R : RDR w' g s p n) (hg : g < w.heap.size) (h : A = (false, 0, [], [], p)) :
    PPost A g s w (.returned (.tuple #[.agg #[.int .i64 x, .slice ya yn yc, .slice za zn zc], .bool false])) (((w'.setCell ⟨w.heap.size, 0, none⟩ x').setCell ⟨w.heap.size, 1, none⟩ y').setCell ⟨w.heap.size, 2, none⟩ z') :=
  ppost_no (((K.setNew (Nat.le_refl _) _).setNew (Nat.le_refl _) _).setNew (Nat.le_refl _) _) h (((R.far (by omega) _).far (by omega) _).far (by omega) _) rfl
theorem ppost_yes3 {A : Ans} {g B : Nat} {s : ByteArray} {w w' : World} {vars : Nat} {cls : List (List Int)} {tops : List Int} {vc vt : Value} {vals : List Value} {x' y' z' : Value} (K : KG g w w') (h : A = (true, vars, cls, tops, 0)) (hB : w.heap.size < B) (hc : CV w' B vc vals cls) (ht : w'.ownsRow B 3 1 vt tops.length (rowI tops))
    (hn : ∀ i, i < cls.length → (vals.getD i nilS).ownBlock = none ∨ (vals.getD i nilS).ownBlock ≠ vt.ownBlock) :
    PPost A g s w (.returned (.tuple #[.agg #[.int .i64 (vars : Int), vc, vt], .bool true])) (((w'.setCell ⟨w.heap.size, 0, none⟩ x').setCell ⟨w.heap.size, 1, none⟩ y').setCell ⟨w.heap.size, 2, none⟩ z') :=
  ppost_yes (vals := vals) (((K.setNew (Nat.le_refl _) _).setNew (Nat.le_refl _) _).setNew (Nat.le_refl _) _) h ((((hc.set hB).set hB).set hB).low (Nat.le_of_lt hB))
    (row_low (ownsRow_setCell_below (ownsRow_setCell_below (ownsRow_setCell_below ht (a := ⟨w.heap.size, 0, none⟩) hB _) (a := ⟨w.heap.size, 1, none⟩) hB _) (a := ⟨w.heap.size, 2, none⟩) hB _) (Nat.le_of_lt hB)) hn rfl
set_option maxRecDepth 100000 in
set_option maxHeartbeats 16000000 in
theorem pread_calls (w : World) (g : Nat) (s : ByteArray) (t : List UInt8) (a : Nat) (hs : s.data.toList = t) (R : RDR w g s a 0) (hl : t.length ≤ 1048576) :
    Calls Try.prog 52 #[.pointer (some ⟨g, 0, none⟩)] w fun e w' => PPost (RD.wholeW t (RD.valAt t (RD.ws t 0) 2) (min (RD.val (wordAt t ((RD.ws t 0).drop 3))) RD.top)) g s w e w' := by
  obtain ⟨i1, ki, kz0, kz1, kz2⟩ := rinfo_parts rInfoInts
  have hglt := R.lt
  have LB := ws_len t 0
  obtain ⟨A, hA⟩ : ∃ A, RD.wholeW t (RD.valAt t (RD.ws t 0) 2) (min (RD.val (wordAt t ((RD.ws t 0).drop 3))) RD.top) = A := ⟨_, rfl⟩
  rw [hA]
  obtain ⟨RR, hR⟩ : ∃ RR, RD.bodyW t (RD.valAt t (RD.ws t 0) 2) (min (RD.val (wordAt t ((RD.ws t 0).drop 3))) RD.top) ((RD.ws t 0).drop 4) = RR := ⟨_, rfl⟩
  have HH : Hid (∀ n, n < 4 → (∀ j, j < n → RD.okAt t (RD.ws t 0) j = true) → RD.okAt t (RD.ws t 0) n = false → A = (false, 0, [], [], RD.headAt t ((RD.ws t 0).drop n))) := fun n hn h1 h2 => by rw [← hA]; exact RD.whole_head (RD.headNo_at hn h1 h2) hn
  have HY : Hid ((∀ j, j < 4 → RD.okAt t (RD.ws t 0) j = true) → RR.1 = true → A = (true, RD.valAt t (RD.ws t 0) 2, RR.2.1, RR.2.2.1, 0)) := fun h1 h2 => by rw [← hA, ← hR]; exact RD.whole_yes (RD.headNo_all h1) (by rw [hR]; exact h2)
  have HN : Hid ((∀ j, j < 4 → RD.okAt t (RD.ws t 0) j = true) → RR.1 = false → A = (false, 0, [], [], RD.headAt t RR.2.2.2)) := fun h1 h2 => by rw [← hA, ← hR]; exact RD.whole_no (RD.headNo_all h1) (by rw [hR]; exact h2)
  have HRR := hide hR
  obtain ⟨L, hL⟩ : ∃ L, RD.ws t 0 = L := ⟨_, rfl⟩
  rw [hL] at HH HY HN HRR LB
  clear hA hR
  have WS := hide (fun (W : World) (a n : Nat) (l : List (Nat × Nat)) (R : RDR W g s a n) (hn : n ≤ t.length) (hw : RD.ws t n = l) => word_step W g s t a n l hs R (by omega) hn hw)
  have hw0 := hide hL
  have LW := hide (fun l => Nat.le_trans (wordAt_len t l) (Nat.le_trans hl (by decide : 1048576 ≤ 140737488355328)))
  have HS := hide hs
  clear hs hL
  have D0 := hide (B3.new w (.int .i64 0) (.slice none 0 0) (.slice none 0 0))
  have R0 := hide (R.keep ((Below.refl _ _).alloc (Nat.le_refl _) (.cells #[.int .i64 0, .slice none 0 0, .slice none 0 0] 25)))
  have K0 := hide ((KG.refl g w).alloc (.cells #[.int .i64 0, .slice none 0 0, .slice none 0 0] 25))
  have hn0 : Hid (0 ≤ t.length) := Nat.zero_le _
  have gx : w.heap.size ≠ g := by omega
  go_enter Try.func52, Try.ntmps52
  go_upto_region 1 with fail
  clear R
  generalize w.alloc (.cells #[.int .i64 0, .slice none 0 0, .slice none 0 0] 25) = w0 at *
  obtain ⟨vars, hvars⟩ : ∃ n, RD.valAt t L 2 = n := ⟨_, rfl⟩
  rw [hvars] at HY HRR
  rw [valW2] at hvars
  replace hvars := hide hvars
  by_cases o0 : RD.okAt t L 0 = true
  · have p0 : wordAt t L = [112] := by rw [okW0] at o0; exact of_decide_eq_true o0
    have OK1 := hide (ok_next (t := t) (L := L) (k := 0) (fun j hj => absurd hj (Nat.not_lt_zero _)) o0)
    by_cases o1 : RD.okAt t L 1 = true
    · have p1 : wordAt t (L.drop 1) = [99, 110, 102] := by rw [okW1] at o1; exact of_decide_eq_true o1
      have OK2 := hide (ok_next OK1.out o1)
      have pp := hide (And.intro p0 p1)
      clear o0 o1 p0 p1 OK1
      go_upto_region 3 with (first
        | (go_at_call 78; have y := R1; clear y; refine (WS.out w1 _ _ _ R1.out hn1.out hw1.out).mono ?_; intro e w2 hp; obtain ⟨u1, n2, rfl, hu1, hnx, RX, hwx, KX⟩ := hp; rw [List.tail_drop] at hwx; have hn2 := hide hnx; have R2 := hide RX; have hw2 := hide hwx; have D2 := hide (D1.out.kg KX gx); have K2 := hide (K1.out.trans KX); clear hnx RX hwx KX; rw [pp.out.2] at hu1; obtain rfl := sis hu1; clear hu1)
        | (go_at_call 78; refine (WS.out w0 _ _ _ R0.out hn0.out hw0.out).mono ?_; intro e w1 hp; obtain ⟨u0, n1, rfl, hu0, hnx, RX, hwx, KX⟩ := hp; rw [← List.drop_one] at hwx; have hn1 := hide hnx; have R1 := hide RX; have hw1 := hide hwx; have D1 := hide (D0.out.kg KX gx); have K1 := hide (K0.out.trans KX); clear hnx RX hwx KX; rw [pp.out.1] at hu0; obtain rfl := sis hu0; clear hu0))
      clear R0 R1 hn0 hn1 hw0 hw1 D0 D1 K0 K1 pp
      obtain ⟨lw, hlw⟩ : ∃ l, wordAt t (L.drop 2) = l := ⟨_, rfl⟩
      have o2w := okW2 t L
      rw [hlw] at o2w hvars
      have lwl := LW.out (L.drop 2)
      rw [hlw] at lwl
      have hlw' := hide hlw
      clear hlw
      by_cases o2 : RD.okAt t L 2 = true
      · have OK3 := hide (ok_next OK2.out o2)
        rw [o2w] at o2
        simp only [Bool.and_eq_true, decide_eq_true_eq] at o2
        have hvb : vars ≤ 1000000 := by rw [← hvars.out]; exact o2.2
        have nv : Hid (numV lw = .tuple #[.int .i64 (vars : Int), .bool true]) := by
          show _ = _
          rw [numV_yes o2.1, hvars.out, Nat.min_eq_left (by unfold RD.top; omega)]
        have t1 : decide ((1000000 : Int) < (vars : Int)) = false := decide_eq_false (by omega)
        have t1' : decide (1000000 < vars) = false := decide_eq_false (by omega)
        have t1n : ¬ 1000000 < vars := by omega
        clear o2w o2 OK2 hvars
        go_upto_region 4 with (first
          | (go_at_call 78; refine (WS.out w2 _ _ _ R2.out hn2.out hw2.out).mono ?_; intro e w3 hp; obtain ⟨u2, n3, rfl, hu2, hnx, RX, hwx, KX⟩ := hp; rw [List.tail_drop] at hwx; have hn3 := hide hnx; have R3 := hide RX; have hw3 := hide hwx; have D3 := hide (D2.out.kg KX gx); have K3 := hide (K2.out.trans KX); clear hnx RX hwx KX; rw [hlw'.out] at hu2; replace hu2 := hide hu2)
          | (go_at_call 79; refine (number_calls _ _ lw hu2.out lwl).mono ?_; rw [nv.out]; rintro e wn ⟨rfl, hwn⟩; subst wn))
        clear nv hu2 lwl hlw'
        go_upto_region 6 with fail
        clear R2 hn2 hw2 D2 K2 t1 t1' t1n
        obtain ⟨l3, hl3⟩ : ∃ l, wordAt t (L.drop 3) = l := ⟨_, rfl⟩
        have o3w := okW3 t L
        rw [hl3] at o3w HRR
        have l3l := LW.out (L.drop 3)
        rw [hl3] at l3l
        have hl3' := hide hl3
        clear hl3
        by_cases o3 : RD.okAt t L 3 = true
        · have OK4 := hide (ok_next OK3.out o3)
          rw [o3w] at o3
          have nv := numV_yes o3
          have hct := min_top (RD.val l3)
          obtain ⟨ct, hct'⟩ : ∃ c, min (RD.val l3) RD.top = c := ⟨_, rfl⟩
          rw [hct'] at nv HRR hct
          replace nv := hide nv
          clear o3w o3 OK3 hct'
          go_upto_region 7 with (first
            | (go_at_call 78; refine (WS.out w3 _ _ _ R3.out hn3.out hw3.out).mono ?_; intro e w4 hp; obtain ⟨u3, n4, rfl, hu3, hnx, RX, hwx, KX⟩ := hp; rw [List.tail_drop] at hwx; have hn4 := hide hnx; have R4 := hide RX; have hw4 := hide hwx; have D4 := hide (D3.out.kg KX gx); have K4 := hide (K3.out.trans KX); clear hnx RX hwx KX; rw [hl3'.out] at hu3; replace hu3 := hide hu3)
            | (go_at_call 79; refine (number_calls _ _ l3 hu3.out l3l).mono ?_; rw [nv.out]; rintro e wn ⟨rfl, hwn⟩; subst wn))
          clear nv hu3 l3l hl3' R3 hn3 hw3 D3 K3
          go_upto_region 10 with fail
          have OKA := OK4.out
          have HYc := hide (HY.out (fun j hj => OKA j (by omega)))
          have HNc := hide (HN.out (fun j hj => OKA j (by omega)))
          obtain ⟨C, hC⟩ : ∃ C, RD.clsW (RD.PW t vars) ct (L.drop 4) = C := ⟨_, rfl⟩
          have RN : Hid (C.1 = false → RR.1 = false ∧ RR.2.2.2 = C.2.2) := fun h => by rw [← HRR.out, ← hC]; exact RD.bodyW_no (by rw [hC]; exact h)
          have RY : Hid (∀ cs l, C = (true, cs, l) → RR = ((RD.tailW t (PL t vars) l).1, cs, (RD.tailW t (PL t vars) l).2.1, (RD.tailW t (PL t vars) l).2.2)) := fun cs l h => by rw [← HRR.out]; exact RD.bodyW_yes (by rw [hC]; exact h)
          have hw4' : RD.ws t n4 = L.drop 4 := hw4.out
          have I0 : Hid (RD.restW (PL t vars) C [] (ct - 0) (RD.ws t n4)) := by show RD.restW _ _ _ _ _; rw [← hC, hw4']; exact RD.restW_start _ _ _
          have J0 : Hid (([] : List (List Int)).length + (RD.ws t n4).length ≤ t.length + 1) := by show _ + _ ≤ _; have := ws_len t n4; simpa using this
          have cx := D4.out.lt
          have D5 := hide (D4.out.keep ((Below.refl _ _).alloc (Nat.le_refl _) (.cells #[.int .i64 (vars : Int), .slice none 0 0, .slice none 0 0] 25)))
          have N5 := hide (B3.new w4 (.int .i64 (vars : Int)) (.slice none 0 0) (.slice none 0 0))
          have R5 := hide (R4.out.keep ((Below.refl _ _).alloc (Nat.le_refl _) (.cells #[.int .i64 (vars : Int), .slice none 0 0, .slice none 0 0] 25)))
          have K5 := hide (K4.out.alloc (.cells #[.int .i64 (vars : Int), .slice none 0 0, .slice none 0 0] 25))
          clear OKA OK4 HY HN HH HRR hC hw4 hw4' D4 R4 K4
          generalize w4.alloc (.cells #[.int .i64 (vars : Int), .slice none 0 0, .slice none 0 0] 25) = w5 at *
          generalize w4.heap.size = cb at *
          have cg : cb ≠ g := by omega
          have gc : g ≠ cb := by omega
          have C5 := hide (CV.nil w5 (cb + 1))
          go_wp2_with fail
          go_loopw [44] (fun x wr => ∃ (k n b : Nat) (cs : List (List Int)) (vals : List Value) (vc : Value), x = .int .i64 (k : Int) ∧ k ≤ ct ∧ n ≤ t.length ∧ Hid (RDR wr g s b n) ∧ Hid (KG g w wr) ∧ Hid (B3 wr w.heap.size (.int .i64 0) (.slice none 0 0) (.slice none 0 0)) ∧ Hid (B3 wr cb (.int .i64 (vars : Int)) vc (.slice none 0 0)) ∧ Hid (CV wr (cb + 1) vc vals cs) ∧ Hid (RD.restW (PL t vars) C cs (ct - k) (RD.ws t n)) ∧ Hid (cs.length + (RD.ws t n).length ≤ t.length + 1)) (fun _ wr => (RD.ws t (nxt wr g)).length)
          case atStart => exact ⟨0, n4, _, [], [], .slice none 0 0, rfl, Nat.zero_le _, hn4.out, R5, K5, D5, N5, C5, I0, J0⟩
          case round =>
            clear I0 J0 R5 K5 D5 N5 C5 hn4
            obtain ⟨k, n, b, cs, vals, vc, rfl, hk, hn, RRR, KK, DD, NN, CC, RS, JJ⟩ := hrel
            by_cases hkc : k < ct
            · have tk : decide (k < ct) = true := decide_eq_true hkc
              have tk' : (k : Int) < (ct : Int) := by omega
              have hnx := hide (nxt_eq RRR.out)
              have lq := hide (lits_calls wr g s t b n vars HS.out RRR.out hl hn hvb)
              obtain ⟨R1, hR1⟩ : ∃ R1, RD.litsW (PL t vars) (RD.ws t n) = R1 := ⟨_, rfl⟩
              have ll := RD.litsW_len (PL t vars) (RD.ws t n)
              have lb := RD.litsW_bd (PL t vars) (RD.ws t n)
              rw [hR1] at lq ll lb
              have RS2 := RS.out
              rw [show ct - k = (ct - (k + 1)) + 1 by omega] at RS2
              cases hb : R1.1
              · have RF := RD.restW_no RS2 (by rw [hR1]; exact hb)
                rw [hR1] at RF
                obtain ⟨e1, e2⟩ := RN.out RF.1
                have EA0 := HNc.out e1
                rw [e2, RF.2] at EA0
                have EA := hide EA0
                clear RS RS2 RF e1 e2 hR1 EA0 RN RY HYc HNc ll lb hnx
                go_wp2_with (go_at_call 80; refine lq.out.mono ?_; intro e w6 hp; obtain ⟨a6, n6, v6, hn6, R6, K6, rfl, -, hf⟩ := hp; obtain ⟨rfl, rfl⟩ := hf hb; clear hf; rw [hb]; have D6 := DD.out.kg K6 gx; obtain ⟨d0, d1, d2, z0, z1, z2⟩ := D6.cells; have K7 := hide (KK.out.trans K6); replace R6 := hide R6; clear K6 D6)
                exact bodyPost_ret (v := .tuple #[.agg #[.int .i64 0, .slice none 0 0, .slice none 0 0], .bool false]) (by simp [results, Try.results52, go_sem, d0, d1, d2]) rfl (ppost_no3 K7.out R6.out hglt EA.out)
              · have RT := RD.restW_step RS2 (by rw [hR1]; exact hb)
                rw [hR1] at RT
                have l1 := ll.2 hb
                have JJ2 : Hid ((cs ++ [R1.2.1]).length + R1.2.2.length ≤ t.length + 1) := by have := JJ.out; show _ ≤ _; rw [List.length_append, List.length_singleton]; omega
                have l1h := hide l1
                have lbh : Hid (R1.2.1.length ≤ 1048577 ∧ cs.length ≤ 1048577) := by have := JJ.out; have := ws_len t n; exact ⟨by omega, by omega⟩
                replace RT := hide RT
                clear RS RS2 hR1 ll lb l1 JJ RN RY HYc HNc
                go_upto_region 15 with (go_at_call 80; refine lq.out.mono ?_; intro e w6 hp; obtain ⟨a6, n6, v6, hn6, R6, K6, rfl, hy, -⟩ := hp; obtain ⟨O6, hw6⟩ := hy hb; clear hy; rw [hb]; replace O6 := hide O6; replace R6 := hide R6; replace K6 := hide K6)
                rw [← hw6] at RT JJ2 l1h
                obtain ⟨av, kv, rfl⟩ := row_slice O6.out
                have D6 := hide (DD.out.kg K6.out gx)
                have N6 := hide (NN.out.kg K6.out cg)
                have C6 := hide (CC.out.kg K6.out (by omega))
                obtain ⟨d0, d1, d2, z0, z1, z2⟩ := N6.out.cells
                obtain ⟨ac, kc, rfl⟩ := C6.out.slice
                have OA := hide (World.ownsRow.alloc C6.out.2.1 (.cells #[.slice av R1.2.1.length kv] 23))
                have CA := hide (rcell_one w6 (.slice av R1.2.1.length kv) 23)
                have szw := hide (And.intro lbh.out.2 (And.intro N6.out.lt (And.intro NN.out.lt K6.out.size)))
                have AL := hide ((Below.refl w6.heap.size w6).alloc (Nat.le_refl _) (.cells #[.slice av R1.2.1.length kv] 23))
                have R7 := hide (R6.out.keep AL.out)
                have K7 := hide ((KK.out.trans K6.out).alloc (.cells #[.slice av R1.2.1.length kv] 23))
                have D7 := hide (D6.out.keep AL.out)
                have N7 := hide (N6.out.keep AL.out)
                clear lq R6 D6 hw6
                go_upto_region 16 with (at_builtin; (refine wpList_append_own _ rfl _ _ 22 rfl (cb + 1) 23 i1 (.slice none 0 0) 1 24 rSliceInts ki kz0 kz1 kz2 rfl (by decide) _ _ _ rfl OA.out ⟨w6.heap.size, 0, none⟩ 1 1 [.slice av R1.2.1.length kv] rfl rfl CA.out (by simp [Value.oneCell']) (by have ⟨q1, q2, q3, q4⟩ := szw.out; unfold maxLen; omega) (by have ⟨q1, q2, q3, q4⟩ := szw.out; omega) (by have ⟨q1, q2, q3, q4⟩ := szw.out; simp; omega) ?_; intro v8 w8 hown8 hgrow8 _; obtain ⟨a8, k8, rfl⟩ := row_slice hown8; have N8 := N7.out.grown OA.out (by omega) hgrow8; obtain ⟨f0, f1, f2, y0, y1, y2⟩ := N8.cells; replace hown8 := hide hown8; replace hgrow8 := hide hgrow8; replace N8 := hide N8))
                have sz2 := szw.out
                have R9 := hide ((R7.out.grown OA.out (by omega) hgrow8.out).far (h := cb) (i := 1) gc (.slice a8 (cs.length + 1) k8))
                have K9 := hide ((K7.out.grown OA.out (by omega) hgrow8.out).setNew (h := cb) (i := 1) (Nat.le_of_lt cx) (.slice a8 (cs.length + 1) k8))
                have D9 := hide ((D7.out.grown OA.out (by omega) hgrow8.out).far (k := cb) (i := 1) (by omega) (.slice a8 (cs.length + 1) k8))
                have N9 := hide (N8.out.set1 (.slice a8 (cs.length + 1) k8))
                have C9 := hide ((CC.out.push (b0 := wr.heap.size) (Nat.le_refl _) C6.out (by omega) O6.out hown8.out hgrow8.out).set (g := cb) (i := 1) (u := .slice a8 (cs.length + 1) k8) (by omega))
                clear d0 d1 d2 z0 z1 z2 f0 f1 f2 y0 y1 y2 hown8 hgrow8 OA CA R7 K7 D7 N7 N8 C6 O6 N6 AL
                go_wp2_with fail
                go_roundw
                case rel => exact ⟨k + 1, n6, a6, cs ++ [R1.2.1], vals ++ [.slice av R1.2.1.length kv], _, by go_num, by omega, hn6, R9, K9, D9, N9, C9, RT, JJ2⟩
                case measure => rw [nxt_eq R9.out, hnx.out]; exact l1h.out
            · obtain rfl : k = ct := by omega
              have tk : decide (k < k) = false := decide_eq_false (Nat.lt_irrefl _)
              have tk' : ¬ (k : Int) < (k : Int) := by omega
              have RS2 := RS.out
              rw [Nat.sub_self] at RS2
              have RY2 := RY.out _ _ (RD.restW_end RS2)
              clear RS RS2 RN RY hkc hk
              obtain ⟨l, hlq⟩ : ∃ l, RD.ws t n = l := ⟨_, rfl⟩
              have wq := hide (WS.out wr b n l RRR.out hn hlq)
              rw [hlq] at RY2
              have WPC := hide (fun x r h => ws_piece (t := t) (n := n) (x := x) (r := r) (hlq.trans h))
              clear hlq JJ
              obtain ⟨ac, kc, rfl⟩ := CC.out.slice
              cases l with
              | nil =>
                rw [tail_nil] at RY2
                have EA := hide (HYc.out (by rw [RY2]))
                rw [RY2] at EA
                clear RY2 HYc HNc WPC
                go_wp2_with (go_at_call 78; refine wq.out.mono ?_; intro e w6 hp; obtain ⟨u6, n6, rfl, hu6, hn6, R6, hw6, K6⟩ := hp; obtain rfl := sis hu6; have D6 := DD.out.kg K6 gx; obtain ⟨d0, d1, d2, z0, z1, z2⟩ := D6.cells; have N6 := NN.out.kg K6 cg; obtain ⟨f0, f1, f2, y0, y1, y2⟩ := N6.cells; have C6 := hide (CC.out.kg K6 (by omega)); have K7 := hide (KK.out.trans K6); clear D6 N6 hu6 R6 hw6 K6)
                exact bodyPost_ret (v := .tuple #[.agg #[.int .i64 (vars : Int), .slice ac cs.length kc, .slice none 0 0], .bool true]) (by simp [results, Try.results52, go_sem, d0, d1, d2]) rfl (ppost_yes3 (B := cb + 1) (vals := vals) K7.out EA.out (by omega) C6.out ⟨rfl, .inl ⟨rfl, rfl⟩⟩ (fun i _ => own_ne_nil _))
              | cons x r =>
                have hpx := WPC.out x r rfl
                by_cases h97 : RD.piece t x = [97]
                · have lqq := hide (fun W a n (R : RDR W g s a n) (h : n ≤ t.length) => lits_calls W g s t a n vars HS.out R hl h hvb)
                  obtain ⟨R1, hR1⟩ : ∃ R1, RD.litsW (PL t vars) r = R1 := ⟨_, rfl⟩
                  have p97 := hide h97
                  have hR1' := hide hR1
                  have lbT := RD.litsW_bd (PL t vars) r
                  rw [hR1] at lbT
                  cases hb : R1.1
                  · have RF := tail_no h97 (r := r) (P := PL t vars) (by rw [hR1]; exact hb)
                    rw [hR1] at RF
                    rw [RF] at RY2
                    have EA := hide (HNc.out (by rw [RY2]))
                    rw [RY2] at EA
                    clear RF RY2 hR1 h97 hpx HYc HNc WPC
                    go_upto_region 22 with (first
                      | (go_at_call 78; refine wq.out.mono ?_; intro e w6 hp; obtain ⟨u6, n6, rfl, hu6, hn6, R6, hw6, K6⟩ := hp; rw [show wordAt t (x :: r) = [97] from p97.out] at hu6; obtain rfl := sis hu6; replace hn6 := hide hn6; replace hw6 : Hid (RD.ws t n6 = r) := hw6; have D6 := hide (DD.out.kg K6 gx); have N6 := hide (NN.out.kg K6 cg); have C6 := hide (CC.out.kg K6 (by omega)); have K7 := hide (KK.out.trans K6); replace R6 := hide R6; clear hu6 K6)
                      | (go_at_call 80; refine (lqq.out w6 _ _ R6.out hn6.out).mono ?_; rw [hw6.out, hR1'.out]; intro e w7 hp; obtain ⟨a7, n7, v7, hn7, R7, K8, rfl, -, hf⟩ := hp; obtain ⟨rfl, rfl⟩ := hf hb; clear hf; rw [hb]; have D7 := hide (D6.out.kg K8 gx); have N7 := N6.out.kg K8 cg; obtain ⟨f0, f1, f2, y0, y1, y2⟩ := N7.cells; have C7 := hide (C6.out.kg K8 (by omega)); have K9 := hide (K7.out.trans K8); replace R7 := hide R7; replace N7 := hide N7; clear K8))
                    have D10 := hide (D7.out.far (k := cb) (i := 2) (by omega) (.slice none 0 0))
                    have N10 := hide (N7.out.set2 (.slice none 0 0))
                    have R10 := hide (R7.out.far (h := cb) (i := 2) gc (.slice none 0 0))
                    have K10 := hide (K9.out.setNew (h := cb) (i := 2) (Nat.le_of_lt cx) (.slice none 0 0))
                    clear f0 f1 f2 y0 y1 y2 D6 N6 C6 K7 R6 D7 N7 C7 R7 K9 wq lqq
                    generalize w7.setCell ⟨cb, 2, none⟩ (.slice none 0 0) = w8 at *
                    obtain ⟨d0, d1, d2, z0, z1, z2⟩ := D10.out.cells
                    obtain ⟨f0, f1, f2, y0, y1, y2⟩ := N10.out.cells
                    go_region
                    all_goals go_wp2_with fail
                    all_goals exact bodyPost_ret (v := .tuple #[.agg #[.int .i64 (vars : Int), .slice ac cs.length kc, .slice none 0 0], .bool false]) (by simp [results, Try.results52, go_sem, d0, d1, d2]) rfl (ppost_no3 (K10.out.drewN 1) (R10.out.drewN 1) hglt EA.out)
                  · have RF := tail_yes h97 (r := r) (P := PL t vars) (by rw [hR1]; exact hb)
                    rw [hR1] at RF
                    rw [RF] at RY2
                    have RYh := hide RY2
                    clear RF RY2 hR1 h97 hpx WPC
                    go_upto_region 22 with (first
                      | (go_at_call 78; refine wq.out.mono ?_; intro e w6 hp; obtain ⟨u6, n6, rfl, hu6, hn6, R6, hw6, K6⟩ := hp; rw [show wordAt t (x :: r) = [97] from p97.out] at hu6; obtain rfl := sis hu6; replace hn6 := hide hn6; replace hw6 : Hid (RD.ws t n6 = r) := hw6; have D6 := hide (DD.out.kg K6 gx); have N6 := hide (NN.out.kg K6 cg); have C6 := hide (CC.out.kg K6 (by omega)); have K7 := hide (KK.out.trans K6); replace R6 := hide R6; clear hu6 K6)
                      | (go_at_call 80; refine (lqq.out w6 _ _ R6.out hn6.out).mono ?_; rw [hw6.out, hR1'.out]; intro e w7 hp; obtain ⟨a7, n7, v7, hn7, R7, K8, rfl, hy, -⟩ := hp; obtain ⟨O7, hw7⟩ := hy hb; clear hy; rw [hb]; obtain ⟨av, kv, rfl⟩ := row_slice O7; replace O7 := hide O7; replace hw7 := hide hw7; replace hn7 := hide hn7; have D7 := hide (D6.out.kg K8 gx); have N7 := N6.out.kg K8 cg; obtain ⟨f0, f1, f2, y0, y1, y2⟩ := N7.cells; have C7 := hide (C6.out.kg K8 (by omega)); have K9 := hide (K7.out.trans K8); replace R7 := hide R7; replace N7 := hide N7; clear K8))
                    have sz6 := hide (And.intro N6.out.lt C6.out.2.2.1)
                    have D10 := hide (D7.out.far (k := cb) (i := 2) (by omega) (.slice av R1.2.1.length kv))
                    have N10 := hide (N7.out.set2 (.slice av R1.2.1.length kv))
                    have R10 := hide (R7.out.far (h := cb) (i := 2) gc (.slice av R1.2.1.length kv))
                    have K10 := hide (K9.out.setNew (h := cb) (i := 2) (Nat.le_of_lt cx) (.slice av R1.2.1.length kv))
                    have C10 := hide (C7.out.set (g := cb) (i := 2) (u := .slice av R1.2.1.length kv) (by omega))
                    have O10 := hide (ownsRow_setCell_below (a := ⟨cb, 2, none⟩) O7.out (by show cb < w6.heap.size; exact sz6.out.1) (.slice av R1.2.1.length kv))
                    have NE : Hid (∀ i, i < cs.length → (vals.getD i nilS).ownBlock = none ∨ (vals.getD i nilS).ownBlock ≠ (Value.slice av R1.2.1.length kv).ownBlock) := by
                      intro i hi
                      cases e : (vals.getD i nilS).ownBlock with
                      | none => exact .inl rfl
                      | some k =>
                        refine .inr (fun c' => ?_)
                        have a := ((sz6.out.2 i hi).lt k e).2
                        have b := (O7.out.lt k c'.symm).1
                        omega
                    clear f0 f1 f2 y0 y1 y2 D6 N6 C6 K7 R6 D7 N7 C7 R7 K9 wq lqq O7
                    generalize w7.setCell ⟨cb, 2, none⟩ (.slice av R1.2.1.length kv) = w8 at *
                    obtain ⟨d0, d1, d2, z0, z1, z2⟩ := D10.out.cells
                    obtain ⟨f0, f1, f2, y0, y1, y2⟩ := N10.out.cells
                    have S0 : Hid (w8.cell? ⟨cb, 0, none⟩ = some (.int .i64 (vars : Int)) ∧ w8.cell? ⟨cb, 1, none⟩ = some (.slice ac cs.length kc) ∧ w8.cell? ⟨cb, 2, none⟩ = some (.slice av R1.2.1.length kv)) := ⟨f0, f1, f2⟩
                    have S1 : Hid (∀ W, KG g w8.drew W → W.cell? ⟨cb, 0, none⟩ = some (.int .i64 (vars : Int)) ∧ W.cell? ⟨cb, 1, none⟩ = some (.slice ac cs.length kc) ∧ W.cell? ⟨cb, 2, none⟩ = some (.slice av R1.2.1.length kv)) := fun W q => by
                      have N11 : B3 w8.drew cb (.int .i64 (vars : Int)) (.slice ac cs.length kc) (.slice av R1.2.1.length kv) := N10.out
                      have := (N11.kg q cg).cells
                      exact ⟨this.1, this.2.1, this.2.2.1⟩
                    have ncb : cb ≠ w.heap.size := by omega
                    have R11 : Hid (RDR w8.drew g s a7 n7) := R10.out
                    have wq := hide (WS.out w8.drew _ _ _ R11.out hn7.out hw7.out)
                    have D11 : Hid (B3 w8.drew w.heap.size (.int .i64 0) (.slice none 0 0) (.slice none 0 0)) := D10.out
                    have K11 : Hid (KG g w w8.drew) := K10.out.drewN 1
                    have C11 : Hid (CV w8.drew (cb + 1) (.slice ac cs.length kc) vals cs) := C10.out
                    have O11 : Hid (w8.drew.ownsRow w6.heap.size 3 1 (.slice av R1.2.1.length kv) R1.2.1.length (rowI R1.2.1)) := O10.out
                    have cb6 := sz6.out.1
                    clear f0 f1 f2 y0 y1 y2 d0 d1 d2 z0 z1 z2 sz6 N10 R10 K10 C10 O10 D10
                    by_cases hend : R1.2.2 = []
                    · have EA := hide (HYc.out (by rw [RYh.out]; exact decide_eq_true hend))
                      rw [RYh.out] at EA
                      rw [hend] at wq
                      clear hend RYh HYc HNc
                      go_region_held3 (fun W => W.cell? ⟨cb, 0, none⟩ = some (.int .i64 (vars : Int)) ∧ W.cell? ⟨cb, 1, none⟩ = some (.slice ac cs.length kc) ∧ W.cell? ⟨cb, 2, none⟩ = some (.slice av R1.2.1.length kv))
                        ((repeat (first
                          | with_reducible exact S0.out
                          | with_reducible exact S1.out _ K12.out
                          | with_reducible refine t3_set ?_ ncb
                          | with_reducible refine t3_drew ?_)))
                        ((go_at_call 78; refine wq.out.mono ?_; intro e w9 hp; obtain ⟨u9, n9, rfl, hu9, hn9, R12, hw9, K12⟩ := hp; replace hu9 : u9.data.toList = [] := hu9; obtain rfl := sis hu9; have D12 := D11.out.kg K12 gx; obtain ⟨d0, d1, d2, z0, z1, z2⟩ := D12.cells; replace K12 := hide K12; replace R12 := hide R12; clear D12 hu9))
                      all_goals go_wp2_with fail
                      all_goals exact bodyPost_ret (v := .tuple #[.agg #[.int .i64 (vars : Int), .slice ac cs.length kc, .slice av R1.2.1.length kv], .bool true]) (by simp [results, Try.results52, go_sem, d0, d1, d2]) rfl (ppost_yes3 (B := cb + 1) (vals := vals) (K11.out.trans K12.out) EA.out (by omega) (C11.out.kg K12.out (by omega)) (row_low (K12.out.row O11.out (by omega)) (by omega)) NE.out)
                    · have EA := hide (HNc.out (by rw [RYh.out]; exact decide_eq_false hend))
                      rw [RYh.out] at EA
                      obtain ⟨y9, r9, hyr⟩ : ∃ y r', R1.2.2 = y :: r' := by
                        cases e : R1.2.2 with
                        | nil => exact absurd e hend
                        | cons y r' => exact ⟨y, r', rfl⟩
                      have hpy : Hid (RD.piece t y9 ≠ []) := ws_piece (n := n7) (by rw [hw7.out, hyr])
                      rw [hyr] at wq EA
                      clear hend RYh HYc HNc hyr
                      go_region_held3 (fun W => W.cell? ⟨cb, 0, none⟩ = some (.int .i64 (vars : Int)) ∧ W.cell? ⟨cb, 1, none⟩ = some (.slice ac cs.length kc) ∧ W.cell? ⟨cb, 2, none⟩ = some (.slice av R1.2.1.length kv))
                        ((repeat (first
                          | with_reducible exact S0.out
                          | with_reducible exact S1.out _ K12.out
                          | with_reducible refine t3_set ?_ ncb
                          | with_reducible refine t3_drew ?_)))
                        ((go_at_call 78; refine wq.out.mono ?_; intro e w9 hp; obtain ⟨u9, n9, rfl, hu9, hn9, R12, hw9, K12⟩ := hp; replace hu9 : u9.data.toList = RD.piece t y9 := hu9; obtain ⟨g1, g2, g3, g4, g5⟩ := sno hu9 hpy.out; have hus : u9.size ≠ 0 := (fun c => hpy.out (by rw [← hu9]; exact List.eq_nil_of_length_eq_zero (by rw [← size_of u9 _ rfl]; exact c))); obtain ⟨e6, e7⟩ := sempty hus; have D12 := D11.out.kg K12 gx; obtain ⟨d0, d1, d2, z0, z1, z2⟩ := D12.cells; replace K12 := hide K12; replace R12 := hide R12; clear D12 hu9 hus))
                      all_goals go_wp2_with fail
                      all_goals exact bodyPost_ret (v := .tuple #[.agg #[.int .i64 (vars : Int), .slice ac cs.length kc, .slice av R1.2.1.length kv], .bool false]) (by simp [results, Try.results52, go_sem, d0, d1, d2]) rfl (ppost_no3 (K11.out.trans K12.out) R12.out hglt EA.out)
                · have RF := tail_not h97 (r := r) (P := PL t vars)
                  rw [RF] at RY2
                  have EA := hide (HNc.out (by rw [RY2]))
                  rw [RY2] at EA
                  have hnn := hide (And.intro h97 hpx)
                  clear RF RY2 h97 hpx HYc HNc WPC
                  go_wp2_with (go_at_call 78; refine wq.out.mono ?_; intro e w6 hp; obtain ⟨u6, n6, rfl, hu6, hn6, R6, hw6, K6⟩ := hp; replace hu6 : u6.data.toList = RD.piece t x := hu6; obtain ⟨e1, e2, e3, e4, e5⟩ := sno hu6 hnn.out.1; obtain ⟨g1, g2, g3, g4, g5⟩ := sno hu6 hnn.out.2; have hus : u6.size ≠ 0 := (fun c => hnn.out.2 (by rw [← hu6]; exact List.eq_nil_of_length_eq_zero (by rw [← size_of u6 _ rfl]; exact c))); obtain ⟨e6, e7⟩ := sempty hus; have D6 := DD.out.kg K6 gx; obtain ⟨d0, d1, d2, z0, z1, z2⟩ := D6.cells; have K7 := hide (KK.out.trans K6); replace R6 := hide R6; clear D6 hu6 hw6 K6 hn6 hus)
                  exact bodyPost_ret (v := .tuple #[.agg #[.int .i64 0, .slice none 0 0, .slice none 0 0], .bool false]) (by simp [results, Try.results52, go_sem, d0, d1, d2]) rfl (ppost_no3 K7.out R6.out hglt EA.out)
        · have EA := hide (HH.out 3 (by omega) OK3.out (b_no o3))
          rw [o3w] at o3
          have nv := hide (numV_no (b_no o3))
          clear o3w o3 OK3 HH HY HN HRR
          go_wp2_with (first
            | (go_at_call 78; refine (WS.out w3 _ _ _ R3.out hn3.out hw3.out).mono ?_; intro e w4 hp; obtain ⟨u3, n4, rfl, hu3, hnx, RX, hwx, KX⟩ := hp; rw [List.tail_drop] at hwx; have hn4 := hide hnx; have R4 := hide RX; have hw4 := hide hwx; have D4 := hide (D3.out.kg KX gx); have K4 := hide (K3.out.trans KX); clear hnx RX hwx KX; rw [hl3'.out] at hu3; replace hu3 := hide hu3; obtain ⟨d0, d1, d2, z0, z1, z2⟩ := D4.out.cells)
            | (go_at_call 79; refine (number_calls _ _ l3 hu3.out l3l).mono ?_; rw [nv.out]; rintro e wn ⟨rfl, hwn⟩; subst wn))
          exact bodyPost_ret (v := .tuple #[.agg #[.int .i64 0, .slice none 0 0, .slice none 0 0], .bool false]) (by simp [results, Try.results52, go_sem, d0, d1, d2]) rfl (ppost_no3 K4.out R4.out hglt EA.out)
      · have EA := hide (HH.out 2 (by omega) OK2.out (b_no o2))
        rw [o2w] at o2
        by_cases hnum : RD.num lw = true
        · have nv := numV_yes hnum
          have hgt : 1000000 < min (RD.val lw) RD.top := by
            have : ¬ RD.val lw ≤ 1000000 := fun c => o2 (by rw [hnum, decide_eq_true c]; rfl)
            have h2 : 1000000 < RD.top := by unfold RD.top; omega
            omega
          obtain ⟨ct, hct'⟩ : ∃ c, min (RD.val lw) RD.top = c := ⟨_, rfl⟩
          rw [hct'] at nv hgt
          have t1 : decide ((1000000 : Int) < (ct : Int)) = true := decide_eq_true (by omega)
          have t1' : decide (1000000 < ct) = true := decide_eq_true (by omega)
          replace nv := hide nv
          clear o2w o2 OK2 HH HY HN HRR hct'
          go_wp2_with (first
            | (go_at_call 78; refine (WS.out w2 _ _ _ R2.out hn2.out hw2.out).mono ?_; intro e w3 hp; obtain ⟨u2, n3, rfl, hu2, hnx, RX, hwx, KX⟩ := hp; rw [List.tail_drop] at hwx; have hn3 := hide hnx; have R3 := hide RX; have hw3 := hide hwx; have D3 := hide (D2.out.kg KX gx); have K3 := hide (K2.out.trans KX); clear hnx RX hwx KX; rw [hlw'.out] at hu2; replace hu2 := hide hu2; obtain ⟨d0, d1, d2, z0, z1, z2⟩ := D3.out.cells)
            | (go_at_call 79; refine (number_calls _ _ lw hu2.out lwl).mono ?_; rw [nv.out]; rintro e wn ⟨rfl, hwn⟩; subst wn))
          exact bodyPost_ret (v := .tuple #[.agg #[.int .i64 0, .slice none 0 0, .slice none 0 0], .bool false]) (by simp [results, Try.results52, go_sem, d0, d1, d2]) rfl (ppost_no3 K3.out R3.out hglt EA.out)
        · have nv := hide (numV_no (b_no hnum))
          clear o2w o2 OK2 HH HY HN HRR hnum
          go_wp2_with (first
            | (go_at_call 78; refine (WS.out w2 _ _ _ R2.out hn2.out hw2.out).mono ?_; intro e w3 hp; obtain ⟨u2, n3, rfl, hu2, hnx, RX, hwx, KX⟩ := hp; rw [List.tail_drop] at hwx; have hn3 := hide hnx; have R3 := hide RX; have hw3 := hide hwx; have D3 := hide (D2.out.kg KX gx); have K3 := hide (K2.out.trans KX); clear hnx RX hwx KX; rw [hlw'.out] at hu2; replace hu2 := hide hu2; obtain ⟨d0, d1, d2, z0, z1, z2⟩ := D3.out.cells)
            | (go_at_call 79; refine (number_calls _ _ lw hu2.out lwl).mono ?_; rw [nv.out]; rintro e wn ⟨rfl, hwn⟩; subst wn))
          exact bodyPost_ret (v := .tuple #[.agg #[.int .i64 0, .slice none 0 0, .slice none 0 0], .bool false]) (by simp [results, Try.results52, go_sem, d0, d1, d2]) rfl (ppost_no3 K3.out R3.out hglt EA.out)
    · have EA := hide (HH.out 1 (by omega) OK1.out (b_no o1))
      have p1 : wordAt t (L.drop 1) ≠ [99, 110, 102] := by rw [okW1] at o1; exact fun c => o1 (decide_eq_true c)
      have pp := hide (And.intro p0 p1)
      clear o0 o1 p0 p1 OK1 HH HY HN HRR
      go_wp2_with (first
        | (go_at_call 78; have y := R1; clear y; refine (WS.out w1 _ _ _ R1.out hn1.out hw1.out).mono ?_; intro e w2 hp; obtain ⟨u1, n2, rfl, hu1, hnx, RX, hwx, KX⟩ := hp; rw [List.tail_drop] at hwx; have hn2 := hide hnx; have R2 := hide RX; have hw2 := hide hwx; have D2 := hide (D1.out.kg KX gx); have K2 := hide (K1.out.trans KX); clear hnx RX hwx KX; obtain ⟨e1, e2, e3, e4, e5⟩ := sno hu1 pp.out.2; clear hu1; obtain ⟨d0, d1, d2, z0, z1, z2⟩ := D2.out.cells)
        | (go_at_call 78; refine (WS.out w0 _ _ _ R0.out hn0.out hw0.out).mono ?_; intro e w1 hp; obtain ⟨u0, n1, rfl, hu0, hnx, RX, hwx, KX⟩ := hp; rw [← List.drop_one] at hwx; have hn1 := hide hnx; have R1 := hide RX; have hw1 := hide hwx; have D1 := hide (D0.out.kg KX gx); have K1 := hide (K0.out.trans KX); clear hnx RX hwx KX; rw [pp.out.1] at hu0; obtain rfl := sis hu0; clear hu0))
      exact bodyPost_ret (v := .tuple #[.agg #[.int .i64 0, .slice none 0 0, .slice none 0 0], .bool false]) (by simp [results, Try.results52, go_sem, d0, d1, d2]) rfl (ppost_no3 K2.out R2.out hglt EA.out)
  · have EA := hide (HH.out 0 (by omega) (fun j hj => absurd hj (Nat.not_lt_zero _)) (b_no o0))
    have p0 : wordAt t L ≠ [112] := by rw [okW0] at o0; exact fun c => o0 (decide_eq_true c)
    have pp := hide p0
    clear o0 p0 HH HY HN HRR
    go_wp2_with (go_at_call 78; refine (WS.out w0 _ _ _ R0.out hn0.out hw0.out).mono ?_; intro e w1 hp; obtain ⟨u0, n1, rfl, hu0, hnx, RX, hwx, KX⟩ := hp; rw [← List.drop_one] at hwx; have hn1 := hide hnx; have R1 := hide RX; have hw1 := hide hwx; have D1 := hide (D0.out.kg KX gx); have K1 := hide (K0.out.trans KX); clear hnx RX hwx KX; obtain ⟨e1, e2, e3, e4, e5⟩ := sno hu0 pp.out; clear hu0; obtain ⟨d0, d1, d2, z0, z1, z2⟩ := D1.out.cells)
    exact bodyPost_ret (v := .tuple #[.agg #[.int .i64 0, .slice none 0 0, .slice none 0 0], .bool false]) (by simp [results, Try.results52, go_sem, d0, d1, d2]) rfl (ppost_no3 K1.out R1.out hglt EA.out)
end Go.Proofs.Ytkdalejceclanaa
