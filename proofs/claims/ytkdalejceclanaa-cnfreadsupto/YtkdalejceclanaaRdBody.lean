/-
  The document's body: what stands behind the header.
-/
import Derived.Test.YtkdalejceclanaaRdRefL
import Derived.Test.YtkdalejceclanaaRdRows
import Derived.Test.YtkdalejceclanaaRdStep
import Derived.OneCell
namespace Go.Proofs.Ytkdalejceclanaa
open Go.RowKit
set_option linter.unusedVariables false
abbrev zCnf : Value := .agg #[.int .i64 0, .slice none 0 0, .slice none 0 0]
theorem rInfoInts : (Try.prog.info? 23).map (fun i => (i.zero, i.size, i.bytes)) = some (some (.slice none 0 0), 1, 24) := by kernel_rfl
theorem rSliceInts : Try.prog.underlying 22 = some (.slice 23) := by kernel_rfl
/-- A struct of three cells in memory. -/
def B3 (w : World) (g : Nat) (a b c : Value) : Prop := w.heap[g]? = some (.cells #[a, b, c] 25 (0, 0))
theorem B3.lt {w : World} {g : Nat} {a b c : Value} (h : B3 w g a b c) : g < w.heap.size := (Array.getElem?_eq_some_iff.1 h).1
theorem B3.cells {w : World} {g : Nat} {a b c : Value} (h : B3 w g a b c) : w.cell? ⟨g, 0, none⟩ = some a ∧ w.cell? ⟨g, 1, none⟩ = some b ∧ w.cell? ⟨g, 2, none⟩ = some c ∧ w.frozen? ⟨g, 0, none⟩ = false ∧ w.frozen? ⟨g, 1, none⟩ = false ∧ w.frozen? ⟨g, 2, none⟩ = false := by
  unfold B3 at h
  refine ⟨?_, ?_, ?_, ?_, ?_, ?_⟩
  · rw [cell_of_row _ _ _ _ _ _ h]; rfl
  · rw [cell_of_row _ _ _ _ _ _ h]; rfl
  · rw [cell_of_row _ _ _ _ _ _ h]; rfl
  · unfold World.frozen?; simp [h]
  · unfold World.frozen?; simp [h]
  · unfold World.frozen?; simp [h]
theorem B3.set1 {w : World} {g : Nat} {a b c : Value} (h : B3 w g a b c) (u : Value) : B3 (w.setCell ⟨g, 1, none⟩ u) g a u c := by
  unfold B3 at h ⊢
  rw [heap_setCell_same w g 1 _ _ u h]; rfl
theorem B3.set2 {w : World} {g : Nat} {a b c : Value} (h : B3 w g a b c) (u : Value) : B3 (w.setCell ⟨g, 2, none⟩ u) g a b u := by
  unfold B3 at h ⊢
  rw [heap_setCell_same w g 2 _ _ u h]; rfl
theorem B3.set0 {w : World} {g : Nat} {a b c : Value} (h : B3 w g a b c) (u : Value) : B3 (w.setCell ⟨g, 0, none⟩ u) g u b c := by
  unfold B3 at h ⊢
  rw [heap_setCell_same w g 0 _ _ u h]; rfl
theorem B3.keep {w w' : World} {g : Nat} {a b c : Value} (h : B3 w g a b c) (q : Below w.heap.size w w') : B3 w' g a b c := (q.block g h.lt).trans h
theorem B3.far {w : World} {g k i : Nat} {a b c : Value} (h : B3 w g a b c) (hk : g ≠ k) (u : Value) : B3 (w.setCell ⟨k, i, none⟩ u) g a b c := (heap_setCell_other w ⟨k, i, none⟩ g u hk).trans h
theorem B3.grown {g base n size : Nat} {e : TypeId} {v : Value} {xs : List Value} {w w' : World} {a b c : Value} (h : B3 w g a b c) (ho : w.ownsRow base e size v n xs) (hb : g < base) (hg : w.grownBy w' v.ownBlock) : B3 w' g a b c := by
  refine (hg.block g h.lt (fun d => ?_)).trans h
  have := (ho.lt g d.symm).1
  omega
theorem B3.new (w : World) (a b c : Value) : B3 (w.alloc (.cells #[a, b, c] 25)) w.heap.size a b c := heap_alloc_new w _
/-- What body tells. -/
def BodyPost (L : List (Nat × Nat)) (vars : Nat) (R : Bool × List (List Int) × List Int × List (Nat × Nat)) (w : World) (e : Ending) (w' : World) : Prop :=
  Below w.heap.size w w' ∧ (R.1 = true → ∃ vc vt vals, e = .returned (.tuple #[.agg #[.int .i64 (vars : Int), vc, vt], .int .i64 (-1)]) ∧ CV w' w.heap.size vc vals R.2.1 ∧ w'.ownsRow w.heap.size 3 1 vt R.2.2.1.length (rowI R.2.2.1)) ∧
    (R.1 = false → e = .returned (.tuple #[zCnf, .int .i64 ((L.length - R.2.2.2.length : Nat) : Int)]))
theorem body_no {L : List (Nat × Nat)} {vars : Nat} {R : Bool × List (List Int) × List Int × List (Nat × Nat)} {w w' : World} {e : Ending} {i : Nat} (b : Below w.heap.size w w') (h : R.1 = false) (hi : L.length - R.2.2.2.length = i) (he : e = .returned (.tuple #[zCnf, .int .i64 (i : Int)])) : BodyPost L vars R w e w' :=
  ⟨b, fun c => absurd (h.symm.trans c) (by decide), fun _ => by rw [he, hi]⟩
theorem body_yes {L : List (Nat × Nat)} {vars : Nat} {R : Bool × List (List Int) × List Int × List (Nat × Nat)} {w w' : World} {e : Ending} {vc vt : Value} {vals : List Value} (b : Below w.heap.size w w') (h : R.1 = true) (hc : CV w' w.heap.size vc vals R.2.1) (ht : w'.ownsRow w.heap.size 3 1 vt R.2.2.1.length (rowI R.2.2.1))
    (he : e = .returned (.tuple #[.agg #[.int .i64 (vars : Int), vc, vt], .int .i64 (-1)])) : BodyPost L vars R w e w' :=
  ⟨b, fun _ => ⟨vc, vt, vals, he, hc, ht⟩, fun c => absurd (h.symm.trans c) (by decide)⟩
theorem CV.low {w : World} {B B' : Nat} {v : Value} {vals : List Value} {cls : List (List Int)} (h : CV w B v vals cls) (hB : B' ≤ B) : CV w B' v vals cls :=
  ⟨h.1, row_low h.2.1 hB, fun i hi => row_low (h.2.2.1 i hi) hB, h.2.2.2⟩
theorem CV.set {w : World} {B g i : Nat} {v u : Value} {vals : List Value} {cls : List (List Int)} (h : CV w B v vals cls) (hg : g < B) : CV (w.setCell ⟨g, i, none⟩ u) B v vals cls :=
  h.kept (fun o => ownsRow_setCell_below o hg u)
theorem ral_size (w : World) (o : Obj) : (w.alloc o).heap.size = w.heap.size + 1 := by show (w.heap.push _).size = _; simp
theorem tail_nil (t : List UInt8) (P : Nat × Nat → Option Int) : RD.tailW t P [] = (true, [], []) := rfl
theorem tail_not {t : List UInt8} {P : Nat × Nat → Option Int} {x : Nat × Nat} {r : List (Nat × Nat)} (h : RD.piece t x ≠ [97]) : RD.tailW t P (x :: r) = (false, [], x :: r) := by
  unfold RD.tailW
  simp only
  rw [if_neg h]
theorem tail_yes {t : List UInt8} {P : Nat × Nat → Option Int} {x : Nat × Nat} {r : List (Nat × Nat)} (h : RD.piece t x = [97]) (h1 : (RD.litsW P r).1 = true) : RD.tailW t P (x :: r) = (decide ((RD.litsW P r).2.2 = []), (RD.litsW P r).2.1, (RD.litsW P r).2.2) := by
  unfold RD.tailW
  simp only
  rw [if_pos h, if_pos h1]
theorem tail_no {t : List UInt8} {P : Nat × Nat → Option Int} {x : Nat × Nat} {r : List (Nat × Nat)} (h : RD.piece t x = [97]) (h1 : (RD.litsW P r).1 = false) : RD.tailW t P (x :: r) = (false, [], (RD.litsW P r).2.2) := by
  unfold RD.tailW
  simp only
  rw [if_pos h, if_neg (by rw [h1]; simp)]
theorem row_slice {w : World} {base size n : Nat} {e : TypeId} {v : Value} {xs : List Value} (h : w.ownsRow base e size v n xs) : ∃ a c, v = .slice a n c := by
  rcases h.2 with ⟨rfl, rfl⟩ | ⟨g, cap, cur, rfl, -⟩
  · exact ⟨_, _, rfl⟩
  · exact ⟨_, _, rfl⟩
/-- How many clauses body asks for. -/
def cntW (t : List UInt8) (L : List (Nat × Nat)) (l : List UInt8) : Nat := if RD.valueOf l L.length < 0 then L.length + 1 else (RD.valueOf l L.length).toNat
set_option maxRecDepth 100000 in
set_option maxHeartbeats 16000000 in
theorem body_calls (w : World) (s : ByteArray) (t : List UInt8) (v : Value) (L : List (Nat × Nat)) (vars : Nat) (ms : ByteArray) (ml : List UInt8) (hs : s.data.toList = t) (hm : ms.data.toList = ml) (hml : ml.length ≤ 1048576) (hW : WRow w s v L) (hl : t.length ≤ 1048576) (hLl : L.length ≤ 1048577) (h4 : 4 ≤ L.length) (hv : vars ≤ 1000000) (hp : ∀ x ∈ L, x.2 ≤ t.length) :
    Calls Try.prog 50 #[v, .int .i64 (vars : Int), .string ms] w fun e w' => BodyPost L vars (RD.bodyW t vars (cntW t L ml) (L.drop 4)) w e w' := by
  obtain ⟨i1, ki, kz0, kz1, kz2⟩ := rinfo_parts rInfoInts
  obtain ⟨va, vc0, rfl, -⟩ := id hW
  obtain ⟨R, hR⟩ : ∃ R, RD.bodyW t vars (cntW t L ml) (L.drop 4) = R := ⟨_, rfl⟩
  rw [hR]
  obtain ⟨C, hC⟩ : ∃ C, RD.clsW (RD.PW t vars) (cntW t L ml) (L.drop 4) = C := ⟨_, rfl⟩
  have RN : Hid (C.1 = false → R.1 = false ∧ R.2.2.2 = C.2.2) := fun h => by rw [← hR, ← hC]; exact RD.bodyW_no (by rw [hC]; exact h)
  have RY : Hid (∀ cs l, C = (true, cs, l) → R = ((RD.tailW t (PL t vars) l).1, cs, (RD.tailW t (PL t vars) l).2.1, (RD.tailW t (PL t vars) l).2.2)) := fun cs l h => by rw [← hR]; exact RD.bodyW_yes (by rw [hC]; exact h)
  have I0 : Hid (RD.restW (PL t vars) C [] (cntW t L ml - 0) (L.drop 4)) := by show RD.restW _ _ _ _ _; rw [← hC]; exact RD.restW_start _ _ _
  have VQ := hide (fun W => value_calls W ms ml L.length hm (by omega) (by omega))
  have KV : Hid (cntW t L ml = if RD.valueOf ml L.length < 0 then L.length + 1 else (RD.valueOf ml L.length).toNat) := rfl
  have VB := value_bd ml L.length
  have B0 : Hid (Below w.heap.size w ((w.alloc (.cells #[.int .i64 0, .slice none 0 0, .slice none 0 0] 25)).alloc (.cells #[.int .i64 (vars : Int), .slice none 0 0, .slice none 0 0] 25))) := ((Below.refl _ _).alloc (Nat.le_refl _) _).alloc (by simp) _
  have D1 := hide (B3.keep (B3.new w (.int .i64 0) (.slice none 0 0) (.slice none 0 0)) ((Below.refl _ _).alloc (Nat.le_refl _) (.cells #[.int .i64 (vars : Int), .slice none 0 0, .slice none 0 0] 25)))
  have D2 := B3.new (w.alloc (.cells #[.int .i64 0, .slice none 0 0, .slice none 0 0] 25)) (.int .i64 (vars : Int)) (.slice none 0 0) (.slice none 0 0)
  rw [ral_size] at D2
  replace D2 := hide D2
  have HS := hide hs
  have HP := hide hp
  have HW := hide hW
  clear hR hC hm hW hs hp
  generalize cntW t L ml = K at *
  generalize RD.valueOf ml L.length = V at *
  go_enter Try.func50, Try.ntmps50
  go_upto_region 2 with fail
  generalize ((w.alloc (.cells #[.int .i64 0, .slice none 0 0, .slice none 0 0] 25)).alloc (.cells #[.int .i64 (vars : Int), .slice none 0 0, .slice none 0 0] 25)) = W0 at *
  go_wp2_with fail
  have N0 : Hid (([] : List (List Int)).length ≤ 4) := Nat.zero_le _
  go_loopw [9, 10] (fun x y wr => ∃ (i k : Nat) (cs : List (List Int)) (vals : List Value) (vc : Value), x = .int .i64 (i : Int) ∧ y = .int .i64 (k : Int) ∧ k + 4 ≤ i ∧ i ≤ L.length ∧ k ≤ K ∧ Hid (B3 wr w.heap.size (.int .i64 0) (.slice none 0 0) (.slice none 0 0)) ∧ Hid (B3 wr (w.heap.size + 1) (.int .i64 (vars : Int)) vc (.slice none 0 0)) ∧ Hid (CV wr (w.heap.size + 2) vc vals cs) ∧ Hid (RD.restW (PL t vars) C cs (K - k) (L.drop i)) ∧ Hid (cs.length ≤ i) ∧ Hid (Below w.heap.size w wr)) (fun x _ _ => L.length - (intOf x).toNat)
  case atStart => exact ⟨4, 0, [], [], .slice none 0 0, rfl, rfl, Nat.le_refl _, h4, Nat.zero_le _, D1, D2, CV.nil _ _, I0, N0, B0⟩
  case round =>
    clear I0 N0 B0 D1 D2
    obtain ⟨i, k, cs, vals, vc, rfl, rfl, hki, hiL, hkK, DD1, DD2, CC, RR, NN, BB⟩ := hrel
    have q := hide (VQ.out wr)
    go_upto_region 4 with fail
    go_cut [31] (fun x wx => x = .bool (decide (k < K)) ∧ wx = wr)
    case first =>
      clear DD1 DD2 CC RR NN BB RN RY HW HP HS VQ
      by_cases hv0 : V < 0
      · have hk : decide (k < K) = true := decide_eq_true (by rw [KV.out, if_pos hv0]; omega)
        have t1 : decide (V < 0) = true := decide_eq_true hv0
        clear KV
        go_wp2_with (go_at_call 47; refine q.out.mono ?_; rintro e w2 ⟨rfl, hw2⟩; subst w2)
        go_meet
        exact ⟨by rw [hk], rfl⟩
      · have hVK : V = (K : Int) := by rw [KV.out, if_neg hv0]; omega
        have t1 : decide (V < 0) = false := decide_eq_false hv0
        clear KV hv0
        subst hVK
        go_wp2_with (go_at_call 47; refine q.out.mono ?_; rintro e w2 ⟨rfl, hw2⟩; subst w2)
        go_meet
        exact ⟨by simp, rfl⟩
    case rest =>
      obtain ⟨rfl, hwx⟩ := hcut
      subst hwx
      by_cases hkk : k < K
      · have td := decide_eq_true hkk
        have lq := hide (rlits_calls wc s t _ L i vars HS.out (HW.out.keep BB.out) hl hLl hiL hv HP.out)
        obtain ⟨R1, hR1⟩ : ∃ R1, RD.litsW (PL t vars) (L.drop i) = R1 := ⟨_, rfl⟩
        obtain ⟨a1, a2, a3⟩ := RD.litsW_at (PL t vars) L hiL hR1
        have lb := RD.litsW_bd (PL t vars) (L.drop i)
        rw [List.length_drop, hR1] at lb
        have eK : K - k = (K - (k + 1)) + 1 := by omega
        have RR2 := RR.out
        rw [eK] at RR2
        rw [hR1] at lq
        have n2L : L.length - R1.2.2.length ≤ L.length := Nat.sub_le _ _
        cases hb : R1.1
        · have RF := RD.restW_no RR2 (by rw [hR1]; exact hb)
          rw [hR1] at RF
          obtain ⟨e1, e2⟩ := RN.out RF.1
          have E2 : Hid (L.length - R.2.2.2.length = L.length - R1.2.2.length) := by show _ = _; rw [e2, RF.2]
          have E1 := hide e1
          obtain ⟨n2, hn2⟩ : ∃ n2, L.length - R1.2.2.length = n2 := ⟨_, rfl⟩
          rw [hn2] at E2
          replace hn2 := hide hn2
          clear RR RR2 RF e1 e2 hR1 a1 a2 a3 lb eK q RY RN NN DD2 CC n2L
          go_wp2_with (go_at_call 77; refine lq.out.mono ?_; intro e w2 hp2; obtain ⟨bb, -, rn⟩ := hp2; have rn' := rn hb; rw [hn2.out] at rn'; subst rn'; clear rn; have D1' := DD1.out.keep bb; obtain ⟨b0, b1, b2, z0, z1, z2⟩ := D1'.cells; have B2 := hide (BB.out.then_below bb); clear bb D1')
          exact bodyPost_ret (v := .tuple #[.agg #[.int .i64 0, .slice none 0 0, .slice none 0 0], .int .i64 (n2 : Int)]) (by simp [results, Try.results50, go_sem, b0, b1, b2]) rfl (body_no (i := n2) (((B2.out.setCell (Nat.le_refl _) _).setCell (Nat.le_refl _) _).setCell (Nat.le_refl _) _) E1.out E2.out rfl)
        · have RT := RD.restW_step RR2 (by rw [hR1]; exact hb)
          rw [hR1, a2] at RT
          have a3' := a3 hb
          obtain ⟨n2, hn2⟩ : ∃ n2, L.length - R1.2.2.length = n2 := ⟨_, rfl⟩
          rw [hn2] at RT a3' n2L
          replace hn2 := hide hn2
          replace RT := hide RT
          have lb' : R1.2.1.length ≤ 1048577 := by omega
          clear RR RR2 hR1 a1 a2 a3 eK q td lb RN RY
          have csl := NN.out
          go_upto_region 9 with (go_at_call 77; refine lq.out.mono ?_; intro e w1 hp2; obtain ⟨bb, ry, -⟩ := hp2; obtain ⟨v1, he, o1⟩ := ry hb; rw [hn2.out] at he; subst he; clear ry; replace o1 := hide o1; replace bb := hide bb)
          have D1 := hide (DD1.out.keep bb.out)
          have D2 := DD2.out.keep bb.out
          have C1 := CC.out.below bb.out
          have B1 := hide (BB.out.then_below bb.out)
          obtain ⟨d0, d1, d2, z0, z1, z2⟩ := D2.cells
          obtain ⟨ac, kc, rfl⟩ := C1.slice
          have szw := bb.out.size
          have szb := BB.out.size
          have D2h := hide D2
          have szD := D1.out.lt
          have szE := D2.lt
          have szF := DD2.out.lt
          obtain ⟨av, kv, rfl⟩ : ∃ a c, v1 = .slice a R1.2.1.length c := by
            rcases o1.out.2 with ⟨e, e2⟩ | ⟨g, cap, cur, e, -⟩
            · exact ⟨none, 0, by rw [e, e2]⟩
            · exact ⟨_, _, e⟩
          have OA := hide (World.ownsRow.alloc C1.2.1 (.cells #[.slice av R1.2.1.length kv] 23))
          have CA := hide (rcell_one w1 (.slice av R1.2.1.length kv) 23)
          have C1h := hide C1
          have szz := hide (And.intro csl (And.intro hiL (And.intro szD szE)))
          clear D2 C1 lq
          go_upto_region 10 with (at_builtin; (refine wpList_append_own _ rfl _ _ 22 rfl (w.heap.size + 2) 23 i1 (.slice none 0 0) 1 24 rSliceInts ki kz0 kz1 kz2 rfl (by decide) _ _ _ rfl OA.out ⟨w1.heap.size, 0, none⟩ 1 1 [.slice av R1.2.1.length kv] rfl rfl CA.out (by simp [Value.oneCell']) (by have ⟨q1, q2, q3, q4⟩ := szz.out; unfold maxLen; omega) (by have ⟨q1, q2, q3, q4⟩ := szz.out; omega) (by have ⟨q1, q2, q3, q4⟩ := szz.out; simp; omega) ?_; intro v5 w5 hown5 hgrow5 _; obtain ⟨a5, k5, rfl⟩ := row_slice hown5; have D5 := (D2h.out.keep ((Below.refl _ _).alloc (Nat.le_refl _) (.cells #[.slice av R1.2.1.length kv] 23))).grown OA.out (by omega) hgrow5; obtain ⟨f0, f1, f2, y0, y1, y2⟩ := D5.cells; replace hown5 := hide hown5; replace hgrow5 := hide hgrow5; replace D5 := hide D5))
          have E5 := hide (((D1.out.keep ((Below.refl _ _).alloc (Nat.le_refl _) (.cells #[.slice av R1.2.1.length kv] 23))).grown OA.out (by omega) hgrow5.out).far (k := w.heap.size + 1) (i := 1) (by omega) (.slice a5 (cs.length + 1) k5))
          have F5 := hide (D5.out.set1 (.slice a5 (cs.length + 1) k5))
          have B5 := hide (((B1.out.then_below ((Below.refl _ _).alloc (Nat.le_refl _) (.cells #[.slice av R1.2.1.length kv] 23))).then_grown hgrow5.out (fun g hg => by have := (OA.out.lt g hg).1; omega)).setCell (p := ⟨w.heap.size + 1, 1, none⟩) (by show w.heap.size ≤ w.heap.size + 1; omega) (.slice a5 (cs.length + 1) k5))
          have C5 := hide ((CC.out.push (b0 := wc.heap.size) (Nat.le_refl _) C1h.out (by omega) o1.out hown5.out hgrow5.out).set (g := w.heap.size + 1) (i := 1) (u := (.slice a5 (cs.length + 1) k5)) (by omega))
          have N5 : Hid ((cs ++ [R1.2.1]).length ≤ n2) := by show _ ≤ _; rw [List.length_append]; exact Nat.le_trans (Nat.succ_le_succ csl) a3'
          clear d0 d1 d2 z0 z1 z2 f0 f1 f2 y0 y1 y2 hown5 hgrow5 D5 D1 D2h C1h OA CA B1 o1 bb
          go_wp2_with fail
          go_roundw
          case rel => exact ⟨n2, k + 1, cs ++ [R1.2.1], vals ++ [.slice av R1.2.1.length kv], .slice a5 (cs.length + 1) k5, rfl, by go_num, by omega, n2L, by omega, E5, F5, C5, RT, N5, B5⟩
          case measure => simp [intOf]; omega
      · obtain rfl : k = K := by omega
        have td : decide (k < k) = false := decide_eq_false (Nat.lt_irrefl _)
        have RR2 := RR.out
        rw [Nat.sub_self] at RR2
        have RY2 := RY.out _ _ (RD.restW_end RR2)
        clear RR RR2 RY RN q VQ KV hkk hkK hki
        obtain ⟨d0, d1, d2, z0, z1, z2⟩ := DD1.out.cells
        obtain ⟨f0, f1, f2, y0, y1, y2⟩ := DD2.out.cells
        have szD := DD1.out.lt
        have szE := DD2.out.lt
        by_cases hlt : i < L.length
        · obtain ⟨va', vc', e, hc⟩ := HW.out.keep BB.out
          cases e
          obtain ⟨g, rfl, c0, c1⟩ := hc i hlt
          have D := drop_cons hlt
          have hd := extract_piece s t HS.out (L.getD i (0, 0))
          have hdl : (L.drop (i + 1)).length = L.length - (i + 1) := List.length_drop
          have k0 : (0 : Int) ≤ (i : Int) := by omega
          have k1 : (i : Int) < (L.length : Int) := by omega
          rw [D] at RY2
          clear c1 D hc
          by_cases h97 : RD.piece t (L.getD i (0, 0)) = [97]
          · rw [h97] at hd
            have hu := sis hd
            rw [hu] at c0
            have i1L : i + 1 ≤ L.length := hlt
            have lq := hide (rlits_calls wc s t _ L (i + 1) vars HS.out (HW.out.keep BB.out) hl hLl i1L hv HP.out)
            obtain ⟨R1, hR1⟩ : ∃ R1, RD.litsW (PL t vars) (L.drop (i + 1)) = R1 := ⟨_, rfl⟩
            obtain ⟨a1, a2, a3⟩ := RD.litsW_at (PL t vars) L i1L hR1
            rw [hR1] at lq
            have n2L : L.length - R1.2.2.length ≤ L.length := Nat.sub_le _ _
            obtain ⟨n2, hn2⟩ : ∃ n2, L.length - R1.2.2.length = n2 := ⟨_, rfl⟩
            have w1 : wrap64 ((i : Int) + 1) = ((i + 1 : Nat) : Int) := w64 _ (by omega) (by omega)
            cases hb : R1.1
            · have RF := tail_no h97 (r := L.drop (i + 1)) (P := PL t vars) (by rw [hR1]; exact hb)
              rw [hR1] at RF
              rw [RF] at RY2
              have E1 : Hid (R.1 = false) := by show _ = _; rw [RY2]
              have E2 : Hid (L.length - R.2.2.2.length = n2) := by show _ = _; rw [RY2]; exact hn2
              replace hn2 := hide hn2
              clear RF RY2 hR1 a1 a2 a3 hd hu h97 hdl f0 f1 f2 y0 y1 y2
              go_wp2_with (go_at_call 77; refine lq.out.mono ?_; intro e w2 hp2; obtain ⟨bb, -, rn⟩ := hp2; have rn' := rn hb; rw [hn2.out] at rn'; subst rn'; clear rn; have D1' := DD1.out.keep bb; obtain ⟨b0, b1, b2, x0, x1, x2⟩ := D1'.cells; have B2 := hide (BB.out.then_below bb); clear bb D1')
              exact bodyPost_ret (v := .tuple #[.agg #[.int .i64 0, .slice none 0 0, .slice none 0 0], .int .i64 (n2 : Int)]) (by simp [results, Try.results50, go_sem, b0, b1, b2]) rfl (body_no (i := n2) (((B2.out.setCell (Nat.le_refl _) _).setCell (Nat.le_refl _) _).setCell (Nat.le_refl _) _) E1.out E2.out rfl)
            · have RF := tail_yes h97 (r := L.drop (i + 1)) (P := PL t vars) (by rw [hR1]; exact hb)
              rw [hR1] at RF
              rw [RF] at RY2
              have RYh := hide RY2
              have hn2' := hide hn2
              have hN : R1.2.2 = [] ↔ n2 = L.length := by
                rw [← hn2]
                constructor
                · intro e; rw [e]; rfl
                · intro e
                  have : R1.2.2.length = 0 := by
                    have h1 : R1.2.2.length ≤ L.length := by rw [a2, List.length_drop]; omega
                    omega
                  exact List.eq_nil_of_length_eq_zero this
              rw [hn2] at n2L
              clear RF RY2 hR1 a1 a2 a3 hd hu h97 hdl hn2
              go_upto_region 15 with (go_at_call 77; refine lq.out.mono ?_; intro e w2 hp2; obtain ⟨bb, ry, -⟩ := hp2; obtain ⟨v1, he, o1⟩ := ry hb; rw [hn2'.out] at he; subst he; clear ry; replace o1 := hide o1; replace bb := hide bb)
              obtain ⟨av, kv, rfl⟩ := row_slice o1.out
              have D1' := DD1.out.keep bb.out
              have D2' := DD2.out.keep bb.out
              have C1 := CC.out.below bb.out
              have B2 := hide (BB.out.then_below bb.out)
              have szw := bb.out.size
              have szb := BB.out.size
              clear d0 d1 d2 z0 z1 z2 f0 f1 f2 y0 y1 y2 c0 lq
              obtain ⟨f0, f1, f2, y0, y1, y2⟩ := D2'.cells
              have F2 := hide (D2'.set2 (.slice av R1.2.1.length kv))
              have D2 := hide (D1'.far (k := w.heap.size + 1) (i := 2) (by omega) (.slice av R1.2.1.length kv))
              have C2 := hide (C1.set (g := w.heap.size + 1) (i := 2) (u := .slice av R1.2.1.length kv) (by omega))
              have O2 := hide (ownsRow_setCell_below (a := ⟨w.heap.size + 1, 2, none⟩) o1.out (by show w.heap.size + 1 < wc.heap.size; omega) (.slice av R1.2.1.length kv))
              have B2' := hide (B2.out.setCell (p := ⟨w.heap.size + 1, 2, none⟩) (by show w.heap.size ≤ w.heap.size + 1; omega) (.slice av R1.2.1.length kv))
              go_upto_region 16 with fail
              clear f0 f1 f2 y0 y1 y2 D1' D2' C1 B2 o1 bb
              generalize w2.setCell ⟨w.heap.size + 1, 2, none⟩ (.slice av R1.2.1.length kv) = w3 at *
              obtain ⟨d0, d1, d2, z0, z1, z2⟩ := D2.out.cells
              obtain ⟨f0, f1, f2, y0, y1, y2⟩ := F2.out.cells
              by_cases hend : n2 = L.length
              · have E1 : Hid (R.1 = true) := by show _ = _; rw [RYh.out]; exact decide_eq_true (hN.2 hend)
                have t5 : ¬ n2 < L.length := by omega
                have t5' : decide (n2 < L.length) = false := decide_eq_false t5
                clear hN hend hn2'
                obtain ⟨ac, kc, rfl⟩ := C2.out.slice
                go_wp2_with fail
                refine bodyPost_ret (v := .tuple #[.agg #[.int .i64 (vars : Int), .slice ac cs.length kc, .slice av R1.2.1.length kv], .int .i64 (-1)]) (by simp [results, Try.results50, go_sem, d0, d1, d2]) rfl (body_yes (vals := vals) (((B2'.out.setCell (Nat.le_refl _) _).setCell (Nat.le_refl _) _).setCell (Nat.le_refl _) _) E1.out ?_ ?_ rfl)
                · rw [RYh.out]
                  exact (((C2.out.set (by omega)).set (by omega)).set (by omega)).low (by omega)
                · rw [RYh.out]
                  exact row_low (ownsRow_setCell_below (ownsRow_setCell_below (ownsRow_setCell_below O2.out (a := ⟨w.heap.size, 0, none⟩) (by show w.heap.size < wc.heap.size; omega) _) (a := ⟨w.heap.size, 1, none⟩) (by show w.heap.size < wc.heap.size; omega) _) (a := ⟨w.heap.size, 2, none⟩) (by show w.heap.size < wc.heap.size; omega) _) szb
              · have E1 : Hid (R.1 = false) := by show _ = _; rw [RYh.out]; exact decide_eq_false (fun h => hend (hN.1 h))
                have E2 : Hid (L.length - R.2.2.2.length = n2) := by show _ = _; rw [RYh.out]; exact hn2'.out
                have t5 : n2 < L.length := by omega
                have t5' : decide (n2 < L.length) = true := decide_eq_true t5
                clear hN hend hn2' RYh
                go_wp2_with fail
                exact bodyPost_ret (v := .tuple #[.agg #[.int .i64 0, .slice none 0 0, .slice none 0 0], .int .i64 (n2 : Int)]) (by simp [results, Try.results50, go_sem, d0, d1, d2]) rfl (body_no (i := n2) (((B2'.out.setCell (Nat.le_refl _) _).setCell (Nat.le_refl _) _).setCell (Nat.le_refl _) _) E1.out E2.out rfl)
          · rw [tail_not h97] at RY2
            have E1 : Hid (R.1 = false) := by show _ = _; rw [RY2]
            have E2 : Hid (L.length - R.2.2.2.length = i) := by show _ = _; rw [RY2]; simp only [List.length_cons]; omega
            obtain ⟨e1, e2, e3, e4, e5⟩ := sno hd h97
            clear RY2 hd hdl h97
            generalize s.extract (L.getD i (0, 0)).1 (L.getD i (0, 0)).2 = u at *
            go_wp2_with fail
            exact bodyPost_ret (v := .tuple #[.agg #[.int .i64 0, .slice none 0 0, .slice none 0 0], .int .i64 (i : Int)]) (by simp [results, Try.results50, go_sem, d0, d1, d2]) rfl (body_no (i := i) (((BB.out.setCell (Nat.le_refl _) _).setCell (Nat.le_refl _) _).setCell (Nat.le_refl _) _) E1.out E2.out rfl)
        · obtain rfl : i = L.length := by omega
          rw [List.drop_length, tail_nil] at RY2
          have RYh := hide RY2
          have E1 : Hid (R.1 = true) := by show _ = _; rw [RY2]
          clear RY2 hlt
          obtain ⟨ac, kc, rfl⟩ := CC.out.slice
          go_wp2_with fail
          refine bodyPost_ret (v := .tuple #[.agg #[.int .i64 (vars : Int), .slice ac cs.length kc, .slice none 0 0], .int .i64 (-1)]) (by simp [results, Try.results50, go_sem, d0, d1, d2]) rfl (body_yes (vals := vals) (((BB.out.setCell (Nat.le_refl _) _).setCell (Nat.le_refl _) _).setCell (Nat.le_refl _) _) E1.out ?_ ?_ rfl)
          · rw [RYh.out]
            exact (((CC.out.set (by omega)).set (by omega)).set (by omega)).low (by omega)
          · rw [RYh.out]
            exact ⟨rfl, .inl ⟨rfl, rfl⟩⟩
end Go.Proofs.Ytkdalejceclanaa
