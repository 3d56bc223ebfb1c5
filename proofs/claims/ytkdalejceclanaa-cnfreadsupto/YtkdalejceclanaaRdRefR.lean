/-
  The document's Read.
-/
import Derived.Test.YtkdalejceclanaaRdBody
import Derived.Test.YtkdalejceclanaaRdWhole
namespace Go.Proofs.Ytkdalejceclanaa
open Go.RowKit
set_option linter.unusedVariables false
theorem wsF_in (t : List UInt8) : ∀ (f i : Nat), ∀ x ∈ RD.wsF t f i, x.2 ≤ t.length
  | 0, i, x, h => absurd h (by unfold RD.wsF; exact List.not_mem_nil)
  | f + 1, i, x, h => by
    unfold RD.wsF at h
    split at h
    · next c =>
      rcases List.mem_cons.1 h with e | e
      · rw [e]
        exact RD.we_le t (Nat.le_of_lt c)
      · exact wsF_in t f _ x e
    · exact absurd h List.not_mem_nil
theorem ws_in (t : List UInt8) (i : Nat) : ∀ x ∈ RD.ws t i, x.2 ≤ t.length := wsF_in t _ i
abbrev Ans := Bool × Nat × List (List Int) × List Int × Nat
/-- What the document's Read tells. -/
def WPost (A : Ans) (w : World) (e : Ending) (w' : World) : Prop :=
  Below w.heap.size w w' ∧ (A.1 = true → ∃ vc vt vals, e = .returned (.tuple #[.agg #[.int .i64 (A.2.1 : Int), vc, vt], .int .i64 0, .int .i64 0]) ∧ CV w' w.heap.size vc vals A.2.2.1 ∧ w'.ownsRow w.heap.size 3 1 vt A.2.2.2.1.length (rowI A.2.2.2.1)) ∧
    (A.1 = false → e = .returned (.tuple #[zCnf, .int .i64 40, .int .i64 (A.2.2.2.2 : Int)]))
theorem wpost_no {A : Ans} {w w' : World} {e : Ending} {n : Nat} (b : Below w.heap.size w w') (h : A = (false, 0, [], [], n)) (he : e = .returned (.tuple #[zCnf, .int .i64 40, .int .i64 (n : Int)])) : WPost A w e w' := by
  subst h
  exact ⟨b, fun (c : false = true) => Bool.noConfusion c, fun _ => he⟩
theorem wpost_yes {A : Ans} {w w' : World} {e : Ending} {vars : Nat} {cls : List (List Int)} {tops : List Int} {vc vt : Value} {vals : List Value} (b : Below w.heap.size w w') (h : A = (true, vars, cls, tops, 0)) (hc : CV w' w.heap.size vc vals cls) (ht : w'.ownsRow w.heap.size 3 1 vt tops.length (rowI tops))
    (he : e = .returned (.tuple #[.agg #[.int .i64 (vars : Int), vc, vt], .int .i64 0, .int .i64 0])) : WPost A w e w' := by
  subst h
  exact ⟨b, fun _ => ⟨vc, vt, vals, he, hc, ht⟩, fun (c : true = false) => Bool.noConfusion c⟩
theorem ok_next {t : List UInt8} {L : List (Nat × Nat)} {k : Nat} (h : ∀ j, j < k → RD.okAt t L j = true) (hk : RD.okAt t L k = true) : ∀ j, j < k + 1 → RD.okAt t L j = true := fun j hj => by
  rcases Nat.lt_or_ge j k with c | c
  · exact h j c
  · obtain rfl : j = k := by omega
    exact hk
theorem b_no {b : Bool} (h : ¬ b = true) : b = false := by simpa using h
set_option maxRecDepth 100000 in
set_option maxHeartbeats 16000000 in
theorem rread_calls (w : World) (s : ByteArray) (t : List UInt8) (hs : s.data.toList = t) (hl : t.length ≤ 1048576) :
    Calls Try.prog 24 #[.string s] w fun e w' => WPost (RD.wholeW t (RD.valAt t (RD.ws t 0) 2) (RD.cntW (RD.ws t 0) (RD.piece t ((RD.ws t 0).getD 3 (0, 0))))) w e w' := by
  have WQ := hide (words_calls (w.alloc (.cells #[.int .i64 0, .slice none 0 0, .slice none 0 0] 25)) s t hs hl)
  have LB := ws_len t 0
  have HP := hide (ws_in t 0)
  obtain ⟨A, hA⟩ : ∃ A, RD.wholeW t (RD.valAt t (RD.ws t 0) 2) (RD.cntW (RD.ws t 0) (RD.piece t ((RD.ws t 0).getD 3 (0, 0)))) = A := ⟨_, rfl⟩
  rw [hA]
  obtain ⟨R, hR⟩ : ∃ R, RD.bodyW t (RD.valAt t (RD.ws t 0) 2) (RD.cntW (RD.ws t 0) (RD.piece t ((RD.ws t 0).getD 3 (0, 0)))) ((RD.ws t 0).drop 4) = R := ⟨_, rfl⟩
  have HH : Hid (∀ n, n < 4 → (∀ j, j < n → RD.okAt t (RD.ws t 0) j = true) → RD.okAt t (RD.ws t 0) n = false → A = (false, 0, [], [], RD.headAt t ((RD.ws t 0).drop n))) := fun n hn h1 h2 => by rw [← hA]; exact RD.whole_head (RD.headNo_at hn h1 h2) hn
  have HY : Hid ((∀ j, j < 4 → RD.okAt t (RD.ws t 0) j = true) → R.1 = true → A = (true, RD.valAt t (RD.ws t 0) 2, R.2.1, R.2.2.1, 0)) := fun h1 h2 => by rw [← hA, ← hR]; exact RD.whole_yes (RD.headNo_all h1) (by rw [hR]; exact h2)
  have HN : Hid ((∀ j, j < 4 → RD.okAt t (RD.ws t 0) j = true) → R.1 = false → A = (false, 0, [], [], RD.headAt t R.2.2.2)) := fun h1 h2 => by rw [← hA, ← hR]; exact RD.whole_no (RD.headNo_all h1) (by rw [hR]; exact h2)
  have BD := hide (fun (h : 4 ≤ (RD.ws t 0).length) => RD.bodyW_at t (RD.valAt t (RD.ws t 0) 2) (RD.cntW (RD.ws t 0) (RD.piece t ((RD.ws t 0).getD 3 (0, 0)))) (RD.ws t 0) h)
  rw [hR] at BD
  have HRR := hide hR
  clear hA hR
  generalize RD.ws t 0 = L at *
  have HS := hide hs
  clear hs
  have I0 : Hid (∀ j, j < 0 → RD.okAt t L j = true) := fun j hj => absurd hj (Nat.not_lt_zero _)
  have D0 := hide (B3.new w (.int .i64 0) (.slice none 0 0) (.slice none 0 0))
  have BB0 : Hid (Below w.heap.size w (w.alloc (.cells #[.int .i64 0, .slice none 0 0, .slice none 0 0] 25))) := (Below.refl _ _).alloc (Nat.le_refl _) _
  go_enter Try.func24, Try.ntmps24
  go_upto_region 2 with (go_at_call 46; refine WQ.out.mono ?_; rintro e w1 ⟨v, rfl, ow, bw⟩; replace ow := hide ow; replace bw := hide bw)
  have HW := hide (wrow_of ow.out)
  have D1 := hide (D0.out.keep bw.out)
  have B1 := hide (BB0.out.then_below bw.out)
  obtain ⟨va, vc, rfl, hc⟩ := id HW.out
  replace hc := hide hc
  obtain ⟨d0, d1, d2, z0, z1, z2⟩ := D1.out.cells
  clear WQ D0 BB0 ow bw
  obtain ⟨vars, hvars⟩ : ∃ n, RD.valAt t L 2 = n := ⟨_, rfl⟩
  rw [hvars] at HY HRR
  replace hvars := hide hvars
  go_wp2_with fail
  go_loop [6, 7] (fun x y => ∃ k : Nat, y = .int .i64 (k : Int) ∧ k ≤ 4 ∧ x = .int .i64 ((if 3 ≤ k then vars else 0 : Nat) : Int) ∧ Hid (∀ j, j < k → RD.okAt t L j = true)) (fun _ y => 4 - (intOf y).toNat)
  case atStart => exact ⟨0, rfl, Nat.zero_le _, rfl, I0⟩
  case round =>
    clear I0
    obtain ⟨k, rfl, hk, rfl, OK⟩ := hrel
    rcases (by omega : k = 0 ∨ k = 1 ∨ k = 2 ∨ k = 3 ∨ k = 4) with rfl | rfl | rfl | rfl | rfl
    · by_cases hlt : 0 < L.length
      · obtain ⟨g, rfl, c0, c1⟩ := hc.out 0 hlt
        have k1 : (0 : Int) < (L.length : Int) := by omega
        have hd := extract_piece s t HS.out (L.getD 0 (0, 0))
        have EQ := RD.ok0 (t := t) hlt
        have hpl : (RD.piece t (L.getD 0 (0, 0))).length ≤ 1048576 := by
          have hmem : L.getD 0 (0, 0) ∈ L := by rw [List.getD_eq_getElem?_getD, List.getElem?_eq_getElem hlt]; exact List.getElem_mem hlt
          have := HP.out _ hmem
          unfold RD.piece
          rw [List.length_drop, List.length_take]
          omega
        clear c1 hc
        by_cases h : RD.piece t (L.getD 0 (0, 0)) = [112]
        · have EK : RD.okAt t L 0 = true := by rw [EQ, decide_eq_true h]
          rw [h] at hd
          have hu := sis hd
          rw [hu] at c0
          clear EQ h hd hu hpl
          have OK2 := hide (ok_next OK.out EK)
          clear EK HH HY HN BD HRR OK 
          go_wp2_with fail
          go_round
          case rel => exact ⟨0 + 1, rfl, by omega, rfl, OK2⟩
          case measure => simp [intOf]
        · have EK : RD.okAt t L 0 = false := by rw [EQ, decide_eq_false h]
          obtain ⟨e1, e2, e3, e4, e5⟩ := sno hd h
          generalize s.extract (L.getD 0 (0, 0)).1 (L.getD 0 (0, 0)).2 = u at *
          clear EQ h hd hpl
          have EA := hide (HH.out 0 (by omega) OK.out EK)
          have pq := hide (place_calls w1 s t (.slice (some ⟨g, 0, none⟩) L.length vc) L 0 HS.out HW.out)
          clear EK HH HY HN BD HRR OK 
          go_wp2_with (first
            | (go_at_call 49; refine pq.out.mono ?_; rintro e w2 ⟨rfl, hw2⟩; subst w2))
          exact bodyPost_ret (v := .tuple #[.agg #[.int .i64 0, .slice none 0 0, .slice none 0 0], .int .i64 40, .int .i64 (RD.headAt t (L.drop 0) : Nat)]) (by simp [results, Try.results24, go_sem, d0, d1, d2]) rfl (wpost_no (((B1.out.setCell (Nat.le_refl _) _).setCell (Nat.le_refl _) _).setCell (Nat.le_refl _) _) EA.out rfl)
      · have EK := RD.okAt_none (t := t) (by omega : 0 < 4) hlt
        have k1 : ¬ (0 : Int) < (L.length : Int) := by omega
        have k2 : decide ((0 : Int) < (L.length : Int)) = false := decide_eq_false k1
        have EA := hide (HH.out 0 (by omega) OK.out EK)
        have pq := hide (place_calls w1 s t (.slice va L.length vc) L 0 HS.out HW.out)
        clear EK HH HY HN BD HRR OK hc
        go_wp2_with (first
          | (go_at_call 49; refine pq.out.mono ?_; rintro e w2 ⟨rfl, hw2⟩; subst w2))
        exact bodyPost_ret (v := .tuple #[.agg #[.int .i64 0, .slice none 0 0, .slice none 0 0], .int .i64 40, .int .i64 (RD.headAt t (L.drop 0) : Nat)]) (by simp [results, Try.results24, go_sem, d0, d1, d2]) rfl (wpost_no (((B1.out.setCell (Nat.le_refl _) _).setCell (Nat.le_refl _) _).setCell (Nat.le_refl _) _) EA.out rfl)
    · by_cases hlt : 1 < L.length
      · obtain ⟨g, rfl, c0, c1⟩ := hc.out 1 hlt
        have k1 : (1 : Int) < (L.length : Int) := by omega
        have hd := extract_piece s t HS.out (L.getD 1 (0, 0))
        have EQ := RD.ok1 (t := t) hlt
        have hpl : (RD.piece t (L.getD 1 (0, 0))).length ≤ 1048576 := by
          have hmem : L.getD 1 (0, 0) ∈ L := by rw [List.getD_eq_getElem?_getD, List.getElem?_eq_getElem hlt]; exact List.getElem_mem hlt
          have := HP.out _ hmem
          unfold RD.piece
          rw [List.length_drop, List.length_take]
          omega
        clear c1 hc
        by_cases h : RD.piece t (L.getD 1 (0, 0)) = [99, 110, 102]
        · have EK : RD.okAt t L 1 = true := by rw [EQ, decide_eq_true h]
          rw [h] at hd
          have hu := sis hd
          rw [hu] at c0
          clear EQ h hd hu hpl
          have OK2 := hide (ok_next OK.out EK)
          clear EK HH HY HN BD HRR OK 
          go_wp2_with fail
          go_round
          case rel => exact ⟨1 + 1, rfl, by omega, rfl, OK2⟩
          case measure => simp [intOf]
        · have EK : RD.okAt t L 1 = false := by rw [EQ, decide_eq_false h]
          obtain ⟨e1, e2, e3, e4, e5⟩ := sno hd h
          generalize s.extract (L.getD 1 (0, 0)).1 (L.getD 1 (0, 0)).2 = u at *
          clear EQ h hd hpl
          have EA := hide (HH.out 1 (by omega) OK.out EK)
          have pq := hide (place_calls w1 s t (.slice (some ⟨g, 0, none⟩) L.length vc) L 1 HS.out HW.out)
          clear EK HH HY HN BD HRR OK 
          go_wp2_with (first
            | (go_at_call 49; refine pq.out.mono ?_; rintro e w2 ⟨rfl, hw2⟩; subst w2))
          exact bodyPost_ret (v := .tuple #[.agg #[.int .i64 0, .slice none 0 0, .slice none 0 0], .int .i64 40, .int .i64 (RD.headAt t (L.drop 1) : Nat)]) (by simp [results, Try.results24, go_sem, d0, d1, d2]) rfl (wpost_no (((B1.out.setCell (Nat.le_refl _) _).setCell (Nat.le_refl _) _).setCell (Nat.le_refl _) _) EA.out rfl)
      · have EK := RD.okAt_none (t := t) (by omega : 1 < 4) hlt
        have k1 : ¬ (1 : Int) < (L.length : Int) := by omega
        have k2 : decide ((1 : Int) < (L.length : Int)) = false := decide_eq_false k1
        have EA := hide (HH.out 1 (by omega) OK.out EK)
        have pq := hide (place_calls w1 s t (.slice va L.length vc) L 1 HS.out HW.out)
        clear EK HH HY HN BD HRR OK hc
        go_wp2_with (first
          | (go_at_call 49; refine pq.out.mono ?_; rintro e w2 ⟨rfl, hw2⟩; subst w2))
        exact bodyPost_ret (v := .tuple #[.agg #[.int .i64 0, .slice none 0 0, .slice none 0 0], .int .i64 40, .int .i64 (RD.headAt t (L.drop 1) : Nat)]) (by simp [results, Try.results24, go_sem, d0, d1, d2]) rfl (wpost_no (((B1.out.setCell (Nat.le_refl _) _).setCell (Nat.le_refl _) _).setCell (Nat.le_refl _) _) EA.out rfl)
    · by_cases hlt : 2 < L.length
      · obtain ⟨g, rfl, c0, c1⟩ := hc.out 2 hlt
        have k1 : (2 : Int) < (L.length : Int) := by omega
        have hd := extract_piece s t HS.out (L.getD 2 (0, 0))
        have EQ := RD.ok2 (t := t) hlt
        have hpl : (RD.piece t (L.getD 2 (0, 0))).length ≤ 1048576 := by
          have hmem : L.getD 2 (0, 0) ∈ L := by rw [List.getD_eq_getElem?_getD, List.getElem?_eq_getElem hlt]; exact List.getElem_mem hlt
          have := HP.out _ hmem
          unfold RD.piece
          rw [List.length_drop, List.length_take]
          omega
        clear c1 hc
        have vq := value_calls w1 (s.extract (L.getD 2 (0, 0)).1 (L.getD 2 (0, 0)).2) _ 1000000 hd (by omega) (by omega)
        have hva := RD.valAt_some (t := t) hlt
        rw [hvars.out] at hva
        generalize s.extract (L.getD 2 (0, 0)).1 (L.getD 2 (0, 0)).2 = u at *
        by_cases h : RD.num (RD.piece t (L.getD 2 (0, 0))) = true ∧ RD.val (RD.piece t (L.getD 2 (0, 0))) ≤ 1000000
        · have EK : RD.okAt t L 2 = true := by rw [EQ, h.1, decide_eq_true h.2]; rfl
          have hV : RD.valueOf (RD.piece t (L.getD 2 (0, 0))) 1000000 = (vars : Int) := by unfold RD.valueOf; rw [if_pos h, hva]
          rw [hV] at vq
          replace vq := hide vq
          clear EQ h hd hpl hV hva hvars
          have OK2 := hide (ok_next OK.out EK)
          clear EK HH HY HN BD HRR OK 
          go_wp2_with (go_at_call 47; refine vq.out.mono ?_; rintro e w2 ⟨rfl, hw2⟩; subst w2)
          go_round
          case rel => exact ⟨2 + 1, rfl, by omega, rfl, OK2⟩
          case measure => simp [intOf]
        · have EK : RD.okAt t L 2 = false := by
            rw [EQ]
            refine b_no (fun c => h ?_)
            simp only [Bool.and_eq_true, decide_eq_true_eq] at c
            exact c
          have hV : RD.valueOf (RD.piece t (L.getD 2 (0, 0))) 1000000 = -1 := by unfold RD.valueOf; rw [if_neg h]
          rw [hV] at vq
          replace vq := hide vq
          clear EQ h hd hpl hV hva hvars
          have EA := hide (HH.out 2 (by omega) OK.out EK)
          have pq := hide (place_calls w1 s t (.slice (some ⟨g, 0, none⟩) L.length vc) L 2 HS.out HW.out)
          clear EK HH HY HN BD HRR OK 
          go_wp2_with (first
            | (go_at_call 49; refine pq.out.mono ?_; rintro e w2 ⟨rfl, hw2⟩; subst w2)
            | (go_at_call 47; refine vq.out.mono ?_; rintro e w2 ⟨rfl, hw2⟩; subst w2))
          exact bodyPost_ret (v := .tuple #[.agg #[.int .i64 0, .slice none 0 0, .slice none 0 0], .int .i64 40, .int .i64 (RD.headAt t (L.drop 2) : Nat)]) (by simp [results, Try.results24, go_sem, d0, d1, d2]) rfl (wpost_no (((B1.out.setCell (Nat.le_refl _) _).setCell (Nat.le_refl _) _).setCell (Nat.le_refl _) _) EA.out rfl)
      · have EK := RD.okAt_none (t := t) (by omega : 2 < 4) hlt
        have k1 : ¬ (2 : Int) < (L.length : Int) := by omega
        have k2 : decide ((2 : Int) < (L.length : Int)) = false := decide_eq_false k1
        have EA := hide (HH.out 2 (by omega) OK.out EK)
        have pq := hide (place_calls w1 s t (.slice va L.length vc) L 2 HS.out HW.out)
        clear EK HH HY HN BD HRR OK hc
        go_wp2_with (first
          | (go_at_call 49; refine pq.out.mono ?_; rintro e w2 ⟨rfl, hw2⟩; subst w2))
        exact bodyPost_ret (v := .tuple #[.agg #[.int .i64 0, .slice none 0 0, .slice none 0 0], .int .i64 40, .int .i64 (RD.headAt t (L.drop 2) : Nat)]) (by simp [results, Try.results24, go_sem, d0, d1, d2]) rfl (wpost_no (((B1.out.setCell (Nat.le_refl _) _).setCell (Nat.le_refl _) _).setCell (Nat.le_refl _) _) EA.out rfl)
    · by_cases hlt : 3 < L.length
      · obtain ⟨g, rfl, c0, c1⟩ := hc.out 3 hlt
        have k1 : (3 : Int) < (L.length : Int) := by omega
        have hd := extract_piece s t HS.out (L.getD 3 (0, 0))
        have EQ := RD.ok3 (t := t) hlt
        have hpl : (RD.piece t (L.getD 3 (0, 0))).length ≤ 1048576 := by
          have hmem : L.getD 3 (0, 0) ∈ L := by rw [List.getD_eq_getElem?_getD, List.getElem?_eq_getElem hlt]; exact List.getElem_mem hlt
          have := HP.out _ hmem
          unfold RD.piece
          rw [List.length_drop, List.length_take]
          omega
        clear c1 hc
        have nq := isnum_calls w1 (s.extract (L.getD 3 (0, 0)).1 (L.getD 3 (0, 0)).2) _ hd (by omega)
        generalize s.extract (L.getD 3 (0, 0)).1 (L.getD 3 (0, 0)).2 = u at *
        cases h : RD.num (RD.piece t (L.getD 3 (0, 0)))
        · have EK : RD.okAt t L 3 = false := by rw [EQ, h]
          rw [h] at nq
          replace nq := hide nq
          clear EQ h hd hpl
          have EA := hide (HH.out 3 (by omega) OK.out EK)
          have pq := hide (place_calls w1 s t (.slice (some ⟨g, 0, none⟩) L.length vc) L 3 HS.out HW.out)
          clear EK HH HY HN BD HRR OK 
          go_wp2_with (first
            | (go_at_call 49; refine pq.out.mono ?_; rintro e w2 ⟨rfl, hw2⟩; subst w2)
            | (go_at_call 48; refine nq.out.mono ?_; rintro e w2 ⟨rfl, hw2⟩; subst w2))
          exact bodyPost_ret (v := .tuple #[.agg #[.int .i64 0, .slice none 0 0, .slice none 0 0], .int .i64 40, .int .i64 (RD.headAt t (L.drop 3) : Nat)]) (by simp [results, Try.results24, go_sem, d0, d1, d2]) rfl (wpost_no (((B1.out.setCell (Nat.le_refl _) _).setCell (Nat.le_refl _) _).setCell (Nat.le_refl _) _) EA.out rfl)
        · have EK : RD.okAt t L 3 = true := by rw [EQ, h]
          rw [h] at nq
          replace nq := hide nq
          clear EQ h hd hpl
          have OK2 := hide (ok_next OK.out EK)
          clear EK HH HY HN BD HRR OK 
          go_wp2_with (go_at_call 48; refine nq.out.mono ?_; rintro e w2 ⟨rfl, hw2⟩; subst w2)
          go_round
          case rel => exact ⟨3 + 1, rfl, by omega, rfl, OK2⟩
          case measure => simp [intOf]
      · have EK := RD.okAt_none (t := t) (by omega : 3 < 4) hlt
        have k1 : ¬ (3 : Int) < (L.length : Int) := by omega
        have k2 : decide ((3 : Int) < (L.length : Int)) = false := decide_eq_false k1
        have EA := hide (HH.out 3 (by omega) OK.out EK)
        have pq := hide (place_calls w1 s t (.slice va L.length vc) L 3 HS.out HW.out)
        clear EK HH HY HN BD HRR OK hc
        go_wp2_with (first
          | (go_at_call 49; refine pq.out.mono ?_; rintro e w2 ⟨rfl, hw2⟩; subst w2))
        exact bodyPost_ret (v := .tuple #[.agg #[.int .i64 0, .slice none 0 0, .slice none 0 0], .int .i64 40, .int .i64 (RD.headAt t (L.drop 3) : Nat)]) (by simp [results, Try.results24, go_sem, d0, d1, d2]) rfl (wpost_no (((B1.out.setCell (Nat.le_refl _) _).setCell (Nat.le_refl _) _).setCell (Nat.le_refl _) _) EA.out rfl)
    · have h4 : 4 ≤ L.length := by have := RD.okAt_lt (by omega) (OK.out 3 (by omega)); omega
      have h3l : 3 < L.length := by omega
      obtain ⟨g, rfl, c0, c1⟩ := hc.out 3 h3l
      have k1 : (3 : Int) < (L.length : Int) := by omega
      have hd := extract_piece s t HS.out (L.getD 3 (0, 0))
      have hpl : (RD.piece t (L.getD 3 (0, 0))).length ≤ 1048576 := by
        have hmem : L.getD 3 (0, 0) ∈ L := by rw [List.getD_eq_getElem?_getD, List.getElem?_eq_getElem h3l]; exact List.getElem_mem h3l
        have := HP.out _ hmem
        unfold RD.piece
        rw [List.length_drop, List.length_take]
        omega
      have hvb : vars ≤ 1000000 := by
        have e := OK.out 2 (by omega)
        rw [RD.ok2 (by omega), ← RD.valAt_some (by omega), hvars.out] at e
        simp only [Bool.and_eq_true, decide_eq_true_eq] at e
        exact e.2
      have bq := hide (body_calls w1 s t _ L vars (s.extract (L.getD 3 (0, 0)).1 (L.getD 3 (0, 0)).2) _ HS.out hd hpl HW.out hl (by omega) h4 hvb HP.out)
      have HRR' : RD.bodyW t vars (cntW t L (RD.piece t (L.getD 3 (0, 0)))) (L.drop 4) = R := HRR.out
      rw [HRR'] at bq
      have BD' := BD.out h4
      clear c1 hc hd hpl HRR HRR' BD HH
      generalize s.extract (L.getD 3 (0, 0)).1 (L.getD 3 (0, 0)).2 = u at *
      cases hb : R.1
      · have EA := hide (HN.out OK.out hb)
        obtain ⟨n2, hn2⟩ : ∃ n2, L.length - R.2.2.2.length = n2 := ⟨_, rfl⟩
        rw [hn2] at BD'
        rw [BD'] at EA
        replace hn2 := hide hn2
        have PQ := hide (fun W h => place_calls W s t (.slice (some ⟨g, 0, none⟩) L.length vc) L n2 HS.out (HW.out.keep (w' := W) h))
        clear BD' HN HY OK
        go_upto_region 19 with (go_at_call 50; refine bq.out.mono ?_; intro e w2 hp2; obtain ⟨bb, -, rn⟩ := hp2; have rn' := rn hb; rw [hn2.out] at rn'; subst rn'; clear rn; have D2 := hide (D1.out.keep bb); have B2 := hide (B1.out.then_below bb); replace bb := hide bb)
        have B3' := hide (B2.out.alloc B2.out.size (.cells #[.int .i64 0, .slice none 0 0, .slice none 0 0] 25))
        have D3 := hide (D2.out.keep ((Below.refl _ _).alloc (Nat.le_refl _) (.cells #[.int .i64 0, .slice none 0 0, .slice none 0 0] 25)))
        have bb3 := hide (bb.out.then_below ((Below.refl _ _).alloc (Nat.le_refl _) (.cells #[.int .i64 0, .slice none 0 0, .slice none 0 0] 25)))
        clear d0 d1 d2 z0 z1 z2 c0 D2 B2 bb bq hb
        generalize w2.alloc (.cells #[.int .i64 0, .slice none 0 0, .slice none 0 0] 25) = w3 at *
        obtain ⟨d0, d1, d2, z0, z1, z2⟩ := D3.out.cells
        have pq := hide (PQ.out w3 bb3.out)
        go_wp2_with (go_at_call 49; refine pq.out.mono ?_; rintro e w4 ⟨rfl, hw4⟩; subst w4)
        exact bodyPost_ret (v := .tuple #[.agg #[.int .i64 0, .slice none 0 0, .slice none 0 0], .int .i64 40, .int .i64 (RD.headAt t (L.drop n2) : Nat)]) (by simp [results, Try.results24, go_sem, d0, d1, d2]) rfl (wpost_no (((B3'.out.setCell (Nat.le_refl _) _).setCell (Nat.le_refl _) _).setCell (Nat.le_refl _) _) EA.out rfl)
      · have EA := hide (HY.out OK.out hb)
        clear BD' HN HY OK
        go_upto_region 19 with (go_at_call 50; refine bq.out.mono ?_; intro e w2 hp2; obtain ⟨bb, ry, -⟩ := hp2; obtain ⟨vcc, vt, vals, he, CC, TT⟩ := ry hb; subst he; clear ry; obtain ⟨ac, kc, rfl⟩ := CC.slice; obtain ⟨at_, kt, rfl⟩ := row_slice TT; have D2 := hide (D1.out.keep bb); have B2 := hide (B1.out.then_below bb); replace bb := hide bb; replace CC := hide CC; replace TT := hide TT)
        have B3' := hide (B2.out.alloc B2.out.size (.cells #[.int .i64 (vars : Int), .slice ac R.2.1.length kc, .slice at_ R.2.2.1.length kt] 25))
        have D3 := hide (D2.out.keep ((Below.refl _ _).alloc (Nat.le_refl _) (.cells #[.int .i64 (vars : Int), .slice ac R.2.1.length kc, .slice at_ R.2.2.1.length kt] 25)))
        have C3 := hide (CC.out.below ((Below.refl _ _).alloc (Nat.le_refl _) (.cells #[.int .i64 (vars : Int), .slice ac R.2.1.length kc, .slice at_ R.2.2.1.length kt] 25)))
        have T3 := hide (row_below TT.out ((Below.refl _ _).alloc (Nat.le_refl _) (.cells #[.int .i64 (vars : Int), .slice ac R.2.1.length kc, .slice at_ R.2.2.1.length kt] 25)))
        have N3 := hide (B3.new w2 (.int .i64 (vars : Int)) (.slice ac R.2.1.length kc) (.slice at_ R.2.2.1.length kt))
        have lt1 := D1.out.lt
        clear d0 d1 d2 z0 z1 z2 c0 D2 B2 bb bq hb CC TT
        generalize hw3 : w2.alloc (.cells #[.int .i64 (vars : Int), .slice ac R.2.1.length kc, .slice at_ R.2.2.1.length kt] 25) = w3 at *
        clear hw3
        obtain ⟨d0, d1, d2, z0, z1, z2⟩ := D3.out.cells
        obtain ⟨f0, f1, f2, y0, y1, y2⟩ := N3.out.cells
        go_wp2_with fail
        refine bodyPost_ret (v := .tuple #[.agg #[.int .i64 (vars : Int), .slice ac R.2.1.length kc, .slice at_ R.2.2.1.length kt], .int .i64 0, .int .i64 0]) (by simp [results, Try.results24, go_sem, d0, d1, d2]) rfl (wpost_yes (vals := vals) (((B3'.out.setCell (Nat.le_refl _) _).setCell (Nat.le_refl _) _).setCell (Nat.le_refl _) _) EA.out ?_ ?_ rfl)
        · exact (((C3.out.set (by omega)).set (by omega)).set (by omega)).low (by omega)
        · exact row_low (ownsRow_setCell_below (ownsRow_setCell_below (ownsRow_setCell_below T3.out (a := ⟨w.heap.size, 0, none⟩) (by show w.heap.size < w1.heap.size; omega) _) (a := ⟨w.heap.size, 1, none⟩) (by show w.heap.size < w1.heap.size; omega) _) (a := ⟨w.heap.size, 2, none⟩) (by show w.heap.size < w1.heap.size; omega) _) (by omega)
end Go.Proofs.Ytkdalejceclanaa
