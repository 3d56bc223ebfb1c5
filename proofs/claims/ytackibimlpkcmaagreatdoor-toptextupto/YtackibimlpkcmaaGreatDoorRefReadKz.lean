/-
  The document's side of sexp: Read.
-/
import Derived.Test.YtackibimlpkcmaaGreatDoorRefNodesKz
/- ==== RefRead ==== -/
namespace Go.Proofs.YtackibimlpkcmaaGreatDoor
open Go.RowKit
set_option linter.unusedVariables false
theorem getD_front (tq : List Int) (m j : Nat) (h : j < tq.length) : (tq ++ List.replicate m 0).getD j 0 = tq.getD j 0 := by
  rw [List.getD_eq_getElem?_getD, List.getD_eq_getElem?_getD, List.getElem?_append_left h]
theorem firstNeg_at (tq : List Int) (k : Nat) (h : k < tq.length) : (X.firstNeg tq = k ↔ (tq.getD k 0 < 0 ∧ ∀ j, j < k → 0 ≤ tq.getD j 0)) := by
  constructor
  · intro e
    subst e
    refine ⟨?_, fun j hj => ?_⟩
    · have := List.findIdx_getElem (xs := tq) (p := fun x => decide (x < 0)) (w := h)
      rw [List.getD_eq_getElem?_getD, List.getElem?_eq_getElem h]
      exact of_decide_eq_true this
    · have := List.not_of_lt_findIdx (xs := tq) (p := fun x => decide (x < 0)) hj
      rw [List.getD_eq_getElem?_getD, List.getElem?_eq_getElem (by omega)]
      simpa using this
  · rintro ⟨h1, h2⟩
    exact X.firstNeg_of h2 (.inr ⟨h, h1⟩)
theorem cl_bad {l : List S.Tok} {tq : List Int} {b : Nat} (h : X.cl l 0 [] [] = .inr (tq, b)) : b < l.length := by
  rcases X.in_step l l 0 [] [] [] [] rfl (X.inv_zero l) with ⟨ns, st, tq', op, e1, e2, _⟩ | ⟨ns, b', tq', e1, e2, hb, _, _⟩
  · rw [h] at e2
    simp at e2
  · rw [h] at e2
    simp only [Sum.inr.injEq, Prod.mk.injEq] at e2
    rw [e2.2]
    exact hb
theorem cl_len {l : List S.Tok} {tq : List Int} {op : List Nat} (h : X.cl l 0 [] [] = .inl (tq, op)) : tq.length = l.length := by
  rcases X.in_step l l 0 [] [] [] [] rfl (X.inv_zero l) with ⟨ns, st, tq', op', e1, e2, hI⟩ | ⟨ns, b', tq', e1, e2, hb, _, _⟩
  · rw [h] at e2
    simp only [Sum.inl.injEq, Prod.mk.injEq] at e2
    rw [e2.1]
    exact hI.1
  · rw [h] at e2
    simp at e2
set_option maxRecDepth 100000 in
set_option maxHeartbeats 1000000 in
theorem sread_calls (w : World) (hr : Rsv w) (s : ByteArray) (l : List UInt8) (hs : s.data.toList = l) (hl : l.length ≤ 1073741824) (o : List X.N × Nat × Nat) (ho : o = X.dout (S.run resv .idle l 0).1 (S.run resv .idle l 0).2.1 (S.run resv .idle l 0).2.2) :
    Calls Tryz.prog 11 #[.string s] w fun e w' => ∃ v, e = .returned (.tuple #[v, .int .i64 o.2.1, .int .i64 o.2.2]) ∧ NRow w' v o.1 ∧ Below w.heap.size w w' := by
  have q0 := hide (rtokens_calls w hr s l hs hl)
  have hm := run_many l
  obtain ⟨O, hO⟩ : ∃ O, S.run resv .idle l 0 = O := ⟨_, rfl⟩
  rw [hO] at q0 hm ho
  obtain ⟨ts, e, p⟩ := O
  simp only at q0 hm ho
  obtain ⟨n, hn⟩ : ∃ n, ts.length = n := ⟨_, rfl⟩
  rw [hn] at hm
  have hn1 : n ≤ 4294967298 := by omega
  have fits := X.dEnd_fits ts
  have qc := hide (fun W v (hv : TRow W v ts) => closing_calls W v ts hv (by rw [hn]; exact hn1) _ rfl)
  have qn := hide (fun W v u tz hi B (hv : TRow W v ts) hu hz hhi hto => nodes_calls W v u ts tz hi B hv hu hz (by rw [hn]; exact hn1) hhi hto)
  have hnH := hide hn
  clear hr hs hl hO hm hn
  unfold X.dEnd X.dTo at fits
  unfold X.dout at ho
  rcases hcl : X.cl ts 0 [] [] with ⟨tq, op⟩ | ⟨tq, bad⟩
  · rw [hcl] at ho fits qc
    simp only at ho fits
    have out := hide ho
    clear ho
    obtain ⟨f1, f2, f3, f4⟩ := fits
    have htl := cl_len hcl
    rw [hnH.out] at f1 f2 htl
    clear hcl
    have qc2 : Hid (∀ W v, TRow W v ts → Calls Tryz.prog 25 #[v] W fun e w' => ∃ u, e = .returned (.tuple #[u, .int .i64 (-1)]) ∧ (∃ m, OwnI W.heap.size w' u (tq ++ List.replicate m 0) ∧ tq.length + m = ts.length) ∧ Below W.heap.size W w') := qc.out
    clear qc
    have f4H := hide f4
    clear f4
    go_enter Tryz.func11, Tryz.ntmps11
    go_wp2_with (first
      | (go_at_call 24; refine q0.out.mono ?_; rintro x w1 ⟨v1, rfl, u1, b1⟩; have t1 := hide (ownsRow.trow u1); obtain ⟨a1, cp1, rfl, n1, n1'⟩ := t1.out.shape; simp only [hnH.out] at n1 t1; rw [hnH.out]; replace b1 := hide b1; clear u1 q0)
      | (go_at_call 25; refine (qc2.out w1 _ t1.out).mono ?_; rintro x w2 ⟨u2, rfl, ⟨m, o2, hm2⟩, b2⟩; have hm0 : m = 0 := (by have := hnH.out; omega); subst hm0; simp only [List.replicate_zero, List.append_nil] at o2; replace o2 := hide o2; replace b2 := hide b2; clear hm2))
    obtain ⟨ua, uc, hua⟩ := own_shape (ownsRow_zero o2.out)
    subst hua
    rw [htl] at o2 ⊢
    have htlH := hide htl
    have t2 := hide (t1.out.below b2.out)
    have q5 := hide (fun k (hk : X.firstNeg tq = k) => qn.out w2 (.slice a1 n cp1) (.slice ua n uc) tq k w1.heap.size t2.out o2.out (by rw [hnH.out]; exact htlH.out) (by rw [hnH.out]; omega) (fun j hj => by rw [← hk] at hj ⊢; exact f4H.out j hj))
    clear htl qn
    go_loop [10, 11] (fun en j => ∃ k : Nat, k ≤ n ∧ en = .int .i64 n ∧ j = .int .i64 k ∧ Hid (∀ j, j < k → 0 ≤ tq.getD j 0)) (fun _ j => n - (intOf j).toNat)
    case atStart => exact ⟨0, Nat.zero_le _, rfl, rfl, fun j h => absurd h (Nat.not_lt_zero j)⟩
    case round =>
      obtain ⟨k, hk, rfl, rfl, hP⟩ := hrel
      by_cases hlt : k < n
      · obtain ⟨G, cg, eG, _, _, _, hGl, _, hcellG, _⟩ := o2.out.at_ (j := k) (by rw [htlH.out]; exact hlt)
        rw [htlH.out] at eG hcellG
        cases eG
        have cG := hcellG k hlt
        have ik : (k : Int) < n := by omega
        obtain ⟨c, hc⟩ : ∃ c, tq.getD k 0 = c := ⟨_, rfl⟩
        rw [hc] at cG
        clear hcellG
        by_cases hneg : c < 0
        · have hf : X.firstNeg tq = k := (firstNeg_at tq k (by rw [htlH.out]; exact hlt)).2 ⟨by omega, hP.out⟩
          have q6 := hide (q5.out k hf)
          rw [hf] at out f1 f3
          clear hf
          clear q5
          by_cases he : e = 0
          · subst he
            have ie : (k : Int) < n := by omega
            obtain ⟨b, off, rfl, _, x1, _, _⟩ := t2.out.at_ (j := k) (by rw [hnH.out]; exact hlt)
            obtain ⟨bg, hbg⟩ : ∃ bg, (ts.getD k tk0).beg = bg := ⟨_, rfl⟩
            have hbg' : (ts.getD k X.t0).beg = bg := hbg
            rw [hbg] at x1
            have hbl : b < w2.heap.size := World.block_lt_of_cell? w2 _ x1
            rw [if_neg (by simp), if_pos (by rw [hnH.out]; exact hlt), if_neg (by simp), if_pos (by rw [hnH.out]; exact hlt), hbg'] at out
            clear hbg hbg'
            go_wp2_with (first | (go_at_call 26; refine q6.out.mono ?_; rintro x wa ⟨r, rfl, ra, ba⟩; have x5 := (ba.cell (p := ⟨b, off + k * 4 + 1, none⟩) hbl).trans x1; replace ra := hide ra; replace ba := hide ba))
            go_quiet (fail)
            go_wp2
            refine bodyPost_ret (v := .tuple #[r, .int .i64 21, .int .i64 (bg : Int)]) (by simp [results, Tryz.results11, go_sem]) rfl ?_
            exact ⟨_, by rw [out.out]; rfl, by rw [out.out]; exact ra.out.below (below_drewN (Below.refl _ _) _), below_drewN ((b1.out.then_below b2.out).then_below ba.out) _⟩
          · have he1 : ¬ (e : Int) = 0 := by omega
            go_wp2_with (first | (go_at_call 26; refine q6.out.mono ?_; rintro x wa ⟨r, rfl, ra, ba⟩; replace ra := hide ra; replace ba := hide ba))
            refine bodyPost_ret (v := .tuple #[r, .int .i64 (e : Int), .int .i64 (p : Int)]) (by simp [results, Tryz.results11, go_sem]) rfl ?_
            exact ⟨_, by rw [out.out, if_pos he, if_pos he], by rw [out.out]; exact ra.out, (b1.out.then_below b2.out).then_below ba.out⟩
        · have hnn : ¬ c < 0 := hneg
          have hP2 : Hid (∀ j, j < k + 1 → 0 ≤ tq.getD j 0) := by
            intro j hj
            by_cases h : j = k
            · rw [h, hc]; omega
            · exact hP.out j (by omega)
          go_wp2
          go_round
          case rel => exact ⟨k + 1, by omega, rfl, by go_num, hP2⟩
          case measure => simp [intOf]; omega
      · have hkn : k = n := by omega
        have ik : ¬ (k : Int) < n := by omega
        have inn : ¬ (n : Int) < n := by omega
        have hf : X.firstNeg tq = n := X.firstNeg_of (by rw [← hkn]; exact hP.out) (.inl htlH.out.symm)
        have q6 := hide (q5.out n hf)
        rw [hf] at out f1 f3
        clear hf
        clear q5
        by_cases he : e = 0
        · subst he
          rw [if_neg (by simp), if_neg (by rw [hnH.out]; omega), if_neg (by simp), if_neg (by rw [hnH.out]; omega)] at out
          go_wp2_with (first | (go_at_call 26; refine q6.out.mono ?_; rintro x wa ⟨r, rfl, ra, ba⟩; replace ra := hide ra; replace ba := hide ba))
          refine bodyPost_ret (v := .tuple #[r, .int .i64 0, .int .i64 0]) (by simp [results, Tryz.results11, go_sem]) rfl ?_
          exact ⟨_, by rw [out.out]; rfl, by rw [out.out]; exact ra.out, (b1.out.then_below b2.out).then_below ba.out⟩
        · have he1 : ¬ (e : Int) = 0 := by omega
          go_wp2_with (first | (go_at_call 26; refine q6.out.mono ?_; rintro x wa ⟨r, rfl, ra, ba⟩; replace ra := hide ra; replace ba := hide ba))
          refine bodyPost_ret (v := .tuple #[r, .int .i64 (e : Int), .int .i64 (p : Int)]) (by simp [results, Tryz.results11, go_sem]) rfl ?_
          exact ⟨_, by rw [out.out, if_pos he, if_pos he], by rw [out.out]; exact ra.out, (b1.out.then_below b2.out).then_below ba.out⟩
  · rw [hcl] at ho fits qc
    simp only at ho fits
    have out := hide ho
    clear ho
    obtain ⟨f1, f2, f3, f4⟩ := fits
    rw [hnH.out] at f1 f2
    have hbn : bad < n := by rw [← hnH.out]; exact cl_bad hcl
    clear hcl
    have qc2 : Hid (∀ W v, TRow W v ts → Calls Tryz.prog 25 #[v] W fun e w' => ∃ u, e = .returned (.tuple #[u, .int .i64 (bad : Int)]) ∧ (∃ m, OwnI W.heap.size w' u (tq ++ List.replicate m 0) ∧ tq.length + m = ts.length) ∧ Below W.heap.size W w') := qc.out
    clear qc
    have f4H := hide f4
    have ib : (bad : Int) < n := by omega
    have ib0 : (0 : Int) ≤ bad := by omega
    clear f4
    go_enter Tryz.func11, Tryz.ntmps11
    go_wp2_with (first
      | (go_at_call 24; refine q0.out.mono ?_; rintro x w1 ⟨v1, rfl, u1, b1⟩; have t1 := hide (ownsRow.trow u1); obtain ⟨a1, cp1, rfl, n1, n1'⟩ := t1.out.shape; simp only [hnH.out] at n1 t1; rw [hnH.out]; replace b1 := hide b1; clear u1 q0)
      | (go_at_call 25; refine (qc2.out w1 _ t1.out).mono ?_; rintro x w2 ⟨u2, rfl, ⟨m, o2, hm2⟩, b2⟩; replace o2 := hide o2; replace b2 := hide b2; replace hm2 := hide hm2))
    obtain ⟨b, off, rfl, _, x1, _, _⟩ := (t1.out.below b2.out).at_ (j := bad) (by rw [hnH.out]; exact hbn)
    obtain ⟨bg, hbg⟩ : ∃ bg, (ts.getD bad tk0).beg = bg := ⟨_, rfl⟩
    have hbg' : (ts.getD bad X.t0).beg = bg := hbg
    rw [hbg] at x1
    have q5 := hide (fun W (hW : Below w2.heap.size w2 W) => qn.out W (.slice (some ⟨b, off, none⟩) n cp1) u2 (tq ++ List.replicate m 0) bad w1.heap.size ((t1.out.below b2.out).below hW) (ownsRow_kept o2.out hW) (by rw [List.length_append, List.length_replicate]; exact hm2.out) (by rw [hnH.out]; omega) (fun j hj => by rw [getD_front _ _ _ (by omega)]; exact f4H.out j hj))
    rw [X.nds_same ts tq _ bad (fun j hj => getD_front _ _ _ (by omega))] at q5
    have D1 : Below w2.heap.size w2 w2.drew := (Below.refl _ _).drew
    have S1 : w2.drew.cell? ⟨b, off + bad * 4 + 1, none⟩ = some (.int .i64 (bg : Int)) := x1
    have hbl : b < w2.heap.size := World.block_lt_of_cell? w2 _ x1
    have S2 : ∀ {wa : World}, Below w2.drew.heap.size w2.drew wa → wa.cell? ⟨b, off + bad * 4 + 1, none⟩ = some (.int .i64 (bg : Int)) := fun h => (h.cell (p := ⟨b, off + bad * 4 + 1, none⟩) hbl).trans S1
    rw [hbg'] at out
    generalize X.nds ts tq bad = nn at q5 out
    go_region_held3 (fun w' => w'.cell? ⟨b, off + bad * 4 + 1, none⟩ = some (.int .i64 (bg : Int)))
      (first
        | with_reducible exact x1
        | with_reducible exact S1
        | with_reducible exact S2 ba)
      (first | (go_at_call 26; refine (q5.out _ D1).mono ?_; rintro x wa ⟨r, rfl, ra, ba⟩))
    all_goals go_wp2
    all_goals refine bodyPost_ret (v := .tuple #[r, .int .i64 20, .int .i64 (bg : Int)]) (by simp [results, Tryz.results11, go_sem]) rfl ?_
    all_goals exact ⟨_, by rw [out.out]; rfl, by rw [out.out]; exact ra, (b1.out.then_below b2.out).trans ((D1.then_below ba).mono (b1.out.then_below b2.out).size)⟩
end Go.Proofs.YtackibimlpkcmaaGreatDoor
