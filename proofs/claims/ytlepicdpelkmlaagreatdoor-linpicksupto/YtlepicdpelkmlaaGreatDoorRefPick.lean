/-
  The document's Pick (arbiterref2): it tells what PickA says.
-/
import Derived.Test.YtlepicdpelkmlaaGreatDoorRefFault
import Derived.Test.YtlepicdpelkmlaaGreatDoorLinPick
import Derived.Deep.Cut
namespace Go.Proofs.YtlepicdpelkmlaaGreatDoor
open Go.RowKit
set_option linter.unusedVariables false
theorem MB.lo {m : Rat} (h : MB m) : Lo m := h
theorem cmpQ_gt (x : Rat) : 0 < cmpQ x 0 ↔ 0 < x := by
  have h1 := cmpQ_lt x 0
  have h2 := cmpQ_zero x
  by_cases h : x < 0
  · have := h1.2 h
    refine ⟨fun q => ?_, fun q => ?_⟩
    · omega
    · grind
  · by_cases e : x = 0
    · have := h2.2 e
      subst e
      refine ⟨fun q => ?_, fun q => ?_⟩
      · omega
      · exact absurd q (by decide)
    · have n1 : ¬ cmpQ x 0 < 0 := fun q => h (h1.1 q)
      have n2 : ¬ cmpQ x 0 = 0 := fun q => e (h2.1 q)
      refine ⟨fun _ => by grind, fun _ => by omega⟩
theorem all_next {α : Type} (f : α → Bool) (ts : List α) (d : α) (k : Nat) (h : k < ts.length) : (ts.take (k + 1)).all f = ((ts.take k).all f && f (ts.getD k d)) := by
  rw [List.take_add_one, List.getElem?_eq_getElem h, List.all_append, List.getD_eq_getElem?_getD, List.getElem?_eq_getElem h]
  simp
/-- How the second loop stands. -/
def DkAt (w wr : World) (d : Value) (ps : List Pq) (k : Nat) : Prop :=
  ∃ m, MB m ∧ d = .string (tB m) ∧ pickR (ps.map Pq.q) 1 = pickR ((ps.drop k).map Pq.q) m ∧ Below w.heap.size w wr
set_option maxRecDepth 100000 in
set_option maxHeartbeats 8000000 in
theorem rpick_calls (w : World) (v : Value) (ps : List Pq) (h : QRow w v ps) (hn : ps.length ≤ 1048576) (hz : ∀ j, j < ps.length → (ps.getD j Pq.z).sz ≤ 1048576) :
    Calls Tryz.prog 6 #[v] w fun e w' => (∃ d c, e = .returned (.tuple #[.string d, .int .i64 c]) ∧ PickA ps d c) ∧ Below w.heap.size w w' := by
  obtain ⟨va, vc, rfl, n1, n2⟩ := h.shape
  obtain ⟨n, hN⟩ : ∃ n, ps.length = n := ⟨_, rfl⟩
  rw [hN] at n1 h hn hz ⊢
  have hNh := hide hN
  have hP := hide h
  have hZ := hide hz
  have F0 : Hid (FX (w.alloc (.cells #[.bool false, .bool false, .bool false] 53)) w.heap.size (!(ps.take 0).all Pq.ok)) := heap_alloc_new w _
  have N0 : Hid (Below w.heap.size w (w.alloc (.cells #[.bool false, .bool false, .bool false] 53))) := alloc_below _ _
  clear h hz hN
  go_enter Tryz.func6, Tryz.ntmps6
  go_wp2
  go_loopw [5] (fun j wr => ∃ k : Nat, k ≤ n ∧ j = .int .i64 k ∧ Hid (FX wr w.heap.size (!(ps.take k).all Pq.ok)) ∧ Hid (Below w.heap.size w wr)) (fun j _ => n - (intOf j).toNat)
  case atStart => exact ⟨0, Nat.zero_le _, rfl, F0, N0⟩
  case round =>
    clear F0 N0
    obtain ⟨k, hk, rfl, hF, hB⟩ := hrel
    by_cases hlt : k < n
    · obtain ⟨b, off, rfl, c0, c1, c2, c3⟩ := (hP.out.below hB.out).at_ (j := k) (by rw [hNh.out]; exact hlt)
      have old : b < w.heap.size := by
        obtain ⟨b', off', e, d0, -⟩ := hP.out.at_ (j := k) (by rw [hNh.out]; exact hlt)
        cases e
        exact World.block_lt_of_cell? w _ d0
      have sz := hZ.out k hlt
      have nx := hide (all_next Pq.ok ps Pq.z k (by rw [hNh.out]; exact hlt))
      generalize ps.getD k Pq.z = p at c0 c1 c2 c3 sz nx
      obtain ⟨pa, pb, pc, pd⟩ := p
      simp only [Pq.sz, slen] at c0 c1 c2 c3 sz
      have q1 := hide (fDelta wr w.heap.size _ hF.out pa pb (by omega) (by omega))
      have i1 : (k : Int) < n := by omega
      have nb : some b ≠ some w.heap.size := by intro c; cases c; omega
      go_wp2_with (first
        | (go_at_call_of 15 (Value.agg #[Value.string pa, Value.string pb]); refine q1.out.mono ?_; rintro e w1 ⟨rfl, f1, g1⟩; have k2 := g1.cell c2 nb; have k3 := g1.cell c3 nb; have q2 := hide (fDelta w1 w.heap.size _ f1 pc pd (by omega) (by omega)); replace g1 := hide g1; clear f1)
        | (go_at_call 15; (with_reducible refine q2.out.mono ?_); rintro e w2 ⟨rfl, f2, g2⟩; replace f2 := hide f2; replace g2 := hide g2))
      go_roundw
      case rel =>
        refine ⟨k + 1, by omega, by go_num, ?_, (hB.out.then_grown g1.out (fun g e => by cases e; exact Nat.le_refl _)).then_grown g2.out (fun g e => by cases e; exact Nat.le_refl _)⟩
        rw [nx.out]
        have := f2.out
        show FX _ _ _
        rw [show (!((ps.take k).all Pq.ok && Pq.ok ⟨pa, pb, pc, pd⟩)) = (!(ps.take k).all Pq.ok || !(canB pa.data.toList && canB pb.data.toList) || !(canB pc.data.toList && canB pd.data.toList)) by simp only [Pq.ok, okB]; cases (ps.take k).all Pq.ok <;> cases canB pa.data.toList <;> cases canB pb.data.toList <;> cases canB pc.data.toList <;> cases canB pd.data.toList <;> rfl]
        exact this
      case measure => simp [intOf]; omega
    · obtain rfl : n = k := by omega
      have i1 : ¬ (n : Int) < n := by omega
      have F1 : FX wr w.heap.size (!ps.all Pq.ok) := by have := hF.out; rwa [List.take_of_length_le (by rw [hNh.out]; exact Nat.le_refl _)] at this
      have q1 := hide (fFirst wr w.heap.size _ F1)
      obtain ⟨ok, hok⟩ : ∃ o, ps.all Pq.ok = o := ⟨_, rfl⟩
      rw [hok] at q1
      clear hF F1
      cases ok
      · have fin : Hid (PickA ps ⟨#[]⟩ 1) := .inl ⟨rfl, rfl, hok⟩
        clear hok
        go_wp2_with (go_at_call 16; refine q1.out.mono ?_; rintro e w1 ⟨rfl, b1⟩; rw [Bool.not_false, if_pos rfl]; have B1 := hide (hB.out.then_below b1); clear b1)
        refine bodyPost_ret (v := .tuple #[.string ⟨#[]⟩, .int .i64 1]) (by simp [results, Tryz.results6, go_sem]) rfl ?_
        exact ⟨⟨_, _, rfl, fin.out⟩, B1.out⟩
      · have allok := hide hok
        clear hok
        go_wp2_with (go_at_call 16; refine q1.out.mono ?_; rintro e w1 ⟨rfl, b1⟩; rw [Bool.not_true, if_neg (by decide)]; have L0 : Hid (DkAt w w1 (.string ⟨#[49]⟩) ps 0) := ⟨1, mb_one, by rw [t_one], by rw [List.drop_zero], hB.out.then_below b1⟩; clear b1)
        clear hB q1
        go_loopw [7, 8] (fun d j wr => ∃ k : Nat, k ≤ n ∧ j = .int .i64 k ∧ Hid (DkAt w wr d ps k)) (fun _ j _ => n - (intOf j).toNat)
        case atStart => exact ⟨0, Nat.zero_le _, rfl, L0⟩
        case round =>
          clear L0
          obtain ⟨k, hk, rfl, hL⟩ := hrel
          obtain ⟨m, m1, rfl, m3, hB⟩ := hL.out
          clear hL
          by_cases hlt : k < n
          · obtain ⟨b, off, rfl, c0, c1, c2, c3⟩ := (hP.out.below hB).at_ (j := k) (by rw [hNh.out]; exact hlt)
            have sz := hZ.out k hlt
            have ok := all_drop Pq.ok ps Pq.z k allok.out (by rw [hNh.out]; exact hlt)
            rw [drop_at ps Pq.z k (by rw [hNh.out]; exact hlt), List.map_cons] at m3
            generalize ps.getD k Pq.z = p at c0 c1 c2 c3 sz ok m3
            obtain ⟨pa, pb, pc, pd⟩ := p
            simp only [Pq.sz, slen] at c0 c1 c2 c3 sz
            simp only [Pq.ok, Bool.and_eq_true] at ok
            obtain ⟨⟨oa, ob⟩, oc, od⟩ := ok
            obtain ⟨ea, ba⟩ := ok_tB oa (by omega)
            obtain ⟨eb, bb⟩ := ok_tB ob (by omega)
            obtain ⟨ec, bc⟩ := ok_tB oc (by omega)
            obtain ⟨ed, bd⟩ := ok_tB od (by omega)
            obtain ⟨p4, hp4⟩ : ∃ p4, Pq.q ⟨pa, pb, pc, pd⟩ = p4 := ⟨_, rfl⟩
            rw [hp4] at m3
            obtain ⟨A, B, C, D⟩ := p4
            rw [show qV pa.data.toList = A from congrArg P4.la hp4] at ea ba
            rw [show qV pb.data.toList = B from congrArg P4.lb hp4] at eb bb
            rw [show qV pc.data.toList = C from congrArg P4.ha hp4] at ec bc
            rw [show qV pd.data.toList = D from congrArg P4.hb hp4] at ed bd
            clear hp4
            subst ea eb ec ed
            have m3 : pickR (ps.map Pq.q) 1 = if 0 < cmpD A B C D then none else pickR ((ps.drop (k + 1)).map Pq.q) (stepQ ⟨A, B, C, D⟩ m) := m3
            have qc := hide (fun W => dCompare W A B C D ba.s20 bb.s20 bc.s20 bd.s20 (Lo.up (by decide) ba) (Lo.up (by decide) bb) (Lo.up (by decide) bc) (Lo.up (by decide) bd))
            have q1 := hide (fun W => tSub W C A bc.s20 ba.s20 (Lo.up (by decide) bc) (Lo.up (by decide) ba))
            have q2 := hide (fun W => tSub W B D bb.s20 bd.s20 (Lo.up (by decide) bb) (Lo.up (by decide) bd))
            have qs1 := hide (fun W => tSign W (C - A) (bc.sub ba).s21)
            have qs2 := hide (fun W => tSign W (B - D) (bb.sub bd).s21)
            have qo := hide (fun W (hz : B - D ≠ 0) => tQuo W (C - A) (B - D) hz (bc.sub ba).s21 (bb.sub bd).s21 (Lo.up (by decide) (bc.sub ba)) (Lo.up (by decide) (bb.sub bd)))
            have mm := mb_meet bc ba bb bd
            have qm := hide (fun W => tCmp W ((C - A) / (B - D)) m mm.sz m1.sz mm.lo m1.lo)
            have i2 : (k : Int) < n := by omega
            have bA := alloc_below wr (.cells #[.string (tB A), .string (tB B)] 41)
            have bH := alloc_below (wr.alloc (.cells #[.string (tB A), .string (tB B)] 41)) (.cells #[.string (tB C), .string (tB D)] 41)
            have X1 := heap_alloc_new wr (.cells #[.string (tB A), .string (tB B)] 41)
            have X1' := (bH.block _ ((Array.getElem?_eq_some_iff.1 X1).1)).trans X1
            have X2 := heap_alloc_new (wr.alloc (.cells #[.string (tB A), .string (tB B)] 41)) (.cells #[.string (tB C), .string (tB D)] 41)
            rw [World.size_alloc] at X2
            have hb := World.block_lt_of_cell? _ _ c2
            have c2' := (bA.cell (p := ⟨b, off + k * 4 + 2, none⟩) hb).trans c2
            have c3' := (bA.cell (p := ⟨b, off + k * 4 + 3, none⟩) hb).trans c3
            obtain ⟨W2, hW2⟩ : ∃ W2, ((wr.alloc (.cells #[.string (tB A), .string (tB B)] 41)).alloc (.cells #[.string (tB C), .string (tB D)] 41)) = W2 := ⟨_, rfl⟩
            have B2 : Hid (Below w.heap.size w W2) := by rw [← hW2]; exact (hB.then_below bA).then_below bH
            rw [hW2] at X1' X2
            have CL : Hid (∀ W, Below W2.heap.size W2 W → (W.cell? ⟨wr.heap.size, 0, none⟩ = some (.string (tB A)) ∧ W.cell? ⟨wr.heap.size, 1, none⟩ = some (.string (tB B))) ∧ (W.cell? ⟨wr.heap.size + 1, 0, none⟩ = some (.string (tB C)) ∧ W.cell? ⟨wr.heap.size + 1, 1, none⟩ = some (.string (tB D)))) := fun W q =>
              ⟨box2 ((q.block _ ((Array.getElem?_eq_some_iff.1 X1').1)).trans X1'), box2 ((q.block _ ((Array.getElem?_eq_some_iff.1 X2).1)).trans X2)⟩
            obtain ⟨⟨x0, x1⟩, y0, y1⟩ := CL.out _ (Below.refl _ _)
            replace m1 := hide m1
            replace mm := hide mm
            clear oa ob oc od ba bb bc bd sz hB bA bH X1 X1' X2 hb
            go_upto_region 16 with fail
            go_wp2_with fail
            refine (qc.out _).mono ?_
            rintro e w1 ⟨rfl, b1⟩
            rw [show (if cmpQ A C = 0 then cmpQ B D else cmpQ A C) = cmpD A B C D from rfl]
            by_cases ho : 0 < cmpD A B C D
            · rw [if_pos ho] at m3
              have fin : Hid (PickA ps ⟨#[]⟩ 3) := .inr ⟨allok.out, .inl ⟨rfl, rfl, m3⟩⟩
              have B1 := hide (B2.out.then_below b1)
              clear m3 q1 q2 qs1 qs2 qo qm CL m1 mm x0 x1 y0 y1 b1
              generalize cmpD A B C D = c at *
              go_wp2
              refine bodyPost_ret (v := .tuple #[.string ⟨#[]⟩, .int .i64 3]) (by simp [results, Tryz.results6, go_sem]) rfl ?_
              exact ⟨⟨_, _, rfl, fin.out⟩, B1.out⟩
            · rw [if_neg ho] at m3
              have stp : Hid (stepQ ⟨A, B, C, D⟩ m = if 0 < C - A ∧ 0 < B - D ∧ (C - A) / (B - D) < m then (C - A) / (B - D) else m) := rfl
              have m3' := hide m3
              clear x0 x1 y0 y1
              obtain ⟨⟨x0, x1⟩, y0, y1⟩ := CL.out _ b1
              have t1 := hide b1
              clear m3 b1 hW2 c0 c1 c2 c3 c2' c3'
              generalize cmpD A B C D = c at ho ⊢
              have up := hide (cmpQ_gt (C - A))
              have dn := hide (cmpQ_gt (B - D))
              have ql := hide (cmpQ_lt ((C - A) / (B - D)) m)
              by_cases hu : 0 < C - A
              · have gu : 0 < cmpQ (C - A) 0 := up.out.2 hu
                replace hu := hide hu
                by_cases hd : 0 < B - D
                · have gd : 0 < cmpQ (B - D) 0 := dn.out.2 hd
                  have nz : B - D ≠ 0 := fun e => by rw [e] at hd; exact absurd hd (by decide)
                  replace hd := hide hd
                  by_cases hm : (C - A) / (B - D) < m
                  · have gm : cmpQ ((C - A) / (B - D)) m < 0 := ql.out.2 hm
                    have st : Hid (stepQ ⟨A, B, C, D⟩ m = (C - A) / (B - D)) := by show _ = _; rw [stp.out, if_pos ⟨hu.out, hd.out, hm⟩]
                    clear hm
                    go_wp2_with (first
                | (go_at_call_of 18 (Value.string (tB C)); refine (q1.out _).mono ?_; rintro e w2 ⟨rfl, b2⟩; have t2 := t1.out.then_below b2; obtain ⟨⟨-, p1⟩, -, p3⟩ := CL.out _ t2; replace t2 := hide t2; clear b2)
                | (go_at_call_of 18 (Value.string (tB B)); refine (q2.out _).mono ?_; rintro e w3 ⟨rfl, b3⟩; have t3 := hide (t2.out.then_below b3); clear b3 p1 p3)
                | (go_at_call_of 19 (Value.string (tB (C - A))); refine (qs1.out _).mono ?_; rintro e w4 ⟨rfl, b4⟩; have t4 := hide (t3.out.then_below b4); clear b4)
                | (go_at_call_of 19 (Value.string (tB (B - D))); refine (qs2.out _).mono ?_; rintro e w5 ⟨rfl, b5⟩; have t5 := hide (t4.out.then_below b5); clear b5)
                | (go_at_call 20; refine (qo.out _ nz).mono ?_; rintro e w6 ⟨rfl, b6⟩; have t6 := hide (t5.out.then_below b6); clear b6)
                | (go_at_call 21; refine (qm.out _).mono ?_; rintro e w7 ⟨rfl, b7⟩; have t7 := hide (t6.out.then_below b7); clear b7))
                    go_roundw
                    case rel => exact ⟨k + 1, by omega, by go_num, _, mm.out, rfl, by rw [← st.out]; exact m3'.out, B2.out.then_below t7.out⟩
                    case measure => simp [intOf]; omega
                  · have gm : ¬ cmpQ ((C - A) / (B - D)) m < 0 := fun e => hm (ql.out.1 e)
                    have st : Hid (stepQ ⟨A, B, C, D⟩ m = m) := by show _ = _; rw [stp.out, if_neg (fun e => hm e.2.2)]
                    clear hm
                    go_wp2_with (first
                | (go_at_call_of 18 (Value.string (tB C)); refine (q1.out _).mono ?_; rintro e w2 ⟨rfl, b2⟩; have t2 := t1.out.then_below b2; obtain ⟨⟨-, p1⟩, -, p3⟩ := CL.out _ t2; replace t2 := hide t2; clear b2)
                | (go_at_call_of 18 (Value.string (tB B)); refine (q2.out _).mono ?_; rintro e w3 ⟨rfl, b3⟩; have t3 := hide (t2.out.then_below b3); clear b3 p1 p3)
                | (go_at_call_of 19 (Value.string (tB (C - A))); refine (qs1.out _).mono ?_; rintro e w4 ⟨rfl, b4⟩; have t4 := hide (t3.out.then_below b4); clear b4)
                | (go_at_call_of 19 (Value.string (tB (B - D))); refine (qs2.out _).mono ?_; rintro e w5 ⟨rfl, b5⟩; have t5 := hide (t4.out.then_below b5); clear b5)
                | (go_at_call 20; refine (qo.out _ nz).mono ?_; rintro e w6 ⟨rfl, b6⟩; have t6 := hide (t5.out.then_below b6); clear b6)
                | (go_at_call 21; refine (qm.out _).mono ?_; rintro e w7 ⟨rfl, b7⟩; have t7 := hide (t6.out.then_below b7); clear b7))
                    go_roundw
                    case rel => exact ⟨k + 1, by omega, by go_num, _, m1.out, rfl, by rw [← st.out]; exact m3'.out, B2.out.then_below t7.out⟩
                    case measure => simp [intOf]; omega
                · have gd : ¬ 0 < cmpQ (B - D) 0 := fun e => hd (dn.out.1 e)
                  have st : Hid (stepQ ⟨A, B, C, D⟩ m = m) := by show _ = _; rw [stp.out, if_neg (fun e => hd e.2.1)]
                  clear hd
                  go_wp2_with (first
                | (go_at_call_of 18 (Value.string (tB C)); refine (q1.out _).mono ?_; rintro e w2 ⟨rfl, b2⟩; have t2 := t1.out.then_below b2; obtain ⟨⟨-, p1⟩, -, p3⟩ := CL.out _ t2; replace t2 := hide t2; clear b2)
                | (go_at_call_of 18 (Value.string (tB B)); refine (q2.out _).mono ?_; rintro e w3 ⟨rfl, b3⟩; have t3 := hide (t2.out.then_below b3); clear b3 p1 p3)
                | (go_at_call_of 19 (Value.string (tB (C - A))); refine (qs1.out _).mono ?_; rintro e w4 ⟨rfl, b4⟩; have t4 := hide (t3.out.then_below b4); clear b4)
                | (go_at_call_of 19 (Value.string (tB (B - D))); refine (qs2.out _).mono ?_; rintro e w5 ⟨rfl, b5⟩; have t5 := hide (t4.out.then_below b5); clear b5)
                | (go_at_call 20; refine (qo.out _ nz).mono ?_; rintro e w6 ⟨rfl, b6⟩; have t6 := hide (t5.out.then_below b6); clear b6)
                | (go_at_call 21; refine (qm.out _).mono ?_; rintro e w7 ⟨rfl, b7⟩; have t7 := hide (t6.out.then_below b7); clear b7))
                  go_roundw
                  case rel => exact ⟨k + 1, by omega, by go_num, _, m1.out, rfl, by rw [← st.out]; exact m3'.out, B2.out.then_below t5.out⟩
                  case measure => simp [intOf]; omega
              · have gu : ¬ 0 < cmpQ (C - A) 0 := fun e => hu (up.out.1 e)
                have st : Hid (stepQ ⟨A, B, C, D⟩ m = m) := by show _ = _; rw [stp.out, if_neg (fun e => hu e.1)]
                clear hu
                go_wp2_with (first
                | (go_at_call_of 18 (Value.string (tB C)); refine (q1.out _).mono ?_; rintro e w2 ⟨rfl, b2⟩; have t2 := t1.out.then_below b2; obtain ⟨⟨-, p1⟩, -, p3⟩ := CL.out _ t2; replace t2 := hide t2; clear b2)
                | (go_at_call_of 18 (Value.string (tB B)); refine (q2.out _).mono ?_; rintro e w3 ⟨rfl, b3⟩; have t3 := hide (t2.out.then_below b3); clear b3 p1 p3)
                | (go_at_call_of 19 (Value.string (tB (C - A))); refine (qs1.out _).mono ?_; rintro e w4 ⟨rfl, b4⟩; have t4 := hide (t3.out.then_below b4); clear b4)
                | (go_at_call_of 19 (Value.string (tB (B - D))); refine (qs2.out _).mono ?_; rintro e w5 ⟨rfl, b5⟩; have t5 := hide (t4.out.then_below b5); clear b5)
                | (go_at_call 20; refine (qo.out _ nz).mono ?_; rintro e w6 ⟨rfl, b6⟩; have t6 := hide (t5.out.then_below b6); clear b6)
                | (go_at_call 21; refine (qm.out _).mono ?_; rintro e w7 ⟨rfl, b7⟩; have t7 := hide (t6.out.then_below b7); clear b7))
                go_roundw
                case rel => exact ⟨k + 1, by omega, by go_num, _, m1.out, rfl, by rw [← st.out]; exact m3'.out, B2.out.then_below t4.out⟩
                case measure => simp [intOf]; omega
          · obtain rfl : n = k := by omega
            have i2 : ¬ (n : Int) < n := by omega
            have fin : Hid (PickA ps (tB m) 0) := .inr ⟨allok.out, .inr ⟨rfl, m, by rw [m3, List.drop_eq_nil_of_le (by rw [hNh.out]; exact Nat.le_refl _)]; rfl, rfl⟩⟩
            have BB := hide hB
            clear m3 hB
            go_wp2
            refine bodyPost_ret (v := .tuple #[.string (tB m), .int .i64 0]) (by simp [results, Tryz.results6, go_sem]) rfl ?_
            exact ⟨⟨_, _, rfl, fin.out⟩, BB.out⟩
end Go.Proofs.YtlepicdpelkmlaaGreatDoor
