/-
  The law LinSmall, whole.
-/
import Derived.Test.YtndjkbjoolkmaaaGreatDoorLinLaw
namespace Go.Proofs.YtndjkbjoolkmaaaGreatDoor
open Go.RowKit
set_option linter.unusedVariables false
theorem cmpQ_one {x y : Rat} : cmpQ x y = 1 ↔ y < x := by
  unfold cmpQ
  by_cases h : x < y
  · rw [if_pos h]; grind
  · rw [if_neg h]
    by_cases h2 : x = y
    · rw [if_pos h2]; grind
    · rw [if_neg h2]; grind
theorem cmpQ_neg {x y : Rat} : cmpQ x y = -1 ↔ x < y := by
  unfold cmpQ
  by_cases h : x < y
  · rw [if_pos h]; simp [h]
  · rw [if_neg h]
    by_cases h2 : x = y
    · rw [if_pos h2]; simp [h]
    · rw [if_neg h2]; simp [h]
theorem cmpQ_two {x y : Rat} : ¬ cmpQ x y = 2 := by
  unfold cmpQ
  by_cases h : x < y
  · rw [if_pos h]; decide
  · rw [if_neg h]
    by_cases h2 : x = y
    · rw [if_pos h2]; decide
    · rw [if_neg h2]; decide
theorem tB_list_eq {x y : Rat} : (tB x).toList = (tB y).toList ↔ x = y := by
  refine ⟨fun h => ?_, fun h => by rw [h]⟩
  rw [← str_toList, ← str_toList, tB_list, tB_list] at h
  exact tB_inj (by unfold tB; rw [h])
theorem tB_one_eq {x : Rat} : (tB x).toList = [49] ↔ x = 1 := by
  have e : (tB 1).toList = [49] := by rw [← t_one]; decide +kernel
  rw [← e]
  exact tB_list_eq
theorem sz0 : ∀ j, j < ([pq0] : List Pq).length → (([pq0] : List Pq).getD j Pq.z).sz ≤ 1048576 := fun j hj => by
  have hj : j < 1 := hj
  obtain rfl : j = 0 := by omega
  decide +kernel
/-- Is the pair met at m? -/
def Met (m : Rat) (p : P4) : Prop := p.la + p.lb * m = p.ha + p.hb * m
set_option maxRecDepth 100000 in
set_option maxHeartbeats 40000000 in
theorem linSmall_calls (w : World) (v : Value) (ps : List Pq) (h : QRow w v ps) (hn : ps.length ≤ 1048576) (hz : ∀ j, j < ps.length → (ps.getD j Pq.z).sz ≤ 1048576) (less : ByteArray) (hl : less.size ≤ 1048576) (env : LEnv w) :
    Calls Tryz.prog 3 #[v, .string less] w fun e w' => e = .returned (.bool true) ∧ Below w.heap.size w w' := by
  have BA := hide ((Below.refl _ w).alloc (Nat.le_refl _) (.cells #[.string ⟨#[48]⟩, .string ⟨#[49]⟩, .string ⟨#[49, 47, 50]⟩, .string ⟨#[45, 49]⟩] 29))
  have q0 := hide (pick_calls _ _ [pq0] (qrow0 w) (by simp) sz0 (env.below BA.out))
  have qP := hide (fun W (q : Below w.heap.size w W) => pick_calls W v ps (h.below q) hn hz (env.below q))
  have LE : Hid (∀ W, Below w.heap.size w W → LEnv W) := fun W q => env.below q
  obtain ⟨va, vc, rfl, n1, n2⟩ := h.shape
  obtain ⟨n, hN⟩ : ∃ n, ps.length = n := ⟨_, rfl⟩
  rw [hN] at n1 h hn hz qP ⊢
  have hNh := hide hN
  have hP := hide h
  have hZ := hide hz
  clear h hz env hN
  go_enter Tryz.func3, Tryz.ntmps3
  go_wp2_with fail
  refine q0.out.mono ?_
  rintro e w1 ⟨⟨d0, c0, rfl, A0⟩, b1⟩
  obtain ⟨rfl, rfl⟩ := pick0 A0
  have B1 := hide (BA.out.then_below b1)
  clear A0 b1 q0 BA
  go_wp2_with (go_at_call 5; refine (lno _ _).mono ?_; rintro e wn ⟨rfl, hw⟩; subst hw)
  refine (qP.out _ B1.out).mono ?_
  rintro e w2 ⟨⟨d, c, rfl, PA⟩, b2⟩
  have B2 := hide (B1.out.then_below b2)
  clear qP b2 B1
  rcases PA with ⟨rfl, rfl, -⟩ | ⟨allok, ⟨rfl, rfl, -⟩ | ⟨rfl, m, hm, rfl⟩⟩
  · go_wp2_with (go_at_call 5; refine (lno _ _).mono ?_; rintro e wn ⟨rfl, hw⟩; subst hw)
    go_ret
    exact ⟨rfl, B2.out⟩
  · go_wp2_with (go_at_call 5; refine (lno _ _).mono ?_; rintro e wn ⟨rfl, hw⟩; subst hw)
    go_ret
    exact ⟨rfl, B2.out⟩
  · obtain ⟨p1, p2, p3, p4⟩ := pick_tells _ 1 m (by decide) hm
    have rats : Hid (∀ k, k < n → ∃ A B C D, (ps.getD k Pq.z).la = tB A ∧ (ps.getD k Pq.z).lb = tB B ∧ (ps.getD k Pq.z).ha = tB C ∧ (ps.getD k Pq.z).hb = tB D ∧ Bd 1048576 A ∧ Bd 1048576 B ∧ Bd 1048576 C ∧ Bd 1048576 D ∧ (ps.getD k Pq.z).q = ⟨A, B, C, D⟩) := fun k hk => by
      have ok := all_drop Pq.ok ps Pq.z k allok (by rw [hNh.out]; exact hk)
      have sz := hZ.out k hk
      generalize ps.getD k Pq.z = p at ok sz
      obtain ⟨pa, pb, pc, pd⟩ := p
      simp only [Pq.sz, slen] at sz
      simp only [Pq.ok, Bool.and_eq_true] at ok
      obtain ⟨⟨oa, ob⟩, oc, od⟩ := ok
      obtain ⟨ea, ba⟩ := ok_tB oa (by omega)
      obtain ⟨eb, bb⟩ := ok_tB ob (by omega)
      obtain ⟨ec, bc⟩ := ok_tB oc (by omega)
      obtain ⟨ed, bd⟩ := ok_tB od (by omega)
      exact ⟨_, _, _, _, ea, eb, ec, ed, ba, bb, bc, bd, rfl⟩
    have inq : Hid (∀ k, k < n → (ps.getD k Pq.z).q ∈ ps.map Pq.q) := fun k hk => by
      rw [← hNh.out] at hk
      rw [List.getD_eq_getElem?_getD, List.getElem?_eq_getElem hk]
      exact List.mem_map_of_mem (List.getElem_mem hk)
    have mbm : MB m := by
      rcases p4 with rfl | ⟨p, hp, -, rfl⟩
      · exact mb_one
      · obtain ⟨x, hx, rfl⟩ := List.mem_map.1 hp
        obtain ⟨k, hk, rfl⟩ := List.mem_iff_getElem.1 hx
        obtain ⟨A, B, C, D, -, -, -, -, ba, bb, bc, bd, e⟩ := rats.out k (by rw [← hNh.out]; exact hk)
        rw [List.getD_eq_getElem?_getD, List.getElem?_eq_getElem hk] at e
        have e2 : ps[k].q = ⟨A, B, C, D⟩ := e
        rw [e2]
        exact mb_meet bc ba bb bd
    have zm := mbm.sz
    have k0 : Hid (∀ W, Below w.heap.size w W → Calls Tryz.prog 6 #[.string (tB m), .string ⟨#[48]⟩] W fun e w' => e = .returned (.int .i64 1) ∧ Below W.heap.size W w') := fun W q => by
      have h := lawCmp W m 0 zm (Bd.sz (by decide) (by decide) (show Bd 1 0 from ⟨by decide +kernel, by decide +kernel⟩)) (LE.out W q)
      rw [cmpQ_one.2 p1, ← t_zero] at h
      exact h
    have k1 : Hid (∀ W, Below w.heap.size w W → Calls Tryz.prog 6 #[.string (tB m), .string ⟨#[49]⟩] W fun e w' => (∃ r, e = .returned (.int .i64 r) ∧ ¬ r = 1 ∧ ¬ r = 2) ∧ Below W.heap.size W w') := fun W q => by
      have h := lawCmp W m 1 zm mb_one.sz (LE.out W q)
      rw [← t_one] at h
      exact h.mono fun e w' ⟨h1, h2⟩ => ⟨⟨_, h1, fun x => by have := cmpQ_one.1 x; grind, cmpQ_two⟩, h2⟩
    go_wp2_with (go_at_call 5; refine (lno _ _).mono ?_; rintro e wn ⟨rfl, hw⟩; subst hw)
    refine (k0.out _ B2.out).mono ?_
    rintro e w3 ⟨rfl, b3⟩
    have B3 := hide (B2.out.then_below b3)
    clear b3 B2
    go_wp2_with fail
    refine (k1.out _ B3.out).mono ?_
    rintro e w4 ⟨⟨r1, rfl, m1, -⟩, b4⟩
    have B4 := hide (B3.out.then_below b4)
    clear b4 B3
    go_wp2_with fail
    refine (k1.out _ B4.out).mono ?_
    rintro e w5 ⟨⟨r2, rfl, -, m2⟩, b5⟩
    have B5 := hide (B4.out.then_below b5)
    clear b5 B4 k0 k1
    have f1 : (r1 == 1) = false := by simpa using m1
    have f2 : (r2 == 2) = false := by simpa using m2
    replace p1 := hide p1
    replace p2 := hide p2
    replace p3 := hide p3
    replace p4 := hide p4
    replace mbm := hide mbm
    cases hk : okB less
    · have k2 : Hid (∀ W, Below w.heap.size w W → Calls Tryz.prog 6 #[.string less, .string ⟨#[48]⟩] W fun e w' => e = .returned (.int .i64 2) ∧ Below W.heap.size W w') := fun W q => by
        have h := lawCmp_no W less (by omega) hk (LE.out W q)
        rw [← t_zero] at h
        exact h
      go_wp2_with fail
      refine (k2.out _ B5.out).mono ?_
      rintro e w6 ⟨rfl, b6⟩
      have BZ := hide (B5.out.then_below b6)
      clear b6 B5 k2
      have s1 := p1
      have s2 : Hid (m ≤ m) := Rat.le_refl
      have s3 := hide mbm.out.two
      go_wp2_with fail
      have bm : ((tB m).toList == [49]) = true ↔ m = 1 := by rw [beq_iff_eq]; exact tB_one_eq
      generalize ((tB m).toList == [49]) = b0 at bm ⊢
      replace bm := hide bm
      go_loopw [8, 9] (fun mt j wr => ∃ k : Nat, k ≤ n ∧ j = .int .i64 k ∧ ∃ b : Bool, .bool b = mt ∧ Hid (b = true ↔ (m = 1 ∨ ∃ p ∈ (ps.take k).map Pq.q, Met m p)) ∧ Hid (Below w.heap.size w wr)) (fun _ j _ => n - (intOf j).toNat)
      case atStart => exact ⟨0, Nat.zero_le _, rfl, _, rfl, by show _ ↔ _; rw [bm.out, List.take_zero]; simp, BZ⟩
      case round =>
        clear BZ bm
        obtain ⟨k, hk, rfl, b, hb, hM, hB⟩ := hrel
        subst hb
        by_cases hlt : k < n
        · obtain ⟨g, off, rfl, c0, c1, c2, c3⟩ := (hP.out.below hB.out).at_ (j := k) (by rw [hNh.out]; exact hlt)
          obtain ⟨A, B, C, D, ea, eb, ec, ed, ba, bb, bc, bd, eq⟩ := rats.out k hlt
          have pin := inq.out k hlt
          rw [eq] at pin
          rw [ea] at c0
          rw [eb] at c1
          rw [ec] at c2
          rw [ed] at c3
          obtain ⟨nov, tg⟩ := p3.out _ pin
          have t1 : A + B * m ≤ C + D * m := not_turned (p := ⟨A, B, C, D⟩) nov p1.out tg
          have t2 : A + B * m ≤ C + D * m := not_turned (p := ⟨A, B, C, D⟩) nov s1.out (fun ht => Rat.le_trans s2.out (tg ht))
          have nov2 : ¬ 0 < cmpD A B C D := fun x => nov ((cmpD_over ⟨A, B, C, D⟩).1 x)
          have nx : Hid (∀ b' : Bool, (b' = true ↔ (b = true ∨ A + B * m = C + D * m)) → (b' = true ↔ (m = 1 ∨ ∃ p ∈ (ps.take (k + 1)).map Pq.q, Met m p))) := fun b' hb' => by
            have e : (ps.take (k + 1)).map Pq.q = (ps.take k).map Pq.q ++ [⟨A, B, C, D⟩] := by
              rw [List.take_add_one, List.getElem?_eq_getElem (by rw [hNh.out]; exact hlt), List.map_append]
              rw [List.getD_eq_getElem?_getD, List.getElem?_eq_getElem (by rw [hNh.out]; exact hlt)] at eq
              congr 1
              show [_] = _
              rw [← eq]
              rfl
            rw [hb', hM.out, e]
            constructor
            · rintro ((h | ⟨p, hp, h⟩) | h)
              · exact .inl h
              · exact .inr ⟨p, List.mem_append_left _ hp, h⟩
              · exact .inr ⟨_, List.mem_append_right _ (List.mem_singleton.2 rfl), h⟩
            · rintro (h | ⟨p, hp, h⟩)
              · exact .inl (.inl h)
              · rcases List.mem_append.1 hp with hp | hp
                · exact .inl (.inr ⟨p, hp, h⟩)
                · rw [List.mem_singleton] at hp
                  subst hp
                  exact .inr h
          have qd := hide (fun W (q : Below w.heap.size w W) => dcmp_calls W A B C D ba.s20 bb.s20 bc.s20 bd.s20 (LE.out W q))
          have qa := hide (fun W (q : Below w.heap.size w W) => at_calls W A B m ba.s20 bb.s20 zm (mbm.out.two.prod bb) (LE.out W q))
          have qb := hide (fun W (q : Below w.heap.size w W) => at_calls W C D m bc.s20 bd.s20 zm (mbm.out.two.prod bd) (LE.out W q))
          have qe := hide (fun W (q : Below w.heap.size w W) => at_calls W A B m ba.s20 bb.s20 s3.out.sz (s3.out.prod bb) (LE.out W q))
          have qf := hide (fun W (q : Below w.heap.size w W) => at_calls W C D m bc.s20 bd.s20 s3.out.sz (s3.out.prod bd) (LE.out W q))
          have kc1 := hide (fun W (q : Below w.heap.size w W) => lawCmp W (A + B * m) (C + D * m) (mbm.out.two.sum bb ba) (mbm.out.two.sum bd bc) (LE.out W q))
          have kc2 := hide (fun W (q : Below w.heap.size w W) => lawCmp W (A + B * m) (C + D * m) (s3.out.sum bb ba) (s3.out.sum bd bc) (LE.out W q))
          have v1 : ¬ cmpQ (A + B * m) (C + D * m) = 1 := fun x => by have := cmpQ_one.1 x; grind
          have v2 : ¬ cmpQ (A + B * m) (C + D * m) = 1 := fun x => by have := cmpQ_one.1 x; grind
          have hst : (tB (A + B * m)).toList = (tB (C + D * m)).toList ↔ A + B * m = C + D * m := tB_list_eq
          generalize cmpQ (A + B * m) (C + D * m) = r3 at v1 kc1
          generalize cmpQ (A + B * m) (C + D * m) = r4 at v2 kc2
          generalize cmpD A B C D = r5 at nov2 qd
          have f5 : (r3 == 1) = false := by simpa using v1
          have f6 : (r4 == 1) = false := by simpa using v2
          have i1 : (k : Int) < n := by omega
          have gl : g < wr.heap.size := World.block_lt_of_cell? wr _ c0
          have KS : ∀ {W : World}, Below wr.heap.size wr W → W.cell? ⟨g, off + k * 4, none⟩ = some (.string (tB A)) ∧ W.cell? ⟨g, off + k * 4 + 1, none⟩ = some (.string (tB B)) ∧ W.cell? ⟨g, off + k * 4 + 2, none⟩ = some (.string (tB C)) ∧ W.cell? ⟨g, off + k * 4 + 3, none⟩ = some (.string (tB D)) := fun q => ⟨(q.cell (p := ⟨g, _, none⟩) gl).trans c0, (q.cell (p := ⟨g, _, none⟩) gl).trans c1, (q.cell (p := ⟨g, _, none⟩) gl).trans c2, (q.cell (p := ⟨g, _, none⟩) gl).trans c3⟩
          have KD : Below wr.heap.size wr wr.drew := (Below.refl _ wr).drew
          replace hst := hide hst
          clear pin tg nov t1 t2 ea eb ec ed ba bb bc bd eq
          go_wp2_with fail
          go_region_held3 (fun W => W.cell? ⟨g, off + k * 4, none⟩ = some (.string (tB A)) ∧ W.cell? ⟨g, off + k * 4 + 1, none⟩ = some (.string (tB B)) ∧ W.cell? ⟨g, off + k * 4 + 2, none⟩ = some (.string (tB C)) ∧ W.cell? ⟨g, off + k * 4 + 3, none⟩ = some (.string (tB D)))
            (first
              | with_reducible exact KS (Below.refl _ _)
              | with_reducible exact KS KD
              | with_reducible exact KS b1)
            (first
              | (go_at_call 8; refine (qd.out _ (hB.out.then_below KD)).mono ?_; rintro e x1 ⟨rfl, b1⟩; replace b1 := KD.then_below b1))
          clear c0 c1 c2 c3 qd
          obtain ⟨c0, c1, c2, c3⟩ := KS b1
          go_wp2_with fail
          refine (qa.out x1 (hB.out.then_below b1)).mono ?_
          rintro e x2 ⟨rfl, b2⟩
          replace b2 := b1.then_below b2
          clear c0 c1 c2 c3 b1 qa
          obtain ⟨c0, c1, c2, c3⟩ := KS b2
          go_wp2_with fail
          refine (qb.out x2 (hB.out.then_below b2)).mono ?_
          rintro e x3 ⟨rfl, b3⟩
          replace b3 := b2.then_below b3
          clear c0 c1 c2 c3 b2 qb
          obtain ⟨c0, c1, c2, c3⟩ := KS b3
          go_wp2_with fail
          refine (qe.out x3 (hB.out.then_below b3)).mono ?_
          rintro e x4 ⟨rfl, b4⟩
          replace b4 := b3.then_below b4
          clear c0 c1 c2 c3 b3 qe
          obtain ⟨c0, c1, c2, c3⟩ := KS b4
          go_wp2_with fail
          refine (qf.out x4 (hB.out.then_below b4)).mono ?_
          rintro e x5 ⟨rfl, b5⟩
          replace b5 := hide (hB.out.then_below (b4.then_below b5))
          clear c0 c1 c2 c3 b4 qf KS KD gl
          go_wp2_with (go_at_call 5; refine (lno _ _).mono ?_; rintro e wn ⟨rfl, hw⟩; subst hw)
          refine (kc1.out _ b5.out).mono ?_
          rintro e x6 ⟨rfl, b6⟩
          replace b6 := hide (b5.out.then_below b6)
          clear b5 kc1
          go_wp2_with fail
          refine (kc2.out _ b6.out).mono ?_
          rintro e x7 ⟨rfl, b7⟩
          replace b7 := hide (b6.out.then_below b7)
          clear b6 kc2
          by_cases he : A + B * m = C + D * m
          · have hs2 : ((tB (A + B * m)).toList == (tB (C + D * m)).toList) = true := beq_iff_eq.2 (hst.out.2 he)
            have n1 : Hid (∀ b' : Bool, b' = true → (b' = true ↔ (m = 1 ∨ ∃ p ∈ (ps.take (k + 1)).map Pq.q, Met m p))) := fun b' hb' => nx.out b' ⟨fun _ => .inr he, fun _ => hb'⟩
            clear hst nx
            go_wp2
            go_roundw
            case rel => exact ⟨k + 1, by omega, by go_num, true, rfl, n1.out true rfl, b7⟩
            case measure => simp [intOf]; omega
          · have hs2 : ((tB (A + B * m)).toList == (tB (C + D * m)).toList) = false := beq_eq_false_iff_ne.2 (fun x => he (hst.out.1 x))
            have n1 := hide (nx.out b ⟨fun x => .inl x, fun x => x.resolve_right he⟩)
            clear hst nx
            go_wp2
            go_roundw
            case rel => exact ⟨k + 1, by omega, by go_num, b, rfl, n1, b7⟩
            case measure => simp [intOf]; omega
        · obtain rfl : n = k := by omega
          have i1 : ¬ (n : Int) < n := by omega
          have hb : b = true := by
            rw [hM.out, List.take_of_length_le (by rw [hNh.out]; exact Nat.le_refl _)]
            rcases p4.out with h | ⟨p, hp, ht, h⟩
            · exact .inl h
            · exact .inr ⟨p, hp, by rw [h]; exact tight_met ht⟩
          subst hb
          go_wp2
          go_ret
          exact ⟨rfl, hB.out⟩
    · obtain ⟨el, bl⟩ := ok_tB hk hl
      generalize qV less.data.toList = X at el bl
      have k2 : Hid (∀ W, Below w.heap.size w W → Calls Tryz.prog 6 #[.string less, .string ⟨#[48]⟩] W fun e w' => e = .returned (.int .i64 (cmpQ X 0)) ∧ Below W.heap.size W w') := fun W q => by
        have h := lawCmp W X 0 bl.s20 (Bd.sz (by decide) (by decide) (show Bd 1 0 from ⟨by decide +kernel, by decide +kernel⟩)) (LE.out W q)
        rw [← t_zero, ← el] at h
        exact h
      have k3 : Hid (∀ W, Below w.heap.size w W → Calls Tryz.prog 6 #[.string less, .string ⟨#[49]⟩] W fun e w' => e = .returned (.int .i64 (cmpQ X 1)) ∧ Below W.heap.size W w') := fun W q => by
        have h := lawCmp W X 1 bl.s20 mb_one.sz (LE.out W q)
        rw [← t_one, ← el] at h
        exact h
      have k4 : Hid (∀ W, Below w.heap.size w W → Calls Tryz.prog 7 #[.string (tB m), .string less] W fun e w' => e = .returned (.string (tB (m * X))) ∧ Below W.heap.size W w') := fun W q => by
        have h := lawMul W m X zm bl.s20 (LE.out W q)
        rw [← el] at h
        exact h
      clear el
      go_wp2_with fail
      refine (k2.out _ B5.out).mono ?_
      rintro e w6 ⟨rfl, b6⟩
      have B6 := hide (B5.out.then_below b6)
      clear b6 B5 k2
      by_cases hx : 0 < X
      · rw [cmpQ_one.2 hx]
        go_wp2_with fail
        refine (k3.out _ B6.out).mono ?_
        rintro e w7 ⟨rfl, b7⟩
        have B7 := hide (B6.out.then_below b7)
        clear b7 B6 k3
        by_cases hx1 : X < 1
        · rw [cmpQ_neg.2 hx1]
          go_wp2_with fail
          refine (k4.out _ B7.out).mono ?_
          rintro e w8 ⟨rfl, b8⟩
          have BZ := hide (B7.out.then_below b8)
          clear b8 B7 k4
          have s1 : Hid (0 < m * X) := Rat.mul_pos p1.out hx
          have s2 : Hid (m * X ≤ m) := by
            have := Rat.mul_le_mul_of_nonneg_left (Rat.le_of_lt hx1) (Rat.le_of_lt p1.out)
            rwa [Rat.mul_one] at this
          have s3 : Hid (MB2 (m * X)) := mbm.out.times bl
          clear hx hx1 bl
          go_wp2_with fail
          have bm : ((tB m).toList == [49]) = true ↔ m = 1 := by rw [beq_iff_eq]; exact tB_one_eq
          generalize ((tB m).toList == [49]) = b0 at bm ⊢
          replace bm := hide bm
          go_loopw [8, 9] (fun mt j wr => ∃ k : Nat, k ≤ n ∧ j = .int .i64 k ∧ ∃ b : Bool, .bool b = mt ∧ Hid (b = true ↔ (m = 1 ∨ ∃ p ∈ (ps.take k).map Pq.q, Met m p)) ∧ Hid (Below w.heap.size w wr)) (fun _ j _ => n - (intOf j).toNat)
          case atStart => exact ⟨0, Nat.zero_le _, rfl, _, rfl, by show _ ↔ _; rw [bm.out, List.take_zero]; simp, BZ⟩
          case round =>
            clear BZ bm
            obtain ⟨k, hk, rfl, b, hb, hM, hB⟩ := hrel
            subst hb
            by_cases hlt : k < n
            · obtain ⟨g, off, rfl, c0, c1, c2, c3⟩ := (hP.out.below hB.out).at_ (j := k) (by rw [hNh.out]; exact hlt)
              obtain ⟨A, B, C, D, ea, eb, ec, ed, ba, bb, bc, bd, eq⟩ := rats.out k hlt
              have pin := inq.out k hlt
              rw [eq] at pin
              rw [ea] at c0
              rw [eb] at c1
              rw [ec] at c2
              rw [ed] at c3
              obtain ⟨nov, tg⟩ := p3.out _ pin
              have t1 : A + B * m ≤ C + D * m := not_turned (p := ⟨A, B, C, D⟩) nov p1.out tg
              have t2 : A + B * (m * X) ≤ C + D * (m * X) := not_turned (p := ⟨A, B, C, D⟩) nov s1.out (fun ht => Rat.le_trans s2.out (tg ht))
              have nov2 : ¬ 0 < cmpD A B C D := fun x => nov ((cmpD_over ⟨A, B, C, D⟩).1 x)
              have nx : Hid (∀ b' : Bool, (b' = true ↔ (b = true ∨ A + B * m = C + D * m)) → (b' = true ↔ (m = 1 ∨ ∃ p ∈ (ps.take (k + 1)).map Pq.q, Met m p))) := fun b' hb' => by
                have e : (ps.take (k + 1)).map Pq.q = (ps.take k).map Pq.q ++ [⟨A, B, C, D⟩] := by
                  rw [List.take_add_one, List.getElem?_eq_getElem (by rw [hNh.out]; exact hlt), List.map_append]
                  rw [List.getD_eq_getElem?_getD, List.getElem?_eq_getElem (by rw [hNh.out]; exact hlt)] at eq
                  congr 1
                  show [_] = _
                  rw [← eq]
                  rfl
                rw [hb', hM.out, e]
                constructor
                · rintro ((h | ⟨p, hp, h⟩) | h)
                  · exact .inl h
                  · exact .inr ⟨p, List.mem_append_left _ hp, h⟩
                  · exact .inr ⟨_, List.mem_append_right _ (List.mem_singleton.2 rfl), h⟩
                · rintro (h | ⟨p, hp, h⟩)
                  · exact .inl (.inl h)
                  · rcases List.mem_append.1 hp with hp | hp
                    · exact .inl (.inr ⟨p, hp, h⟩)
                    · rw [List.mem_singleton] at hp
                      subst hp
                      exact .inr h
              have qd := hide (fun W (q : Below w.heap.size w W) => dcmp_calls W A B C D ba.s20 bb.s20 bc.s20 bd.s20 (LE.out W q))
              have qa := hide (fun W (q : Below w.heap.size w W) => at_calls W A B m ba.s20 bb.s20 zm (mbm.out.two.prod bb) (LE.out W q))
              have qb := hide (fun W (q : Below w.heap.size w W) => at_calls W C D m bc.s20 bd.s20 zm (mbm.out.two.prod bd) (LE.out W q))
              have qe := hide (fun W (q : Below w.heap.size w W) => at_calls W A B (m * X) ba.s20 bb.s20 s3.out.sz (s3.out.prod bb) (LE.out W q))
              have qf := hide (fun W (q : Below w.heap.size w W) => at_calls W C D (m * X) bc.s20 bd.s20 s3.out.sz (s3.out.prod bd) (LE.out W q))
              have kc1 := hide (fun W (q : Below w.heap.size w W) => lawCmp W (A + B * m) (C + D * m) (mbm.out.two.sum bb ba) (mbm.out.two.sum bd bc) (LE.out W q))
              have kc2 := hide (fun W (q : Below w.heap.size w W) => lawCmp W (A + B * (m * X)) (C + D * (m * X)) (s3.out.sum bb ba) (s3.out.sum bd bc) (LE.out W q))
              have v1 : ¬ cmpQ (A + B * m) (C + D * m) = 1 := fun x => by have := cmpQ_one.1 x; grind
              have v2 : ¬ cmpQ (A + B * (m * X)) (C + D * (m * X)) = 1 := fun x => by have := cmpQ_one.1 x; grind
              have hst : (tB (A + B * m)).toList = (tB (C + D * m)).toList ↔ A + B * m = C + D * m := tB_list_eq
              generalize cmpQ (A + B * m) (C + D * m) = r3 at v1 kc1
              generalize cmpQ (A + B * (m * X)) (C + D * (m * X)) = r4 at v2 kc2
              generalize cmpD A B C D = r5 at nov2 qd
              have f5 : (r3 == 1) = false := by simpa using v1
              have f6 : (r4 == 1) = false := by simpa using v2
              have i1 : (k : Int) < n := by omega
              have gl : g < wr.heap.size := World.block_lt_of_cell? wr _ c0
              have KS : ∀ {W : World}, Below wr.heap.size wr W → W.cell? ⟨g, off + k * 4, none⟩ = some (.string (tB A)) ∧ W.cell? ⟨g, off + k * 4 + 1, none⟩ = some (.string (tB B)) ∧ W.cell? ⟨g, off + k * 4 + 2, none⟩ = some (.string (tB C)) ∧ W.cell? ⟨g, off + k * 4 + 3, none⟩ = some (.string (tB D)) := fun q => ⟨(q.cell (p := ⟨g, _, none⟩) gl).trans c0, (q.cell (p := ⟨g, _, none⟩) gl).trans c1, (q.cell (p := ⟨g, _, none⟩) gl).trans c2, (q.cell (p := ⟨g, _, none⟩) gl).trans c3⟩
              have KD : Below wr.heap.size wr wr.drew := (Below.refl _ wr).drew
              replace hst := hide hst
              clear pin tg nov t1 t2 ea eb ec ed ba bb bc bd eq
              go_wp2_with fail
              go_region_held3 (fun W => W.cell? ⟨g, off + k * 4, none⟩ = some (.string (tB A)) ∧ W.cell? ⟨g, off + k * 4 + 1, none⟩ = some (.string (tB B)) ∧ W.cell? ⟨g, off + k * 4 + 2, none⟩ = some (.string (tB C)) ∧ W.cell? ⟨g, off + k * 4 + 3, none⟩ = some (.string (tB D)))
                (first
                  | with_reducible exact KS (Below.refl _ _)
                  | with_reducible exact KS KD
                  | with_reducible exact KS b1)
                (first
                  | (go_at_call 8; refine (qd.out _ (hB.out.then_below KD)).mono ?_; rintro e x1 ⟨rfl, b1⟩; replace b1 := KD.then_below b1))
              clear c0 c1 c2 c3 qd
              obtain ⟨c0, c1, c2, c3⟩ := KS b1
              go_wp2_with fail
              refine (qa.out x1 (hB.out.then_below b1)).mono ?_
              rintro e x2 ⟨rfl, b2⟩
              replace b2 := b1.then_below b2
              clear c0 c1 c2 c3 b1 qa
              obtain ⟨c0, c1, c2, c3⟩ := KS b2
              go_wp2_with fail
              refine (qb.out x2 (hB.out.then_below b2)).mono ?_
              rintro e x3 ⟨rfl, b3⟩
              replace b3 := b2.then_below b3
              clear c0 c1 c2 c3 b2 qb
              obtain ⟨c0, c1, c2, c3⟩ := KS b3
              go_wp2_with fail
              refine (qe.out x3 (hB.out.then_below b3)).mono ?_
              rintro e x4 ⟨rfl, b4⟩
              replace b4 := b3.then_below b4
              clear c0 c1 c2 c3 b3 qe
              obtain ⟨c0, c1, c2, c3⟩ := KS b4
              go_wp2_with fail
              refine (qf.out x4 (hB.out.then_below b4)).mono ?_
              rintro e x5 ⟨rfl, b5⟩
              replace b5 := hide (hB.out.then_below (b4.then_below b5))
              clear c0 c1 c2 c3 b4 qf KS KD gl
              go_wp2_with (go_at_call 5; refine (lno _ _).mono ?_; rintro e wn ⟨rfl, hw⟩; subst hw)
              refine (kc1.out _ b5.out).mono ?_
              rintro e x6 ⟨rfl, b6⟩
              replace b6 := hide (b5.out.then_below b6)
              clear b5 kc1
              go_wp2_with fail
              refine (kc2.out _ b6.out).mono ?_
              rintro e x7 ⟨rfl, b7⟩
              replace b7 := hide (b6.out.then_below b7)
              clear b6 kc2
              by_cases he : A + B * m = C + D * m
              · have hs2 : ((tB (A + B * m)).toList == (tB (C + D * m)).toList) = true := beq_iff_eq.2 (hst.out.2 he)
                have n1 : Hid (∀ b' : Bool, b' = true → (b' = true ↔ (m = 1 ∨ ∃ p ∈ (ps.take (k + 1)).map Pq.q, Met m p))) := fun b' hb' => nx.out b' ⟨fun _ => .inr he, fun _ => hb'⟩
                clear hst nx
                go_wp2
                go_roundw
                case rel => exact ⟨k + 1, by omega, by go_num, true, rfl, n1.out true rfl, b7⟩
                case measure => simp [intOf]; omega
              · have hs2 : ((tB (A + B * m)).toList == (tB (C + D * m)).toList) = false := beq_eq_false_iff_ne.2 (fun x => he (hst.out.1 x))
                have n1 := hide (nx.out b ⟨fun x => .inl x, fun x => x.resolve_right he⟩)
                clear hst nx
                go_wp2
                go_roundw
                case rel => exact ⟨k + 1, by omega, by go_num, b, rfl, n1, b7⟩
                case measure => simp [intOf]; omega
            · obtain rfl : n = k := by omega
              have i1 : ¬ (n : Int) < n := by omega
              have hb : b = true := by
                rw [hM.out, List.take_of_length_le (by rw [hNh.out]; exact Nat.le_refl _)]
                rcases p4.out with h | ⟨p, hp, ht, h⟩
                · exact .inl h
                · exact .inr ⟨p, hp, by rw [h]; exact tight_met ht⟩
              subst hb
              go_wp2
              go_ret
              exact ⟨rfl, hB.out⟩
        · have c1 : ¬ cmpQ X 1 = -1 := fun x => hx1 (cmpQ_neg.1 x)
          have BZ := B7
          generalize cmpQ X 1 = t1 at c1 ⊢
          have f3 : (t1 == -1) = false := by simpa using c1
          have s1 := p1
          have s2 : Hid (m ≤ m) := Rat.le_refl
          have s3 := hide mbm.out.two
          clear hx hx1 bl k4 B7
          go_wp2_with fail
          have bm : ((tB m).toList == [49]) = true ↔ m = 1 := by rw [beq_iff_eq]; exact tB_one_eq
          generalize ((tB m).toList == [49]) = b0 at bm ⊢
          replace bm := hide bm
          go_loopw [8, 9] (fun mt j wr => ∃ k : Nat, k ≤ n ∧ j = .int .i64 k ∧ ∃ b : Bool, .bool b = mt ∧ Hid (b = true ↔ (m = 1 ∨ ∃ p ∈ (ps.take k).map Pq.q, Met m p)) ∧ Hid (Below w.heap.size w wr)) (fun _ j _ => n - (intOf j).toNat)
          case atStart => exact ⟨0, Nat.zero_le _, rfl, _, rfl, by show _ ↔ _; rw [bm.out, List.take_zero]; simp, BZ⟩
          case round =>
            clear BZ bm
            obtain ⟨k, hk, rfl, b, hb, hM, hB⟩ := hrel
            subst hb
            by_cases hlt : k < n
            · obtain ⟨g, off, rfl, c0, c1, c2, c3⟩ := (hP.out.below hB.out).at_ (j := k) (by rw [hNh.out]; exact hlt)
              obtain ⟨A, B, C, D, ea, eb, ec, ed, ba, bb, bc, bd, eq⟩ := rats.out k hlt
              have pin := inq.out k hlt
              rw [eq] at pin
              rw [ea] at c0
              rw [eb] at c1
              rw [ec] at c2
              rw [ed] at c3
              obtain ⟨nov, tg⟩ := p3.out _ pin
              have t1 : A + B * m ≤ C + D * m := not_turned (p := ⟨A, B, C, D⟩) nov p1.out tg
              have t2 : A + B * m ≤ C + D * m := not_turned (p := ⟨A, B, C, D⟩) nov s1.out (fun ht => Rat.le_trans s2.out (tg ht))
              have nov2 : ¬ 0 < cmpD A B C D := fun x => nov ((cmpD_over ⟨A, B, C, D⟩).1 x)
              have nx : Hid (∀ b' : Bool, (b' = true ↔ (b = true ∨ A + B * m = C + D * m)) → (b' = true ↔ (m = 1 ∨ ∃ p ∈ (ps.take (k + 1)).map Pq.q, Met m p))) := fun b' hb' => by
                have e : (ps.take (k + 1)).map Pq.q = (ps.take k).map Pq.q ++ [⟨A, B, C, D⟩] := by
                  rw [List.take_add_one, List.getElem?_eq_getElem (by rw [hNh.out]; exact hlt), List.map_append]
                  rw [List.getD_eq_getElem?_getD, List.getElem?_eq_getElem (by rw [hNh.out]; exact hlt)] at eq
                  congr 1
                  show [_] = _
                  rw [← eq]
                  rfl
                rw [hb', hM.out, e]
                constructor
                · rintro ((h | ⟨p, hp, h⟩) | h)
                  · exact .inl h
                  · exact .inr ⟨p, List.mem_append_left _ hp, h⟩
                  · exact .inr ⟨_, List.mem_append_right _ (List.mem_singleton.2 rfl), h⟩
                · rintro (h | ⟨p, hp, h⟩)
                  · exact .inl (.inl h)
                  · rcases List.mem_append.1 hp with hp | hp
                    · exact .inl (.inr ⟨p, hp, h⟩)
                    · rw [List.mem_singleton] at hp
                      subst hp
                      exact .inr h
              have qd := hide (fun W (q : Below w.heap.size w W) => dcmp_calls W A B C D ba.s20 bb.s20 bc.s20 bd.s20 (LE.out W q))
              have qa := hide (fun W (q : Below w.heap.size w W) => at_calls W A B m ba.s20 bb.s20 zm (mbm.out.two.prod bb) (LE.out W q))
              have qb := hide (fun W (q : Below w.heap.size w W) => at_calls W C D m bc.s20 bd.s20 zm (mbm.out.two.prod bd) (LE.out W q))
              have qe := hide (fun W (q : Below w.heap.size w W) => at_calls W A B m ba.s20 bb.s20 s3.out.sz (s3.out.prod bb) (LE.out W q))
              have qf := hide (fun W (q : Below w.heap.size w W) => at_calls W C D m bc.s20 bd.s20 s3.out.sz (s3.out.prod bd) (LE.out W q))
              have kc1 := hide (fun W (q : Below w.heap.size w W) => lawCmp W (A + B * m) (C + D * m) (mbm.out.two.sum bb ba) (mbm.out.two.sum bd bc) (LE.out W q))
              have kc2 := hide (fun W (q : Below w.heap.size w W) => lawCmp W (A + B * m) (C + D * m) (s3.out.sum bb ba) (s3.out.sum bd bc) (LE.out W q))
              have v1 : ¬ cmpQ (A + B * m) (C + D * m) = 1 := fun x => by have := cmpQ_one.1 x; grind
              have v2 : ¬ cmpQ (A + B * m) (C + D * m) = 1 := fun x => by have := cmpQ_one.1 x; grind
              have hst : (tB (A + B * m)).toList = (tB (C + D * m)).toList ↔ A + B * m = C + D * m := tB_list_eq
              generalize cmpQ (A + B * m) (C + D * m) = r3 at v1 kc1
              generalize cmpQ (A + B * m) (C + D * m) = r4 at v2 kc2
              generalize cmpD A B C D = r5 at nov2 qd
              have f5 : (r3 == 1) = false := by simpa using v1
              have f6 : (r4 == 1) = false := by simpa using v2
              have i1 : (k : Int) < n := by omega
              have gl : g < wr.heap.size := World.block_lt_of_cell? wr _ c0
              have KS : ∀ {W : World}, Below wr.heap.size wr W → W.cell? ⟨g, off + k * 4, none⟩ = some (.string (tB A)) ∧ W.cell? ⟨g, off + k * 4 + 1, none⟩ = some (.string (tB B)) ∧ W.cell? ⟨g, off + k * 4 + 2, none⟩ = some (.string (tB C)) ∧ W.cell? ⟨g, off + k * 4 + 3, none⟩ = some (.string (tB D)) := fun q => ⟨(q.cell (p := ⟨g, _, none⟩) gl).trans c0, (q.cell (p := ⟨g, _, none⟩) gl).trans c1, (q.cell (p := ⟨g, _, none⟩) gl).trans c2, (q.cell (p := ⟨g, _, none⟩) gl).trans c3⟩
              have KD : Below wr.heap.size wr wr.drew := (Below.refl _ wr).drew
              replace hst := hide hst
              clear pin tg nov t1 t2 ea eb ec ed ba bb bc bd eq
              go_wp2_with fail
              go_region_held3 (fun W => W.cell? ⟨g, off + k * 4, none⟩ = some (.string (tB A)) ∧ W.cell? ⟨g, off + k * 4 + 1, none⟩ = some (.string (tB B)) ∧ W.cell? ⟨g, off + k * 4 + 2, none⟩ = some (.string (tB C)) ∧ W.cell? ⟨g, off + k * 4 + 3, none⟩ = some (.string (tB D)))
                (first
                  | with_reducible exact KS (Below.refl _ _)
                  | with_reducible exact KS KD
                  | with_reducible exact KS b1)
                (first
                  | (go_at_call 8; refine (qd.out _ (hB.out.then_below KD)).mono ?_; rintro e x1 ⟨rfl, b1⟩; replace b1 := KD.then_below b1))
              clear c0 c1 c2 c3 qd
              obtain ⟨c0, c1, c2, c3⟩ := KS b1
              go_wp2_with fail
              refine (qa.out x1 (hB.out.then_below b1)).mono ?_
              rintro e x2 ⟨rfl, b2⟩
              replace b2 := b1.then_below b2
              clear c0 c1 c2 c3 b1 qa
              obtain ⟨c0, c1, c2, c3⟩ := KS b2
              go_wp2_with fail
              refine (qb.out x2 (hB.out.then_below b2)).mono ?_
              rintro e x3 ⟨rfl, b3⟩
              replace b3 := b2.then_below b3
              clear c0 c1 c2 c3 b2 qb
              obtain ⟨c0, c1, c2, c3⟩ := KS b3
              go_wp2_with fail
              refine (qe.out x3 (hB.out.then_below b3)).mono ?_
              rintro e x4 ⟨rfl, b4⟩
              replace b4 := b3.then_below b4
              clear c0 c1 c2 c3 b3 qe
              obtain ⟨c0, c1, c2, c3⟩ := KS b4
              go_wp2_with fail
              refine (qf.out x4 (hB.out.then_below b4)).mono ?_
              rintro e x5 ⟨rfl, b5⟩
              replace b5 := hide (hB.out.then_below (b4.then_below b5))
              clear c0 c1 c2 c3 b4 qf KS KD gl
              go_wp2_with (go_at_call 5; refine (lno _ _).mono ?_; rintro e wn ⟨rfl, hw⟩; subst hw)
              refine (kc1.out _ b5.out).mono ?_
              rintro e x6 ⟨rfl, b6⟩
              replace b6 := hide (b5.out.then_below b6)
              clear b5 kc1
              go_wp2_with fail
              refine (kc2.out _ b6.out).mono ?_
              rintro e x7 ⟨rfl, b7⟩
              replace b7 := hide (b6.out.then_below b7)
              clear b6 kc2
              by_cases he : A + B * m = C + D * m
              · have hs2 : ((tB (A + B * m)).toList == (tB (C + D * m)).toList) = true := beq_iff_eq.2 (hst.out.2 he)
                have n1 : Hid (∀ b' : Bool, b' = true → (b' = true ↔ (m = 1 ∨ ∃ p ∈ (ps.take (k + 1)).map Pq.q, Met m p))) := fun b' hb' => nx.out b' ⟨fun _ => .inr he, fun _ => hb'⟩
                clear hst nx
                go_wp2
                go_roundw
                case rel => exact ⟨k + 1, by omega, by go_num, true, rfl, n1.out true rfl, b7⟩
                case measure => simp [intOf]; omega
              · have hs2 : ((tB (A + B * m)).toList == (tB (C + D * m)).toList) = false := beq_eq_false_iff_ne.2 (fun x => he (hst.out.1 x))
                have n1 := hide (nx.out b ⟨fun x => .inl x, fun x => x.resolve_right he⟩)
                clear hst nx
                go_wp2
                go_roundw
                case rel => exact ⟨k + 1, by omega, by go_num, b, rfl, n1, b7⟩
                case measure => simp [intOf]; omega
            · obtain rfl : n = k := by omega
              have i1 : ¬ (n : Int) < n := by omega
              have hb : b = true := by
                rw [hM.out, List.take_of_length_le (by rw [hNh.out]; exact Nat.le_refl _)]
                rcases p4.out with h | ⟨p, hp, ht, h⟩
                · exact .inl h
                · exact .inr ⟨p, hp, by rw [h]; exact tight_met ht⟩
              subst hb
              go_wp2
              go_ret
              exact ⟨rfl, hB.out⟩
      · have c1 : ¬ cmpQ X 0 = 1 := fun x => hx (cmpQ_one.1 x)
        have BZ := B6
        generalize cmpQ X 0 = t1 at c1 ⊢
        have f3 : (t1 == 1) = false := by simpa using c1
        have s1 := p1
        have s2 : Hid (m ≤ m) := Rat.le_refl
        have s3 := hide mbm.out.two
        clear hx bl k3 k4 B6
        go_wp2_with fail
        have bm : ((tB m).toList == [49]) = true ↔ m = 1 := by rw [beq_iff_eq]; exact tB_one_eq
        generalize ((tB m).toList == [49]) = b0 at bm ⊢
        replace bm := hide bm
        go_loopw [8, 9] (fun mt j wr => ∃ k : Nat, k ≤ n ∧ j = .int .i64 k ∧ ∃ b : Bool, .bool b = mt ∧ Hid (b = true ↔ (m = 1 ∨ ∃ p ∈ (ps.take k).map Pq.q, Met m p)) ∧ Hid (Below w.heap.size w wr)) (fun _ j _ => n - (intOf j).toNat)
        case atStart => exact ⟨0, Nat.zero_le _, rfl, _, rfl, by show _ ↔ _; rw [bm.out, List.take_zero]; simp, BZ⟩
        case round =>
          clear BZ bm
          obtain ⟨k, hk, rfl, b, hb, hM, hB⟩ := hrel
          subst hb
          by_cases hlt : k < n
          · obtain ⟨g, off, rfl, c0, c1, c2, c3⟩ := (hP.out.below hB.out).at_ (j := k) (by rw [hNh.out]; exact hlt)
            obtain ⟨A, B, C, D, ea, eb, ec, ed, ba, bb, bc, bd, eq⟩ := rats.out k hlt
            have pin := inq.out k hlt
            rw [eq] at pin
            rw [ea] at c0
            rw [eb] at c1
            rw [ec] at c2
            rw [ed] at c3
            obtain ⟨nov, tg⟩ := p3.out _ pin
            have t1 : A + B * m ≤ C + D * m := not_turned (p := ⟨A, B, C, D⟩) nov p1.out tg
            have t2 : A + B * m ≤ C + D * m := not_turned (p := ⟨A, B, C, D⟩) nov s1.out (fun ht => Rat.le_trans s2.out (tg ht))
            have nov2 : ¬ 0 < cmpD A B C D := fun x => nov ((cmpD_over ⟨A, B, C, D⟩).1 x)
            have nx : Hid (∀ b' : Bool, (b' = true ↔ (b = true ∨ A + B * m = C + D * m)) → (b' = true ↔ (m = 1 ∨ ∃ p ∈ (ps.take (k + 1)).map Pq.q, Met m p))) := fun b' hb' => by
              have e : (ps.take (k + 1)).map Pq.q = (ps.take k).map Pq.q ++ [⟨A, B, C, D⟩] := by
                rw [List.take_add_one, List.getElem?_eq_getElem (by rw [hNh.out]; exact hlt), List.map_append]
                rw [List.getD_eq_getElem?_getD, List.getElem?_eq_getElem (by rw [hNh.out]; exact hlt)] at eq
                congr 1
                show [_] = _
                rw [← eq]
                rfl
              rw [hb', hM.out, e]
              constructor
              · rintro ((h | ⟨p, hp, h⟩) | h)
                · exact .inl h
                · exact .inr ⟨p, List.mem_append_left _ hp, h⟩
                · exact .inr ⟨_, List.mem_append_right _ (List.mem_singleton.2 rfl), h⟩
              · rintro (h | ⟨p, hp, h⟩)
                · exact .inl (.inl h)
                · rcases List.mem_append.1 hp with hp | hp
                  · exact .inl (.inr ⟨p, hp, h⟩)
                  · rw [List.mem_singleton] at hp
                    subst hp
                    exact .inr h
            have qd := hide (fun W (q : Below w.heap.size w W) => dcmp_calls W A B C D ba.s20 bb.s20 bc.s20 bd.s20 (LE.out W q))
            have qa := hide (fun W (q : Below w.heap.size w W) => at_calls W A B m ba.s20 bb.s20 zm (mbm.out.two.prod bb) (LE.out W q))
            have qb := hide (fun W (q : Below w.heap.size w W) => at_calls W C D m bc.s20 bd.s20 zm (mbm.out.two.prod bd) (LE.out W q))
            have qe := hide (fun W (q : Below w.heap.size w W) => at_calls W A B m ba.s20 bb.s20 s3.out.sz (s3.out.prod bb) (LE.out W q))
            have qf := hide (fun W (q : Below w.heap.size w W) => at_calls W C D m bc.s20 bd.s20 s3.out.sz (s3.out.prod bd) (LE.out W q))
            have kc1 := hide (fun W (q : Below w.heap.size w W) => lawCmp W (A + B * m) (C + D * m) (mbm.out.two.sum bb ba) (mbm.out.two.sum bd bc) (LE.out W q))
            have kc2 := hide (fun W (q : Below w.heap.size w W) => lawCmp W (A + B * m) (C + D * m) (s3.out.sum bb ba) (s3.out.sum bd bc) (LE.out W q))
            have v1 : ¬ cmpQ (A + B * m) (C + D * m) = 1 := fun x => by have := cmpQ_one.1 x; grind
            have v2 : ¬ cmpQ (A + B * m) (C + D * m) = 1 := fun x => by have := cmpQ_one.1 x; grind
            have hst : (tB (A + B * m)).toList = (tB (C + D * m)).toList ↔ A + B * m = C + D * m := tB_list_eq
            generalize cmpQ (A + B * m) (C + D * m) = r3 at v1 kc1
            generalize cmpQ (A + B * m) (C + D * m) = r4 at v2 kc2
            generalize cmpD A B C D = r5 at nov2 qd
            have f5 : (r3 == 1) = false := by simpa using v1
            have f6 : (r4 == 1) = false := by simpa using v2
            have i1 : (k : Int) < n := by omega
            have gl : g < wr.heap.size := World.block_lt_of_cell? wr _ c0
            have KS : ∀ {W : World}, Below wr.heap.size wr W → W.cell? ⟨g, off + k * 4, none⟩ = some (.string (tB A)) ∧ W.cell? ⟨g, off + k * 4 + 1, none⟩ = some (.string (tB B)) ∧ W.cell? ⟨g, off + k * 4 + 2, none⟩ = some (.string (tB C)) ∧ W.cell? ⟨g, off + k * 4 + 3, none⟩ = some (.string (tB D)) := fun q => ⟨(q.cell (p := ⟨g, _, none⟩) gl).trans c0, (q.cell (p := ⟨g, _, none⟩) gl).trans c1, (q.cell (p := ⟨g, _, none⟩) gl).trans c2, (q.cell (p := ⟨g, _, none⟩) gl).trans c3⟩
            have KD : Below wr.heap.size wr wr.drew := (Below.refl _ wr).drew
            replace hst := hide hst
            clear pin tg nov t1 t2 ea eb ec ed ba bb bc bd eq
            go_wp2_with fail
            go_region_held3 (fun W => W.cell? ⟨g, off + k * 4, none⟩ = some (.string (tB A)) ∧ W.cell? ⟨g, off + k * 4 + 1, none⟩ = some (.string (tB B)) ∧ W.cell? ⟨g, off + k * 4 + 2, none⟩ = some (.string (tB C)) ∧ W.cell? ⟨g, off + k * 4 + 3, none⟩ = some (.string (tB D)))
              (first
                | with_reducible exact KS (Below.refl _ _)
                | with_reducible exact KS KD
                | with_reducible exact KS b1)
              (first
                | (go_at_call 8; refine (qd.out _ (hB.out.then_below KD)).mono ?_; rintro e x1 ⟨rfl, b1⟩; replace b1 := KD.then_below b1))
            clear c0 c1 c2 c3 qd
            obtain ⟨c0, c1, c2, c3⟩ := KS b1
            go_wp2_with fail
            refine (qa.out x1 (hB.out.then_below b1)).mono ?_
            rintro e x2 ⟨rfl, b2⟩
            replace b2 := b1.then_below b2
            clear c0 c1 c2 c3 b1 qa
            obtain ⟨c0, c1, c2, c3⟩ := KS b2
            go_wp2_with fail
            refine (qb.out x2 (hB.out.then_below b2)).mono ?_
            rintro e x3 ⟨rfl, b3⟩
            replace b3 := b2.then_below b3
            clear c0 c1 c2 c3 b2 qb
            obtain ⟨c0, c1, c2, c3⟩ := KS b3
            go_wp2_with fail
            refine (qe.out x3 (hB.out.then_below b3)).mono ?_
            rintro e x4 ⟨rfl, b4⟩
            replace b4 := b3.then_below b4
            clear c0 c1 c2 c3 b3 qe
            obtain ⟨c0, c1, c2, c3⟩ := KS b4
            go_wp2_with fail
            refine (qf.out x4 (hB.out.then_below b4)).mono ?_
            rintro e x5 ⟨rfl, b5⟩
            replace b5 := hide (hB.out.then_below (b4.then_below b5))
            clear c0 c1 c2 c3 b4 qf KS KD gl
            go_wp2_with (go_at_call 5; refine (lno _ _).mono ?_; rintro e wn ⟨rfl, hw⟩; subst hw)
            refine (kc1.out _ b5.out).mono ?_
            rintro e x6 ⟨rfl, b6⟩
            replace b6 := hide (b5.out.then_below b6)
            clear b5 kc1
            go_wp2_with fail
            refine (kc2.out _ b6.out).mono ?_
            rintro e x7 ⟨rfl, b7⟩
            replace b7 := hide (b6.out.then_below b7)
            clear b6 kc2
            by_cases he : A + B * m = C + D * m
            · have hs2 : ((tB (A + B * m)).toList == (tB (C + D * m)).toList) = true := beq_iff_eq.2 (hst.out.2 he)
              have n1 : Hid (∀ b' : Bool, b' = true → (b' = true ↔ (m = 1 ∨ ∃ p ∈ (ps.take (k + 1)).map Pq.q, Met m p))) := fun b' hb' => nx.out b' ⟨fun _ => .inr he, fun _ => hb'⟩
              clear hst nx
              go_wp2
              go_roundw
              case rel => exact ⟨k + 1, by omega, by go_num, true, rfl, n1.out true rfl, b7⟩
              case measure => simp [intOf]; omega
            · have hs2 : ((tB (A + B * m)).toList == (tB (C + D * m)).toList) = false := beq_eq_false_iff_ne.2 (fun x => he (hst.out.1 x))
              have n1 := hide (nx.out b ⟨fun x => .inl x, fun x => x.resolve_right he⟩)
              clear hst nx
              go_wp2
              go_roundw
              case rel => exact ⟨k + 1, by omega, by go_num, b, rfl, n1, b7⟩
              case measure => simp [intOf]; omega
          · obtain rfl : n = k := by omega
            have i1 : ¬ (n : Int) < n := by omega
            have hb : b = true := by
              rw [hM.out, List.take_of_length_le (by rw [hNh.out]; exact Nat.le_refl _)]
              rcases p4.out with h | ⟨p, hp, ht, h⟩
              · exact .inl h
              · exact .inr ⟨p, hp, by rw [h]; exact tight_met ht⟩
            subst hb
            go_wp2
            go_ret
            exact ⟨rfl, hB.out⟩
end Go.Proofs.YtndjkbjoolkmaaaGreatDoor
