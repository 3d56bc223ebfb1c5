/-
  The document's Literals and place.
-/
import Derived.Test.YtkdalejceclanaaRdRefN
namespace Go.Proofs.Ytkdalejceclanaa
open Go.RowKit
set_option linter.unusedVariables false
/-- The slice v holds the words L. -/
def WRow (w : World) (s : ByteArray) (v : Value) (L : List (Nat × Nat)) : Prop :=
  ∃ a cap, v = .slice a L.length cap ∧ ∀ j, j < L.length → ∃ g, a = some ⟨g, 0, none⟩ ∧ w.cell? ⟨g, j * 2, none⟩ = some (.string (s.extract (L.getD j (0, 0)).1 (L.getD j (0, 0)).2)) ∧ w.cell? ⟨g, j * 2 + 1, none⟩ = some (.int .i64 ((L.getD j (0, 0)).1 : Int))
theorem WRow.keep {w w' : World} {s : ByteArray} {v : Value} {L : List (Nat × Nat)} (h : WRow w s v L) (q : Below w.heap.size w w') : WRow w' s v L := by
  obtain ⟨a, cap, e, h⟩ := h
  refine ⟨a, cap, e, fun j hj => ?_⟩
  obtain ⟨g, e1, c0, c1⟩ := h j hj
  exact ⟨g, e1, (q.cell (p := ⟨g, _, none⟩) (World.block_lt_of_cell? _ _ c0)).trans c0, (q.cell (p := ⟨g, _, none⟩) (World.block_lt_of_cell? _ _ c1)).trans c1⟩
theorem wrow_flat (s : ByteArray) : ∀ (L : List (Nat × Nat)) (j i : Nat), j < L.length → i < 2 → ((L.map (wcell s)).flatten)[j * 2 + i]? = (wcell s (L.getD j (0, 0)))[i]?
  | x :: L, 0, i, _, hi => by
    rw [List.map_cons, List.flatten_cons, Nat.zero_mul, Nat.zero_add, List.getElem?_append_left (by show i < 2; exact hi)]
    rfl
  | x :: L, j + 1, i, hj, hi => by
    rw [List.map_cons, List.flatten_cons, List.getElem?_append_right (by show 2 ≤ _; omega)]
    have := wrow_flat s L j i (by simpa using hj) hi
    rw [show (j + 1) * 2 + i - (wcell s x).length = j * 2 + i by show (j + 1) * 2 + i - 2 = _; omega]
    exact this
  | [], j, i, hj, _ => by simp at hj
theorem wrow_of {w : World} {base : Nat} {s : ByteArray} {v : Value} {L : List (Nat × Nat)} (h : w.ownsRow base 95 2 v L.length ((L.map (wcell s)).flatten)) : WRow w s v L := by
  rcases id h.2 with ⟨rfl, e⟩ | ⟨g, cap, cur, rfl, -⟩
  · exact ⟨none, 0, by rw [e], fun j hj => by omega⟩
  · refine ⟨_, cap, rfl, fun j hj => ⟨g, rfl, ?_, ?_⟩⟩
    · have := h.cells (g := g) rfl (j * 2 + 0) _ (wrow_flat s L j 0 hj (by decide))
      rw [Addr.add_lit, Nat.zero_add] at this
      exact this
    · have := h.cells (g := g) rfl (j * 2 + 1) _ (wrow_flat s L j 1 hj (by decide))
      rw [Addr.add_lit, Nat.zero_add] at this
      exact this
theorem lit48 (vars : Nat) : RD.lit [48] vars = some 0 := by
  unfold RD.lit
  rw [if_neg (by decide), if_pos ⟨by decide, by show 0 ≤ _; omega⟩]
  rfl
theorem lit_other {l : List UInt8} {vars : Nat} (h : l ≠ [48]) : (asL l vars = 0 → RD.lit l vars = none) ∧ (asL l vars ≠ 0 → RD.lit l vars = some (asL l vars)) := by
  unfold asL
  cases e : RD.lit l vars with
  | none => exact ⟨fun _ => rfl, fun c => absurd rfl c⟩
  | some z =>
    refine ⟨fun c => ?_, fun _ => rfl⟩
    exfalso
    have hz : z = 0 := c
    subst hz
    unfold RD.lit at e
    split at e
    · split at e
      · next q =>
        have : -(RD.val l.tail : Int) = 0 := Option.some.inj e
        omega
      · cases e
    · split at e
      · next q =>
        have : (RD.val l : Int) = 0 := Option.some.inj e
        exact h (RD.val_zero q.1 (by omega))
      · cases e
/-- What the document's Literals tells. -/
def RLitPost (L : List (Nat × Nat)) (R : Bool × List Int × List (Nat × Nat)) (w : World) (e : Ending) (w' : World) : Prop :=
  Below w.heap.size w w' ∧ ((R.1 = true → ∃ v, e = .returned (.tuple #[v, .int .i64 ((L.length - R.2.2.length : Nat) : Int), .int .i64 0]) ∧ w'.ownsRow w.heap.size 3 1 v R.2.1.length (R.2.1.map (Value.int .i64))) ∧
    (R.1 = false → e = .returned (.tuple #[.slice none 0 0, .int .i64 (-1), .int .i64 ((L.length - R.2.2.length : Nat) : Int)])))
theorem rlit_no {L : List (Nat × Nat)} {R : Bool × List Int × List (Nat × Nat)} {w w' : World} {e : Ending} {i : Nat} (b : Below w.heap.size w w') (h : R.1 = false) (hi : L.length - R.2.2.length = i) (he : e = .returned (.tuple #[.slice none 0 0, .int .i64 (-1), .int .i64 (i : Int)])) : RLitPost L R w e w' :=
  ⟨b, fun c => absurd (h.symm.trans c) (by decide), fun _ => by rw [he, hi]⟩
theorem rlit_yes {L : List (Nat × Nat)} {R : Bool × List Int × List (Nat × Nat)} {w w' : World} {e : Ending} {i : Nat} {v : Value} (b : Below w.heap.size w w') (h : R.1 = true) (hi : L.length - R.2.2.length = i) (ho : w'.ownsRow w.heap.size 3 1 v R.2.1.length (R.2.1.map (Value.int .i64))) (he : e = .returned (.tuple #[v, .int .i64 (i : Int), .int .i64 0])) : RLitPost L R w e w' :=
  ⟨b, fun _ => ⟨v, by rw [he, hi], ho⟩, fun c => absurd (h.symm.trans c) (by decide)⟩
theorem drop_cons {L : List (Nat × Nat)} {k : Nat} (h : k < L.length) : L.drop k = L.getD k (0, 0) :: L.drop (k + 1) := by
  rw [List.drop_eq_getElem_cons h, List.getD_eq_getElem?_getD, List.getElem?_eq_getElem h]
  rfl
set_option maxRecDepth 100000 in
set_option maxHeartbeats 16000000 in
theorem rlits_calls (w : World) (s : ByteArray) (t : List UInt8) (v : Value) (L : List (Nat × Nat)) (i vars : Nat) (hs : s.data.toList = t) (hW : WRow w s v L) (hl : t.length ≤ 1048576) (hLl : L.length ≤ 1048577) (hi' : i ≤ L.length) (hv : vars ≤ 1000000) (hp : ∀ x ∈ L, x.2 ≤ t.length) :
    Calls Try.prog 77 #[v, .int .i64 (i : Int), .int .i64 (vars : Int)] w fun e w' => RLitPost L (RD.litsW (PL t vars) (L.drop i)) w e w' := by
  obtain ⟨i0, hi, hz0, hz1, hz2⟩ := rinfo_parts rInfoInt
  obtain ⟨va, vc, rfl, -⟩ := id hW
  obtain ⟨R, hR⟩ : ∃ R, RD.litsW (PL t vars) (L.drop i) = R := ⟨_, rfl⟩
  rw [hR]
  have I0 : Hid (R = ((RD.litsW (PL t vars) (L.drop i)).1, [] ++ (RD.litsW (PL t vars) (L.drop i)).2.1, (RD.litsW (PL t vars) (L.drop i)).2.2)) := hR.symm
  have J0 : Hid (([] : List Int).length ≤ i) := Nat.zero_le _
  have O0 : Hid (w.ownsRow w.heap.size 3 1 (.slice none 0 0) 0 (([] : List Int).map (Value.int .i64))) := ⟨rfl, .inl ⟨rfl, rfl⟩⟩
  have B0 : Hid (Below w.heap.size w w) := Below.refl _ _
  have HS := hide hs
  have HP := hide hp
  have HW := hide hW
  clear hR hW hs hp
  go_enter Try.func77, Try.ntmps77
  go_wp2_with fail
  go_loopw [1, 9] (fun x m wr => ∃ (k : Nat) (zs : List Int), x = .int .i64 (k : Int) ∧ k ≤ L.length ∧ Hid (wr.ownsRow w.heap.size 3 1 m zs.length (zs.map (Value.int .i64))) ∧ Hid (R = ((RD.litsW (PL t vars) (L.drop k)).1, zs ++ (RD.litsW (PL t vars) (L.drop k)).2.1, (RD.litsW (PL t vars) (L.drop k)).2.2)) ∧ Hid (zs.length ≤ k) ∧ Hid (Below w.heap.size w wr)) (fun x _ _ => L.length - (intOf x).toNat)
  case atStart => exact ⟨i, [], rfl, hi', O0, I0, J0, B0⟩
  case round =>
    clear I0 J0 O0 B0
    obtain ⟨k, zs, rfl, hk, OO, RR, JJ, BB⟩ := hrel
    obtain ⟨am, cm, hm⟩ : ∃ am cm, u9 = .slice am zs.length cm := by
      rcases OO.out.2 with ⟨e, e2⟩ | ⟨q, cap, cur, e, -⟩
      · exact ⟨none, 0, by rw [e, e2]⟩
      · exact ⟨_, _, e⟩
    subst hm
    by_cases hlt : k < L.length
    · obtain ⟨va', vc', e, hc⟩ := HW.out.keep BB.out
      cases e
      obtain ⟨g, rfl, c0, c1⟩ := hc k hlt
      have D := drop_cons hlt
      have hmem : L.getD k (0, 0) ∈ L := by rw [List.getD_eq_getElem?_getD, List.getElem?_eq_getElem hlt]; exact List.getElem_mem hlt
      have hpl : (RD.piece t (L.getD k (0, 0))).length ≤ 1048576 := by
        have := HP.out _ hmem
        unfold RD.piece
        rw [List.length_drop, List.length_take]
        omega
      have hd := extract_piece s t HS.out (L.getD k (0, 0))
      have PP : PL t vars (L.getD k (0, 0)) = RD.lit (RD.piece t (L.getD k (0, 0))) vars := rfl
      rw [D] at RR
      have k0 : (0 : Int) ≤ (k : Int) := by omega
      have k1 : (k : Int) < (L.length : Int) := by omega
      have hdl : (L.drop (k + 1)).length = L.length - (k + 1) := List.length_drop
      clear c1 hmem D hc
      generalize L.getD k (0, 0) = X at *
      generalize RD.piece t X = lu at *
      generalize s.extract X.1 X.2 = u at *
      by_cases h48 : lu = [48]
      · subst h48
        obtain rfl := sis hd
        have P0 : PL t vars X = some 0 := PP.trans (lit48 vars)
        have E1 : Hid (R.1 = true) := by show _ = _; rw [RR.out, litsW_zero P0]
        have E2 : Hid (L.length - R.2.2.length = k + 1) := by show _ = _; rw [RR.out, litsW_zero P0]; simp only; omega
        have E3 : Hid (zs = R.2.1) := by show _ = _; rw [RR.out, litsW_zero P0, List.append_nil]
        clear RR PP P0 hd hpl hdl
        go_wp2_with fail
        go_ret3
        exact rlit_yes (i := k + 1) BB.out E1.out E2.out (by rw [← E3.out]; exact OO.out) rfl
      · obtain ⟨e1, e2, e3, e4, e5⟩ := sno hd h48
        have q := hide (aslit_calls wr u lu vars hd (by omega) hv)
        obtain ⟨o1, o2⟩ := lit_other (vars := vars) h48
        obtain ⟨z, hz⟩ : ∃ z, asL lu vars = z := ⟨_, rfl⟩
        rw [hz] at q o1 o2
        by_cases hz' : z = 0
        · have P0 : PL t vars X = none := PP.trans (o1 hz')
          have E1 : Hid (R.1 = false) := by show _ = _; rw [RR.out, litsW_none P0]
          have E2 : Hid (L.length - R.2.2.length = k) := by show _ = _; rw [RR.out, litsW_none P0]; simp only [List.length_cons]; omega
          subst hz'
          clear RR PP P0 hd hpl hdl o1 o2 h48 hz
          go_wp2_with (go_at_call 103; refine q.out.mono ?_; rintro e w2 ⟨rfl, hw2⟩; subst w2)
          go_ret3
          exact rlit_no (i := k) BB.out E1.out E2.out rfl
        · have P0 : PL t vars X = some z := PP.trans (o2 hz')
          have R2 : Hid (R = ((RD.litsW (PL t vars) (L.drop (k + 1))).1, (zs ++ [z]) ++ (RD.litsW (PL t vars) (L.drop (k + 1))).2.1, (RD.litsW (PL t vars) (L.drop (k + 1))).2.2)) := by show _ = _; rw [RR.out, litsW_some P0 hz', List.append_assoc]; rfl
          have J2 : Hid ((zs ++ [z]).length ≤ k + 1) := by have := JJ.out; show _ ≤ _; rw [List.length_append]; exact Nat.succ_le_succ this
          have tz := beq_no hz'
          have OA := hide (World.ownsRow.alloc OO.out (.cells #[.int .i64 z] 3))
          have CA := hide (rcell_one wr (.int .i64 z) 3)
          have SZ := hide (And.intro JJ.out (And.intro hLl (And.intro hk BB.out.size)))
          clear RR PP P0 hd hpl hdl o1 o2 h48 hz
          go_upto_region 8 with (go_at_call 103; refine q.out.mono ?_; rintro e w2 ⟨rfl, hw2⟩; subst w2)
          clear q tz e1 e2 e3 e4 e5 c0
          go_wp2_with (at_builtin; (refine wpList_append_own _ rfl _ _ 23 rfl w.heap.size 3 i0 (.int .i64 0) 1 8 rSliceInt hi hz0 hz1 hz2 rfl (by decide) _ _ _ rfl OA.out ⟨wr.heap.size, 0, none⟩ 1 1 [.int .i64 z] rfl rfl CA.out (by simp [Value.oneCell']) (by have ⟨q1, q2, q3, q4⟩ := SZ.out; unfold maxLen; omega) (by have ⟨q1, q2, q3, q4⟩ := SZ.out; omega) (by have ⟨q1, q2, q3, q4⟩ := SZ.out; simp; omega) ?_; intro v5 w5 hown5 hgrow5 _; replace hown5 := hide hown5; replace hgrow5 := hide hgrow5))
          have B5 := hide ((BB.out.then_below ((Below.refl _ _).alloc (Nat.le_refl _) (.cells #[.int .i64 z] 3))).then_grown hgrow5.out (fun g hg => (OA.out.lt g hg).1))
          go_roundw
          case rel => exact ⟨k + 1, zs ++ [z], by go_num, by omega, by show _; rw [List.map_append, List.length_append]; exact hown5.out, R2, J2, B5⟩
          case measure => simp [intOf]; omega
    · obtain rfl : k = L.length := by omega
      have D : L.drop L.length = [] := List.drop_length
      rw [D] at RR
      have E1 : Hid (R.1 = false) := by show _ = _; rw [RR.out]; rfl
      have E2 : Hid (L.length - R.2.2.length = L.length) := by show _ = _; rw [RR.out]; rfl
      clear RR D hlt hk
      go_wp2_with fail
      go_ret3
      exact rlit_no (i := L.length) BB.out E1.out E2.out rfl
set_option maxRecDepth 100000 in
set_option maxHeartbeats 4000000 in
theorem place_calls (w : World) (s : ByteArray) (t : List UInt8) (v : Value) (L : List (Nat × Nat)) (i : Nat) (hs : s.data.toList = t) (hW : WRow w s v L) :
    Calls Try.prog 49 #[v, .int .i64 (i : Int), .string s] w fun e w' => e = .returned (.int .i64 (RD.headAt t (L.drop i) : Nat)) ∧ w' = w := by
  have hz := size_of s t hs
  have zz : (s.size : Int) = (t.length : Int) := by omega
  obtain ⟨va, vc, rfl, hc⟩ := hW
  by_cases h : i < L.length
  · obtain ⟨g, rfl, c0, c1⟩ := hc i h
    have E : Hid (RD.headAt t (L.drop i) = (L.getD i (0, 0)).1) := by show _ = _; rw [drop_cons h]; rfl
    have k0 : (0 : Int) ≤ (i : Int) := by omega
    have k1 : (i : Int) < (L.length : Int) := by omega
    clear hs hz hc c0
    generalize (L.getD i (0, 0)).1 = x at *
    generalize RD.headAt t (L.drop i) = R at *
    go_enter Try.func49, Try.ntmps49
    go_wp2_with fail
    go_ret
    exact ⟨by rw [E.out]; rfl, rfl⟩
  · have E : Hid (RD.headAt t (L.drop i) = t.length) := by show _ = _; rw [List.drop_eq_nil_of_le (by omega)]; rfl
    have k1 : ¬ (i : Int) < (L.length : Int) := by omega
    clear hs hz hc
    generalize RD.headAt t (L.drop i) = R at *
    go_enter Try.func49, Try.ntmps49
    go_wp2_with fail
    go_ret
    exact ⟨by rw [E.out]; rfl, rfl⟩
end Go.Proofs.Ytkdalejceclanaa
