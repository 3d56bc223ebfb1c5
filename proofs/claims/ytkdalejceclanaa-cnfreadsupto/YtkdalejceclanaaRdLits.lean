/-
  Package words: Literals.
-/
import Derived.Test.YtkdalejceclanaaRdNum
import Derived.Laws.AppendOwn
namespace Go.Proofs.Ytkdalejceclanaa
open Go.RowKit
set_option linter.unusedVariables false
def PL (t : List UInt8) (vars : Nat) : Nat × Nat → Option Int := fun x => RD.lit (RD.piece t x) vars
theorem rInfoInt : (Try.prog.info? 3).map (fun i => (i.zero, i.size, i.bytes)) = some (some (.int .i64 0), 1, 8) := by kernel_rfl
theorem rSliceInt : Try.prog.underlying 23 = some (.slice 3) := by kernel_rfl
theorem rinfo_parts {P : Program} {t : TypeId} {z : Value} {n b : Nat} (h : (P.info? t).map (fun i => (i.zero, i.size, i.bytes)) = some (some z, n, b)) : ∃ i, P.info? t = some i ∧ i.zero = some z ∧ i.size = n ∧ i.bytes = b := by
  cases hi : P.info? t with
  | none => rw [hi] at h; cases h
  | some i =>
    rw [hi] at h
    simp only [Option.map_some, Option.some.injEq, Prod.mk.injEq] at h
    exact ⟨i, rfl, h.1, h.2.1, h.2.2⟩
theorem rcell_one (w : World) (x : Value) (t : TypeId) : ∀ j u, [x][j]? = some u → (w.alloc (.cells #[x] t)).cell? ((⟨w.heap.size, 0, none⟩ : Addr).add j) = some u := by
  intro j u hj
  have hb := heap_alloc_new w (.cells #[x] t)
  rw [Addr.add_lit, Nat.zero_add, cell_of_row _ _ _ _ _ _ hb]
  rw [List.getElem?_toArray]
  exact hj
theorem KG.row {g base n size : Nat} {e : TypeId} {v : Value} {xs : List Value} {w w' : World} (h : KG g w w') (o : w.ownsRow base e size v n xs) (hg : g < base) : w'.ownsRow base e size v n xs := by
  obtain ⟨h1, h2⟩ := o
  refine ⟨h1, ?_⟩
  rcases h2 with h2 | ⟨q, cap, cur, h2, h3, h4, h5⟩
  · exact .inl h2
  · exact .inr ⟨q, cap, cur, h2, h3, (h.block q (Array.getElem?_eq_some_iff.1 h4).1 (by omega)).trans h4, h5⟩
theorem KG.alloc {g : Nat} {a b : World} (h : KG g a b) (o : Obj) : KG g a (b.alloc o) :=
  h.trans (KG.of_below ((Below.refl _ b).alloc (Nat.le_refl _) o))
theorem KG.grown {g base n size : Nat} {e : TypeId} {v : Value} {xs : List Value} {a w w' : World} (h : KG g a w) (ho : w.ownsRow base e size v n xs) (hb : a.heap.size ≤ base) (hg : w.grownBy w' v.ownBlock) : KG g a w' := by
  refine ⟨hg.os.trans h.os, hg.tape.trans h.tape, hg.output.trans h.output, Nat.le_trans h.size hg.size, fun k hk hkg => ?_⟩
  refine (hg.block k (Nat.lt_of_lt_of_le hk h.size) (fun c => ?_)).trans (h.block k hk hkg)
  have := (ho.lt k c.symm).1
  omega
theorem RDR.grown {g base n size : Nat} {e : TypeId} {v : Value} {xs : List Value} {w w' : World} {s : ByteArray} {a k : Nat} (h : RDR w g s a k) (ho : w.ownsRow base e size v n xs) (hb : g < base) (hg : w.grownBy w' v.ownBlock) : RDR w' g s a k := by
  refine (hg.block g h.lt (fun c => ?_)).trans h
  have := (ho.lt g c.symm).1
  omega
theorem wsF_len (t : List UInt8) : ∀ (f i : Nat), (RD.wsF t f i).length ≤ f
  | 0, i => Nat.le_refl _
  | f + 1, i => by
    unfold RD.wsF
    split
    · rw [List.length_cons]
      have := wsF_len t f (RD.we t (RD.skip t i))
      omega
    · exact Nat.zero_le _
theorem ws_len (t : List UInt8) (i : Nat) : (RD.ws t i).length ≤ t.length + 1 := wsF_len t _ i
/-- What Literals tells: of the words from n on. -/
def LitPost (g : Nat) (s : ByteArray) (t : List UInt8) (L : Bool × List Int × List (Nat × Nat)) (w : World) (e : Ending) (w' : World) : Prop :=
  ∃ a n v, n ≤ t.length ∧ RDR w' g s a n ∧ KG g w w' ∧ e = .returned (.tuple #[v, .bool L.1]) ∧
    (L.1 = true → w'.ownsRow w.heap.size 3 1 v L.2.1.length (L.2.1.map (Value.int .i64)) ∧ RD.ws t n = L.2.2) ∧ (L.1 = false → v = .slice none 0 0 ∧ a = RD.headAt t L.2.2)
theorem litPost_no {g : Nat} {s : ByteArray} {t : List UInt8} {L : Bool × List Int × List (Nat × Nat)} {w w' : World} {e : Ending} {a n : Nat} (hn : n ≤ t.length) (R : RDR w' g s a n) (K : KG g w w') (h : L.1 = false) (ha : a = RD.headAt t L.2.2) (he : e = .returned (.tuple #[.slice none 0 0, .bool false])) : LitPost g s t L w e w' :=
  ⟨a, n, _, hn, R, K, by rw [he, h], fun c => absurd (h.symm.trans c) (by decide), fun _ => ⟨rfl, ha⟩⟩
theorem litPost_yes {g : Nat} {s : ByteArray} {t : List UInt8} {L : Bool × List Int × List (Nat × Nat)} {w w' : World} {e : Ending} {a n : Nat} {v : Value} (hn : n ≤ t.length) (R : RDR w' g s a n) (K : KG g w w') (h : L.1 = true) (ho : w'.ownsRow w.heap.size 3 1 v L.2.1.length (L.2.1.map (Value.int .i64))) (hw : RD.ws t n = L.2.2) (he : e = .returned (.tuple #[v, .bool true])) : LitPost g s t L w e w' :=
  ⟨a, n, v, hn, R, K, by rw [he, h], fun _ => ⟨ho, hw⟩, fun c => by rw [h] at c; cases c⟩
theorem litsW_nil (P : Nat × Nat → Option Int) : RD.litsW P [] = (false, [], []) := rfl
theorem litsW_none {P : Nat × Nat → Option Int} {x : Nat × Nat} {r : List (Nat × Nat)} (h : P x = none) : RD.litsW P (x :: r) = (false, [], x :: r) := by
  unfold RD.litsW
  rw [h]
theorem litsW_zero {P : Nat × Nat → Option Int} {x : Nat × Nat} {r : List (Nat × Nat)} (h : P x = some 0) : RD.litsW P (x :: r) = (true, [], r) := by
  unfold RD.litsW
  rw [h]
  rfl
theorem litsW_some {P : Nat × Nat → Option Int} {x : Nat × Nat} {r : List (Nat × Nat)} {z : Int} (h : P x = some z) (hz : z ≠ 0) : RD.litsW P (x :: r) = ((RD.litsW P r).1, z :: (RD.litsW P r).2.1, (RD.litsW P r).2.2) := by
  rw [RD.litsW]
  rw [h]
  simp only [if_neg hz]
/-- The sign of a word, and what stands behind it. -/
def neg (l : List UInt8) : Bool := decide (l.getD 0 0 = 45)
def body (l : List UInt8) : List UInt8 := if neg l then l.tail else l
theorem lit_is (l : List UInt8) (vars : Nat) : RD.lit l vars = if RD.num (body l) = true ∧ RD.val (body l) ≤ vars then (if RD.val (body l) = 0 then (if neg l then none else some 0) else some ((if neg l then -1 else 1) * (RD.val (body l) : Int))) else none := by
  unfold RD.lit body neg
  by_cases h : l.getD 0 0 = 45
  · rw [if_pos h]
    simp only [h, decide_true, if_true]
    by_cases h1 : RD.num l.tail = true ∧ RD.val l.tail ≤ vars
    · rw [if_pos h1]
      by_cases h2 : RD.val l.tail = 0
      · rw [if_pos h2, if_neg (fun c => c.2.2 h2)]
      · rw [if_neg h2, if_pos ⟨h1.1, h1.2, h2⟩]
        congr 1
        omega
    · rw [if_neg h1, if_neg (fun c => h1 ⟨c.1, c.2.1⟩)]
  · rw [if_neg h]
    simp only [h, decide_false, Bool.false_eq_true, if_false]
    by_cases h1 : RD.num l = true ∧ RD.val l ≤ vars
    · rw [if_pos h1, if_pos h1]
      by_cases h2 : RD.val l = 0
      · rw [if_pos h2, h2]
        rfl
      · rw [if_neg h2]
        congr 1
        omega
    · rw [if_neg h1, if_neg h1]
theorem piece_len {t : List UInt8} {a e : Nat} (h1 : a ≤ e) (h2 : e ≤ t.length) : (RD.piece t (a, e)).length = e - a := by
  unfold RD.piece
  rw [List.length_drop, List.length_take]
  simp only
  omega
theorem tail_data (u : ByteArray) (l : List UInt8) (h : u.data.toList = l) : (u.extract 1 u.size).data.toList = l.tail := by
  rw [ByteArray.data_extract, Array.toList_extract, h, List.extract_eq_take_drop, size_of u l h, List.take_of_length_le (by simp), List.drop_one]
set_option maxRecDepth 100000 in
set_option maxHeartbeats 8000000 in
theorem lits_calls (w : World) (g : Nat) (s : ByteArray) (t : List UInt8) (a n vars : Nat) (hs : s.data.toList = t) (R : RDR w g s a n) (hl : t.length ≤ 1048576) (hn : n ≤ t.length) (hv : vars ≤ 1000000) :
    Calls Try.prog 80 #[.pointer (some ⟨g, 0, none⟩), .int .i64 (vars : Int)] w fun e w' => LitPost g s t (RD.litsW (PL t vars) (RD.ws t n)) w e w' := by
  obtain ⟨i0, hi, hz0, hz1, hz2⟩ := rinfo_parts rInfoInt
  have hglt := R.lt
  obtain ⟨L, hL⟩ : ∃ L, RD.litsW (PL t vars) (RD.ws t n) = L := ⟨_, rfl⟩
  rw [hL]
  have I0 : Hid (L = ((RD.litsW (PL t vars) (RD.ws t n)).1, [] ++ (RD.litsW (PL t vars) (RD.ws t n)).2.1, (RD.litsW (PL t vars) (RD.ws t n)).2.2)) := hL.symm
  have J0 : Hid (([] : List Int).length + (RD.ws t n).length ≤ t.length + 1) := by have := ws_len t n; show _ + _ ≤ _; simpa using this
  have O0 : Hid (w.ownsRow w.heap.size 3 1 (.slice none 0 0) 0 (([] : List Int).map (Value.int .i64))) := ⟨rfl, .inl ⟨rfl, rfl⟩⟩
  have K0 := hide (KG.refl g w)
  have R0 := hide R
  clear hL R
  go_enter Try.func80, Try.ntmps80
  go_wp2_with fail
  go_loopw [6] (fun m wr => ∃ (k b : Nat) (zs : List Int), k ≤ t.length ∧ Hid (RDR wr g s b k) ∧ Hid (KG g w wr) ∧ Hid (wr.ownsRow w.heap.size 3 1 m zs.length (zs.map (Value.int .i64))) ∧ Hid (L = ((RD.litsW (PL t vars) (RD.ws t k)).1, zs ++ (RD.litsW (PL t vars) (RD.ws t k)).2.1, (RD.litsW (PL t vars) (RD.ws t k)).2.2)) ∧ Hid (zs.length + (RD.ws t k).length ≤ t.length + 1)) (fun _ wr => (RD.ws t (nxt wr g)).length)
  case atStart => exact ⟨n, a, [], hn, R0, K0, O0, I0, J0⟩
  case round =>
    clear I0 J0 O0 K0 R0
    obtain ⟨k, b, zs, hk, RR, KK, OO, LL, JJ⟩ := hrel
    have hnx := hide (nxt_eq RR.out)
    have q := hide (word_calls wr g s t b k hs RR.out (by omega) hk)
    obtain ⟨am, cm, hm⟩ : ∃ am cm, u6 = .slice am zs.length cm := by
      rcases OO.out.2 with ⟨e, e2⟩ | ⟨q, cap, cur, e, -⟩
      · exact ⟨none, 0, by rw [e, e2]⟩
      · exact ⟨_, _, e⟩
    subst hm
    have hA := RD.skip_le t hk
    have hAk := RD.skip_ge t k
    by_cases hw : RD.skip t k < t.length
    · have W := RD.ws_cons hw
      have hg := RD.we_gt hw
      have he := RD.we_le t (Nat.le_of_lt hw)
      have hp := extract_piece s t hs (RD.skip t k, RD.we t (RD.skip t k))
      have hpl := piece_len (t := t) (Nat.le_of_lt hg) he
      have HH : RD.headAt t ((RD.skip t k, RD.we t (RD.skip t k)) :: RD.ws t (RD.we t (RD.skip t k))) = RD.skip t k := rfl
      have LI := lit_is (RD.piece t (RD.skip t k, RD.we t (RD.skip t k))) vars
      have PP : PL t vars (RD.skip t k, RD.we t (RD.skip t k)) = RD.lit (RD.piece t (RD.skip t k, RD.we t (RD.skip t k))) vars := rfl
      rw [W] at LL JJ
      simp only at hp
      generalize s.extract (RD.skip t k) (RD.we t (RD.skip t k)) = u at *
      generalize RD.piece t (RD.skip t k, RD.we t (RD.skip t k)) = lu at *
      generalize hX : (RD.skip t k, RD.we t (RD.skip t k)) = X at *
      generalize RD.we t (RD.skip t k) = E at *
      generalize RD.skip t k = A at *
      have JS : Hid (zs.length + 1 + (RD.ws t E).length ≤ t.length + 1) := by have := JJ.out; rw [List.length_cons] at this; show _ ≤ _; omega
      have MS : Hid ((RD.ws t k).length = (RD.ws t E).length + 1) := by show _ = _; rw [W, List.length_cons]
      rw [LI] at PP
      have hus : 0 < u.size := by rw [size_of u lu hp, hpl]; omega
      obtain ⟨e6, e7⟩ := sempty (S := u) (by omega)
      have hlu : lu ≠ [] := by intro c; rw [c] at hpl; simp at hpl; omega
      obtain ⟨e1, e2, e3, e4, e5⟩ := sno hp hlu
      have hb := byteAt u lu hp 0 hus
      have hus' : (0 : Int) < (u.size : Int) := by omega
      have hus1 : (1 : Int) ≤ (u.size : Int) := by omega
      have NG : Hid (neg lu = decide (lu.getD 0 0 = 45)) := rfl
      have TD := hide (tail_data u lu hp)
      have BD : Hid (body lu = if neg lu then lu.tail else lu) := rfl
      have lul : lu.length ≤ 1048576 := by omega
      have hp' := hide hp
      have hE : Hid (E ≤ t.length) := he
      have PP' := hide PP
      have HH' := hide HH
      have X0 : Hid (lu.getD 0 0 = 45 ↔ neg lu = true) := by show _ ↔ _; rw [NG.out]; simp
      clear PP HH hp LI hpl hlu W hX
      have PP := PP'
      have HH := HH'
      clear PP' HH'
      obtain ⟨b0, hb0⟩ : ∃ b0, lu.getD 0 0 = b0 := ⟨_, rfl⟩
      rw [hb0] at hb X0
      go_upto_if 19 with (go_at_call 78; refine q.out.mono ?_; rintro e w1 ⟨rfl, R1, K1⟩; have O1 := hide (K1.row OO.out hglt); replace R1 := hide R1; replace K1 := hide (KK.out.trans K1))
      clear q RR KK OO
      have SL : Hid (neg lu = true → b0 = 45) := fun h => X0.out.2 h
      go_cut [7, 8] (fun wd sg wx => wd = .string (if neg lu then u.extract 1 u.size else u) ∧ sg = .int .i64 (if neg lu then -1 else 1) ∧ wx = w1)
      case first =>
        clear LL PP HH
        cases hng : neg lu
        · have t1 : ((b0.toNat : Int) == 45) = false := u8_ne (c := 45) (fun c => by have := X0.out.1 c; rw [hng] at this; cases this)
          clear X0 SL
          go_wp2_with fail
          go_meet
          exact ⟨by rw [hng]; rfl, by rw [hng]; rfl, rfl⟩
        · have t1 : ((b0.toNat : Int) == 45) = true := by rw [SL.out hng]; rfl
          clear X0 SL
          go_wp2_with fail
          go_meet
          exact ⟨by rw [hng]; rfl, by rw [hng]; rfl, rfl⟩
      case rest =>
        obtain ⟨rfl, rfl, hwx⟩ := hcut
        subst hwx
        clear e1 e2 e3 e4 e5 e6 e7 hb hus' hus1 X0 SL hb0
        have hdat : (if neg lu then u.extract 1 u.size else u).data.toList = body lu := by
          rw [BD.out]
          cases neg lu
          · exact hp'.out
          · exact TD.out
        have hbl : (body lu).length ≤ 1048576 := by
          rw [BD.out]
          cases neg lu
          · exact lul
          · simp only [if_true, List.length_tail]; omega
        have nq := number_calls wc _ (body lu) hdat (by omega)
        clear TD BD hdat hbl NG hp'
        generalize (if neg lu then u.extract 1 u.size else u) = u2 at *
        generalize body lu = lw at *
        clear lul hus hA hAk
        by_cases c1 : RD.num lw = true
        · rw [numV_yes c1] at nq
          replace nq := hide nq
          have NVL : Hid (RD.val lw ≤ vars → min (RD.val lw) RD.top = RD.val lw) := fun h => Nat.min_eq_left (by unfold RD.top; omega)
          have NVG : Hid (¬ RD.val lw ≤ vars → vars < min (RD.val lw) RD.top) := fun h => by unfold RD.top; omega
          have nvt := min_top (RD.val lw)
          generalize min (RD.val lw) RD.top = nv at *
          by_cases c2 : RD.val lw ≤ vars
          · have hv2 := NVL.out c2
            have t2 : decide ((vars : Int) < (nv : Int)) = false := decide_eq_false (by omega)
            have t2n : decide (vars < nv) = false := decide_eq_false (by omega)
            have t2p : nv ≤ vars := by omega
            have t2q : ¬ vars < nv := by omega
            have hnv : nv ≤ 1000000 := by omega
            by_cases c3 : RD.val lw = 0
            · have hnv0 : nv = 0 := by omega
              subst hnv0
              cases hng : neg lu
              · have P0 : PL t vars X = some 0 := by rw [PP.out, if_pos ⟨c1, c2⟩, if_pos c3, hng]; rfl
                have E1 : Hid (L.1 = true) := by show _ = _; rw [LL.out, litsW_zero P0]
                have E2 : Hid (RD.ws t E = L.2.2) := by show _ = _; rw [LL.out, litsW_zero P0]
                have E3 : Hid (zs = L.2.1) := by show _ = _; rw [LL.out, litsW_zero P0, List.append_nil]
                clear LL PP HH JJ JS MS NVL NVG c1 c2 c3 hv2 nvt P0
                go_wp2_with (go_at_call 79; refine nq.out.mono ?_; rintro e w2 ⟨rfl, hw2⟩; subst w2)
                go_ret2
                exact litPost_yes (n := E) hE.out R1.out K1.out E1.out (by rw [← E3.out]; exact O1.out) E2.out rfl
              · have P0 : PL t vars X = none := by rw [PP.out, if_pos ⟨c1, c2⟩, if_pos c3, hng]; rfl
                have E1 : Hid (L.1 = false) := by show _ = _; rw [LL.out, litsW_none P0]
                have E2 : Hid (A = RD.headAt t L.2.2) := by show _ = _; rw [LL.out, litsW_none P0]; exact HH.out.symm
                clear LL PP HH JJ JS MS NVL NVG c1 c2 c3 hv2 nvt P0
                go_wp2_with (go_at_call 79; refine nq.out.mono ?_; rintro e w2 ⟨rfl, hw2⟩; subst w2)
                go_ret2
                exact litPost_no (n := E) hE.out R1.out K1.out E1.out E2.out rfl
            · have t3 : ((nv : Int) == 0) = false := beq_no (by omega)
              have t3' : ¬ (nv : Int) = 0 := by omega
              have t3n : ¬ nv = 0 := by omega
              have t3m : (nv == 0) = false := by simpa using t3n
              obtain ⟨z, hz⟩ : ∃ z : Int, (if neg lu then -1 else 1) * (RD.val lw : Int) = z := ⟨_, rfl⟩
              have P0 : PL t vars X = some z := by rw [PP.out, if_pos ⟨c1, c2⟩, if_neg c3, hz]
              have hz0 : z ≠ 0 := by rw [← hz]; cases neg lu <;> simp <;> omega
              have LL2 : Hid (L = ((RD.litsW (PL t vars) (RD.ws t E)).1, (zs ++ [z]) ++ (RD.litsW (PL t vars) (RD.ws t E)).2.1, (RD.litsW (PL t vars) (RD.ws t E)).2.2)) := by show _ = _; rw [LL.out, litsW_some P0 hz0, List.append_assoc]; rfl
              have JJ2 : Hid ((zs ++ [z]).length + (RD.ws t E).length ≤ t.length + 1) := by have := JS.out; show _ ≤ _; rw [List.length_append]; exact this
              have zl : zs.length ≤ 1048577 := by have := JS.out; omega
              rw [← hv2] at hz
              cases hng : neg lu
              · rw [hng] at hz
                have hz1 : z = (nv : Int) := by rw [← hz]; simp
                subst hz1
                have w5' : wrap64 (nv : Int) = (nv : Int) := w64 _ (by omega) (by omega)
                clear LL PP HH JJ JS NVL NVG c1 c2 c3 hv2 nvt P0 hz hz0
                go_upto_region 12 with (go_at_call 79; refine nq.out.mono ?_; rintro e w2 ⟨rfl, hw2⟩; subst w2)
                have OA := hide (World.ownsRow.alloc O1.out (.cells #[.int .i64 ((nv : Int))] 3))
                have CA := hide (rcell_one wc (.int .i64 ((nv : Int))) 3)
                have zl' := hide (And.intro zl K1.out.size)
                clear t3 t3' t3n t3m t2 t2n t2p t2q zl nq
                go_wp2_with (at_builtin; (refine wpList_append_own _ rfl _ _ 23 rfl w.heap.size 3 i0 (.int .i64 0) 1 8 rSliceInt hi hz0 hz1 hz2 rfl (by decide) _ _ _ rfl OA.out ⟨wc.heap.size, 0, none⟩ 1 1 [.int .i64 ((nv : Int))] rfl rfl CA.out (by simp [Value.oneCell']) (by have ⟨q1, q2⟩ := zl'.out; unfold maxLen; omega) (by have ⟨q1, q2⟩ := zl'.out; omega) (by have ⟨q1, q2⟩ := zl'.out; simp; omega) ?_; intro v5 w5 hown5 hgrow5 _; replace hown5 := hide hown5; replace hgrow5 := hide hgrow5))
                have R5 := hide ((R1.out.keep ((Below.refl _ _).alloc (Nat.le_refl _) (.cells #[.int .i64 ((nv : Int))] 3))).grown OA.out hglt hgrow5.out)
                have K5 := hide ((K1.out.alloc (.cells #[.int .i64 ((nv : Int))] 3)).grown OA.out (Nat.le_refl _) hgrow5.out)
                go_roundw
                case rel => exact ⟨E, A, zs ++ [(nv : Int)], hE.out, R5, K5, by show _; rw [List.map_append, List.length_append]; exact hown5.out, LL2, JJ2⟩
                case measure =>
                  rw [nxt_eq R5.out, hnx.out, MS.out]
                  exact Nat.lt_succ_self _
              · rw [hng] at hz
                have hz1 : z = -(nv : Int) := by rw [← hz]; simp
                subst hz1
                have w5' : wrap64 (-(nv : Int)) = -(nv : Int) := w64 _ (by omega) (by omega)
                clear LL PP HH JJ JS NVL NVG c1 c2 c3 hv2 nvt P0 hz hz0
                go_upto_region 12 with (go_at_call 79; refine nq.out.mono ?_; rintro e w2 ⟨rfl, hw2⟩; subst w2)
                have OA := hide (World.ownsRow.alloc O1.out (.cells #[.int .i64 (-(nv : Int))] 3))
                have CA := hide (rcell_one wc (.int .i64 (-(nv : Int))) 3)
                have zl' := hide (And.intro zl K1.out.size)
                clear t3 t3' t3n t3m t2 t2n t2p t2q zl nq
                go_wp2_with (at_builtin; (refine wpList_append_own _ rfl _ _ 23 rfl w.heap.size 3 i0 (.int .i64 0) 1 8 rSliceInt hi hz0 hz1 hz2 rfl (by decide) _ _ _ rfl OA.out ⟨wc.heap.size, 0, none⟩ 1 1 [.int .i64 (-(nv : Int))] rfl rfl CA.out (by simp [Value.oneCell']) (by have ⟨q1, q2⟩ := zl'.out; unfold maxLen; omega) (by have ⟨q1, q2⟩ := zl'.out; omega) (by have ⟨q1, q2⟩ := zl'.out; simp; omega) ?_; intro v5 w5 hown5 hgrow5 _; replace hown5 := hide hown5; replace hgrow5 := hide hgrow5))
                have R5 := hide ((R1.out.keep ((Below.refl _ _).alloc (Nat.le_refl _) (.cells #[.int .i64 (-(nv : Int))] 3))).grown OA.out hglt hgrow5.out)
                have K5 := hide ((K1.out.alloc (.cells #[.int .i64 (-(nv : Int))] 3)).grown OA.out (Nat.le_refl _) hgrow5.out)
                go_roundw
                case rel => exact ⟨E, A, zs ++ [-(nv : Int)], hE.out, R5, K5, by show _; rw [List.map_append, List.length_append]; exact hown5.out, LL2, JJ2⟩
                case measure =>
                  rw [nxt_eq R5.out, hnx.out, MS.out]
                  exact Nat.lt_succ_self _
          · have P0 : PL t vars X = none := by rw [PP.out, if_neg (fun c => c2 c.2)]
            have t2p : vars < nv := NVG.out c2
            have t2 : decide ((vars : Int) < (nv : Int)) = true := decide_eq_true (by omega)
            have t2n : decide (vars < nv) = true := decide_eq_true t2p
            have E1 : Hid (L.1 = false) := by show _ = _; rw [LL.out, litsW_none P0]
            have E2 : Hid (A = RD.headAt t L.2.2) := by show _ = _; rw [LL.out, litsW_none P0]; exact HH.out.symm
            clear LL PP HH JJ JS MS NVL NVG c1 c2 nvt P0
            cases hng : neg lu
            · go_wp2_with (go_at_call 79; refine nq.out.mono ?_; rintro e w2 ⟨rfl, hw2⟩; subst w2)
              go_ret2
              exact litPost_no (n := E) hE.out R1.out K1.out E1.out E2.out rfl
            · go_wp2_with (go_at_call 79; refine nq.out.mono ?_; rintro e w2 ⟨rfl, hw2⟩; subst w2)
              go_ret2
              exact litPost_no (n := E) hE.out R1.out K1.out E1.out E2.out rfl
        · have hnn : RD.num lw = false := by simpa using c1
          rw [numV_no hnn] at nq
          replace nq := hide nq
          have P0 : PL t vars X = none := by rw [PP.out, if_neg (fun c => c1 c.1)]
          have E1 : Hid (L.1 = false) := by show _ = _; rw [LL.out, litsW_none P0]
          have E2 : Hid (A = RD.headAt t L.2.2) := by show _ = _; rw [LL.out, litsW_none P0]; exact HH.out.symm
          clear LL PP HH JJ JS MS c1 hnn P0
          cases hng : neg lu
          · go_wp2_with (go_at_call 79; refine nq.out.mono ?_; rintro e w2 ⟨rfl, hw2⟩; subst w2)
            go_ret2
            exact litPost_no (n := E) hE.out R1.out K1.out E1.out E2.out rfl
          · go_wp2_with (go_at_call 79; refine nq.out.mono ?_; rintro e w2 ⟨rfl, hw2⟩; subst w2)
            go_ret2
            exact litPost_no (n := E) hE.out R1.out K1.out E1.out E2.out rfl
    · have hAe : RD.skip t k = t.length := by omega
      have W := RD.ws_nil hw
      have hE2 : RD.we t (RD.skip t k) = t.length := by rw [hAe, RD.we_end t (Nat.le_refl _)]
      have hex : s.extract (RD.skip t k) (RD.we t (RD.skip t k)) = ⟨#[]⟩ := by
        have := extract_piece s t hs (RD.skip t k, RD.we t (RD.skip t k))
        refine sis (v := []) (this.trans ?_)
        refine List.eq_nil_of_length_eq_zero ?_
        rw [piece_len (Nat.le_of_eq (by rw [hE2, hAe])) (by rw [hE2]; exact Nat.le_refl _), hE2, hAe, Nat.sub_self]
      rw [hex, hE2, hAe] at q
      rw [W] at LL
      have nq := fun W' => number_calls W' (⟨#[]⟩ : ByteArray) [] rfl (by simp)
      have E1 : Hid (L.1 = false) := by show _ = _; rw [LL.out]; rfl
      have E2 : Hid (t.length = RD.headAt t L.2.2) := by show _ = _; rw [LL.out]; rfl
      have nn : numV [] = .tuple #[.int .i64 0, .bool false] := rfl
      simp only [nn] at nq
      replace nq := hide nq
      have hE : Hid (t.length ≤ t.length) := Nat.le_refl _
      clear LL JJ OO W hex hE2 hAe hA hAk hw hnx nn
      go_wp2_with (first
        | (go_at_call 78; refine q.out.mono ?_; rintro e w1 ⟨rfl, R1, K1⟩; replace R1 := hide R1; replace K1 := hide (KK.out.trans K1))
        | (go_at_call 79; refine (nq.out _).mono ?_; rintro e w2 ⟨rfl, hw2⟩; subst w2))
      go_ret2
      exact litPost_no (n := t.length) hE.out R1.out K1.out E1.out E2.out rfl
end Go.Proofs.Ytkdalejceclanaa
