/-
  The law SexpTokens, whole.
-/
import Derived.Test.YtmpjlnjnilldnaaDoorTokAll
import Derived.Test.YtmpjlnjnilldnaaDoorHeadsAll
import Derived.Test.YtmpjlnjnilldnaaDoorCutAll
import Derived.Test.YtmpjlnjnilldnaaDoorScanBehind
/- ==== TokMain ==== -/
namespace Go.Proofs.YtmpjlnjnilldnaaDoor
open Go.RowKit
set_option linter.unusedVariables false
theorem tok_make {P : Program} (w : World) (t e : TypeId) (z : Value) (bytes : Nat) (h1 : P.underlying t = some (.slice e)) (h2 : (P.info? e).map (fun i => (i.zero, i.size, i.bytes)) = some (some z, 1, bytes)) (hzc : z.cells = #[z]) (n : Nat) (hb : bytes ≤ 8) (hn : n ≤ 35184372088832) :
    (Instr.makeSlice t (.int .i64 (n : Int)) (.int .i64 (n : Int))).run P w = .ok (.slice (some ⟨w.heap.size, 0, none⟩) n n) (w.alloc (.cells (List.replicate n z).toArray e)) := by
  obtain ⟨i, hi, hz0, hz1, hz2⟩ := info_parts h2
  have hbn : i.bytes * n ≤ 8 * 35184372088832 := Nat.mul_le_mul (by omega) hn
  have hrun := run_make (P := P) w t e i z h1 hi hz0 .i64 .i64 n n (by omega) (Int.le_refl _) (by
    have : ((i.bytes * n : Nat) : Int) ≤ 281474976710656 := by omega
    simpa using this) (by omega)
  have hcells : (madeCells z.cells ((n : Int).toNat * i.size)) = (List.replicate n z).toArray := by
    rw [hz1, hzc]
    simp [madeCells]
    apply Array.ext
    · simp
    · intro j h1 h2
      simp [Nat.mod_one]
  rw [hcells] at hrun
  simpa only [Int.toNat_natCast] using hrun
def iv1 (x : Nat) : Value := .int .i64 (x : Int)
/-- A block of numbers. -/
def OwnC (w : World) (g : Nat) (Z : List Nat) : Prop := w.heap[g]? = some (.cells (Z.map iv1).toArray 3 (0, 0))
theorem OwnC.cell {w : World} {g : Nat} {Z : List Nat} (h : OwnC w g Z) {j x : Nat} (hj : Z[j]? = some x) : w.cell? ⟨g, j, none⟩ = some (.int .i64 (x : Int)) := by
  rw [cell_of_row _ _ _ _ _ _ h, List.getElem?_toArray, List.getElem?_map, hj]
  rfl
theorem OwnC.free {w : World} {g : Nat} {Z : List Nat} (h : OwnC w g Z) (j : Nat) : w.frozen? ⟨g, j, none⟩ = false := by
  unfold OwnC at h
  simp [World.frozen?, h]
theorem OwnC.set {w : World} {g : Nat} {Z : List Nat} (h : OwnC w g Z) (j x : Nat) : OwnC (w.setCell ⟨g, j, none⟩ (.int .i64 (x : Int))) g (Z.set j x) := by
  unfold OwnC at *
  simp only [World.setCell, Array.getElem?_modify, h, List.map_set]
  simp [iv1]
theorem OwnC.lt {w : World} {g : Nat} {Z : List Nat} (h : OwnC w g Z) : g < w.heap.size := (Array.getElem?_eq_some_iff.1 h).1
/-- How many are closed ahead of the tokens up to i. -/
def czs (ts : List S.Tok) (i : Nat) : List Nat := (List.range (ts.length + 1)).map fun j => if j ≤ i then X.cl2 ts j else 0
theorem czs_at (ts : List S.Tok) (i j : Nat) (h : j ≤ ts.length) : (czs ts i)[j]? = some (if j ≤ i then X.cl2 ts j else 0) := by
  unfold czs
  rw [List.getElem?_map, List.getElem?_range (by omega)]
  rfl
theorem czs_set (ts : List S.Tok) {i : Nat} (h : i < ts.length) : (czs ts i).set (i + 1) (X.cl2 ts (i + 1)) = czs ts (i + 1) := by
  apply List.ext_getElem?
  intro j
  rw [List.getElem?_set]
  by_cases c : i + 1 = j
  · subst c
    rw [if_pos rfl, if_pos (by simp [czs]; omega), czs_at _ _ _ (by omega), if_pos (Nat.le_refl _)]
  · rw [if_neg c]
    by_cases d : j ≤ ts.length
    · rw [czs_at _ _ _ d, czs_at _ _ _ d]
      by_cases e : j ≤ i
      · rw [if_pos e, if_pos (by omega)]
      · rw [if_neg e, if_neg (by omega)]
    · rw [List.getElem?_eq_none (by simp [czs]; omega), List.getElem?_eq_none (by simp [czs]; omega)]
theorem czs_zero (ts : List S.Tok) : czs ts 0 = List.replicate (ts.length + 1) 0 := by
  apply List.ext_getElem?
  intro j
  by_cases d : j ≤ ts.length
  · rw [czs_at _ _ _ d, List.getElem?_replicate, if_pos (show j < ts.length + 1 by omega)]
    by_cases e : j ≤ 0
    · obtain rfl : j = 0 := by omega
      rw [if_pos e, X.cl2_zero]
    · rw [if_neg e]
  · rw [List.getElem?_eq_none (by simp [czs]; omega), List.getElem?_eq_none (by simp; omega)]
theorem atoms_count {ts : List S.Tok} {ns : List X.N} (T : TN ts ns) : ∀ {j : Nat}, j ≤ ts.length → atomsTo ns (X.nb ts j) + X.op1 ts j = X.nb ts j
  | 0, _ => by rw [X.nb_zero, X.op1_zero]; rfl
  | j + 1, h => by
    have ih := atoms_count T (j := j) (by omega)
    have e1 := X.nb_succ ts j (by omega)
    have e2 := X.op1_succ (l := ts) (i := j) (by omega)
    by_cases k2 : (ts.getD j X.t0).kind = 2
    · rw [if_pos k2] at e1
      rw [if_neg (by omega)] at e2
      rw [e1, e2]
      exact ih
    · have hnb : X.nb ts j < ns.length := by rw [T.len]; exact X.nb_lt (by omega) (Nat.le_refl _) k2
      have e3 := atomsTo_succ hnb
      rw [if_neg k2] at e1
      rw [e1, e2, e3]
      by_cases k1 : (ts.getD j X.t0).kind = 1
      · obtain ⟨c, _, _, _, _, en⟩ := T.list j (by omega) k1
        rw [en, if_pos k1, if_pos rfl]
        omega
      · rw [T.atom j (by omega) k2 k1, if_neg k1, if_neg (by exact k1)]
        omega
theorem tn_of (l : List UInt8) (hl : l.length ≤ 1048576) {ns : List X.N} (h : X.pr (S.run resv .idle l 0).1 [] [] = .inl (ns, [])) : TN (S.run resv .idle l 0).1 ns := by
  obtain ⟨h1, h2, h3, h4⟩ := X.toks_nodes h
  have hb := run_bound l
  have hm := run_many l
  refine ⟨h1, h2, h3, h4, (X.stands_rise resv _ _ _ _ _ (S.run_stands resv l 0)).2, by omega, fun j => ?_⟩
  rcases Nat.lt_or_ge j (S.run resv .idle l 0).1.length with c | c
  · rw [List.getD_eq_getElem?_getD, List.getElem?_eq_getElem c]
    have := (hb.1 _ (List.getElem_mem c)).2
    show ((S.run resv .idle l 0).1[j]).fin ≤ _
    omega
  · rw [List.getD_eq_getElem?_getD, List.getElem?_eq_none c]
    exact Nat.zero_le _
set_option maxRecDepth 100000 in
set_option maxHeartbeats 8000000 in
theorem sexpTokens_calls (w : World) (hc : Cls w) (hm : Mx w) (s : ByteArray) (l : List UInt8) (hs : s.data.toList = l) (hl : l.length ≤ 1048576) :
    Calls Tryd.prog 4 #[.string s] w fun e w' => e = .returned (.bool true) ∧ Below w.heap.size w w' := by
  have q0 := hide (heads_calls w hc hm)
  have q1 := hide (fun W (hW : Cls W) => tokens_calls W hW s l hs (by omega))
  have q2 := hide (fun W (hW : Cls W) => sexpRead_calls W hW s l hs (by omega) _ rfl)
  have told := X.out_told (S.run resv .idle l 0).1 (S.run resv .idle l 0).2.1 (S.run resv .idle l 0).2.2 (S.run_ten resv l .idle 0)
  have oerr := (X.out_err (S.run resv .idle l 0).1 (S.run resv .idle l 0).2.1 (S.run resv .idle l 0).2.2 (S.run_ten resv l .idle 0)).2
  have plc := S.run_place resv l .idle 0
  have tno := fun ns => tn_of l hl (ns := ns)
  generalize S.run resv .idle l 0 = R at *
  obtain ⟨ts, e, p⟩ := R
  simp only at q1 q2 told oerr plc tno
  generalize ho : X.out ts e p = o at *
  obtain ⟨ns, e2, p2⟩ := o
  simp only at q2 told oerr
  replace tno := hide tno
  replace oerr := hide oerr
  replace plc := hide plc
  have hcH := hide hc
  clear hc hm ho hs
  go_enter Tryd.func4, Tryd.ntmps4
  go_wp2_with fail
  refine q0.out.mono ?_
  rintro x w1 ⟨rfl, b1⟩
  have q1' := hide (q1.out w1 (hcH.out.below b1))
  replace b1 := hide b1
  clear q0 q1
  go_wp2_with fail
  refine q1'.out.mono ?_
  rintro x w2 ⟨va, rfl, ow, b2⟩
  have T2 := ownsRow.trow ow
  have q2' := hide (q2.out w2 ((hcH.out.below b1.out).below b2))
  replace b2 := hide (b1.out.then_below b2)
  replace T2 := hide T2
  clear q1' q2 ow b1
  go_wp2_with fail
  refine q2'.out.mono ?_
  rintro x w3 ⟨vf, rfl, N3, b3⟩
  have T3 := hide (T2.out.below b3)
  replace b3 := hide (b2.out.then_below b3)
  replace N3 := hide N3
  clear q2' T2 b2
  by_cases z : e2 = 0
  case neg =>
    rcases told with told | ⟨t1, t2, t3⟩
    · exact absurd told z
    have z1 : ((e2 : Int) != 0) = true := by simp; omega
    have z2 : (10 : Int) ≤ (e2 : Int) := by omega
    have z3 : (e2 : Int) ≤ 21 := by omega
    by_cases y : 20 ≤ e2
    · have y1 : (20 : Int) ≤ (e2 : Int) := by omega
      clear t3
      go_wp2_with (go_at_call 17; refine (no_calls _ _).mono ?_; rintro x w4 ⟨rfl, rfl⟩)
      go_ret
      exact ⟨by rfl, b3.out⟩
    · obtain ⟨rfl, rfl⟩ := t3.elim (fun c => absurd c y) id
      have y1 : ¬ (20 : Int) ≤ (e2 : Int) := by omega
      go_wp2_with (go_at_call 17; refine (no_calls _ _).mono ?_; rintro x w4 ⟨rfl, rfl⟩)
      go_ret
      exact ⟨by simp, b3.out⟩
  case pos =>
    subst z
    obtain ⟨e0, ns', hp, eq⟩ := oerr.out rfl
    subst e0
    have pz := plc.out rfl
    subst pz
    simp only [Prod.mk.injEq] at eq
    obtain ⟨rfl, _, rfl⟩ := eq
    have T := tno.out ns hp
    have hmany := T.many
    have hnl : ns.length ≤ ts.length := by rw [T.len]; exact (nb_bound ts ts.length (Nat.le_refl _)).1
    obtain ⟨a, cap, rfl, h1, h2⟩ := T3.out.shape
    obtain ⟨a', cap', rfl, h1', h2'⟩ := N3.out.shape
    obtain ⟨ZZ, hZ⟩ : ∃ X : Obj, X = .cells (List.replicate (ts.length + 1) (Value.int .i64 0)).toArray 3 := ⟨_, rfl⟩
    have m2 : ∀ W : World, (Instr.makeSlice 51 (.int .i64 ((ts.length : Int) + 1)) (.int .i64 ((ts.length : Int) + 1))).run Tryd.prog W = .ok (.slice (some ⟨W.heap.size, 0, none⟩) (ts.length + 1) (ts.length + 1)) (W.alloc ZZ) := by
      intro W; rw [hZ]; exact tok_make W 51 3 _ 8 sliceInt infoInt rfl (ts.length + 1) (by decide) (by omega)
    have O0 : Hid (OwnC (w3.alloc ZZ) w3.heap.size (czs ts 0)) := by
      rw [hZ]
      have := heap_alloc_new w3 (.cells (List.replicate (ts.length + 1) (Value.int .i64 0)).toArray 3)
      show OwnC _ _ _
      unfold OwnC
      rw [this, czs_zero, List.map_replicate]
      rfl
    have BZ : Hid (Below w3.heap.size w3 (w3.alloc ZZ)) := (Below.refl _ w3).alloc (Nat.le_refl _) _
    replace T := hide T
    clear told oerr plc tno hp hZ
    go_wp2_with (go_at_call 17; refine (no_calls _ _).mono ?_; rintro x w4 ⟨rfl, hq⟩; have hq := hq.symm; subst hq)
    generalize hw4 : w3.alloc ZZ = w4 at *
    generalize hgz : w3.heap.size = gz at *
    clear m2 hw4
    go_loopw [10, 11] (fun x i wr => ∃ j : Nat, x = .int .i64 (X.nb ts j : Nat) ∧ i = .int .i64 (j : Int) ∧ j ≤ ts.length ∧ Hid (OwnC wr gz (czs ts j)) ∧ Hid (Below gz w3 wr)) (fun _ i _ => ts.length - (intOf i).toNat)
    case atStart => exact ⟨0, by rw [X.nb_zero]; rfl, rfl, Nat.zero_le _, O0, BZ⟩
    case round =>
      clear O0 BZ
      obtain ⟨j, rfl, rfl, hj, OO, BB⟩ := hrel
      by_cases hlt : j < ts.length
      · obtain ⟨b, off, rfl, -, -, -, -⟩ := (show TRow wr (.slice a ts.length cap) ts from T3.out.below (by rw [hgz]; exact BB.out)).at_ hlt
        have jl : (j : Int) < (ts.length : Int) := by omega
        have jl2 : (j : Int) + 1 < (ts.length : Int) + 1 := by omega
        have jl3 : (j : Int) < (ts.length : Int) + 1 := by omega
        have ji : ((j : Int) + 1).toNat = j + 1 := by omega
        have jp : (0 : Int) ≤ (j : Int) + 1 := by omega
        have es := X.nb_succ ts j hlt
        have ec := X.cl2_succ (l := ts) (i := j) hlt
        have nbj := nb_bound ts j hj
        have zc := OO.out.cell (czs_at ts j j hj)
        rw [if_pos (Nat.le_refl j)] at zc
        have zc1 := OO.out.cell (czs_at ts j (j + 1) (by omega))
        rw [if_neg (by omega)] at zc1
        have zf := OO.out.free (j + 1)
        have cset := czs_set ts hlt
        have B1 : Below gz w3 (wr.setCell ⟨gz, j + 1, none⟩ (.int .i64 (X.cl2 ts j : Nat))) := BB.out.setCell (Nat.le_refl _) _
        have O1 := OO.out.set (j + 1) (X.cl2 ts j)
        have zcn : (wr.setCell ⟨gz, j + 1, none⟩ (.int .i64 (X.cl2 ts j : Nat))).cell? ⟨gz, j, none⟩ = some (.int .i64 (X.cl2 ts j : Nat)) := O1.cell (by rw [List.getElem?_set_ne (by omega), czs_at ts j j hj, if_pos (Nat.le_refl j)])
        have zcn1 : (wr.setCell ⟨gz, j + 1, none⟩ (.int .i64 (X.cl2 ts j : Nat))).cell? ⟨gz, j + 1, none⟩ = some (.int .i64 (X.cl2 ts j : Nat)) := O1.cell (by rw [List.getElem?_set_self (by simp [czs]; omega)])
        have zfn := O1.free (j + 1)
        obtain ⟨bb, oo, eb, t0, t1, t2, t3⟩ := (T3.out.below (by rw [hgz]; exact B1)).at_ hlt
        cases eb
        by_cases k2 : (ts.getD j X.t0).kind = 2
        · have t0' : (wr.setCell ⟨gz, j + 1, none⟩ (.int .i64 (X.cl2 ts j : Nat))).cell? ⟨b, off + j * 4, none⟩ = some (.int .i64 2) := by rw [t0, show (ts.getD j tk0).kind = 2 from k2]; rfl
          rw [if_pos k2] at es ec
          have O2 := O1.set (j + 1) (X.cl2 ts j + 1)
          rw [List.set_set, ← ec, cset, ec] at O2
          have O2h : Hid (OwnC ((wr.setCell ⟨gz, j + 1, none⟩ (.int .i64 (X.cl2 ts j : Nat))).setCell ⟨gz, j + 1, none⟩ (.int .i64 ((X.cl2 ts j : Int) + 1))) gz (czs ts (j + 1))) := O2
          have B2h : Hid (Below gz w3 ((wr.setCell ⟨gz, j + 1, none⟩ (.int .i64 (X.cl2 ts j : Nat))).setCell ⟨gz, j + 1, none⟩ (.int .i64 ((X.cl2 ts j : Int) + 1)))) := B1.setCell (Nat.le_refl _) _
          have cb := nbj.2
          clear O1 O2 B1 cset ec t0 t1 t2 t3 nbj k2
          replace es := hide es
          generalize X.cl2 ts j = cj at *
          go_wp2_with fail
          go_roundw
          case rel => exact ⟨j + 1, by rw [es.out]; rfl, by go_num, by omega, O2h, B2h⟩
          case measure => simp [intOf]; omega
        · rw [if_neg k2] at es ec
          have O1h : Hid (OwnC (wr.setCell ⟨gz, j + 1, none⟩ (.int .i64 (X.cl2 ts j : Nat))) gz (czs ts (j + 1))) := by
            rw [ec, Nat.add_zero] at cset
            show OwnC _ _ _
            rw [← cset]
            exact O1
          have hnb : X.nb ts j < ns.length := by rw [T.out.len]; exact X.nb_lt hlt (Nat.le_refl _) k2
          obtain ⟨b', off', rfl, n0, n1, n2, n3, n4⟩ := (N3.out.below (by rw [hgz]; exact B1)).at_ hnb
          have njl : (X.nb ts j : Int) < (ns.length : Int) := by omega
          have njd : decide ((ns.length : Int) ≤ (X.nb ts j : Int)) = false := by simp; omega
          have k2' : ¬ ((ts.getD j tk0).kind : Int) = 2 := fun c => k2 (by show (ts.getD j tk0).kind = 2; omega)
          have B1h := hide B1
          have cb := nbj.2
          by_cases k1 : (ts.getD j X.t0).kind = 1
          · obtain ⟨c, jc, cl, ck, cbal, en⟩ := T.out.list j hlt k1
            rw [en] at n0 n1 n2 n3 n4
            simp only at n0 n1 n2 n3 n4
            have t0' : (wr.setCell ⟨gz, j + 1, none⟩ (.int .i64 (X.cl2 ts j : Nat))).cell? ⟨b, off + j * 4, none⟩ = some (.int .i64 1) := by rw [t0, show (ts.getD j tk0).kind = 1 from k1]; rfl
            have t1' : (wr.setCell ⟨gz, j + 1, none⟩ (.int .i64 (X.cl2 ts j : Nat))).cell? ⟨b, off + j * 4 + 1, none⟩ = some (.int .i64 ((ts.getD j X.t0).beg : Int)) := t1
            replace n0 : (wr.setCell ⟨gz, j + 1, none⟩ (.int .i64 (X.cl2 ts j : Nat))).cell? ⟨b', off' + X.nb ts j * 5, none⟩ = some (.int .i64 1) := n0
            have Q : Hid (∀ m m', OwnC (((wr.setCell ⟨gz, j + 1, none⟩ (.int .i64 (X.cl2 ts j : Nat))).drewN m).drewN m') gz (czs ts (j + 1)) ∧ Below gz w3 (((wr.setCell ⟨gz, j + 1, none⟩ (.int .i64 (X.cl2 ts j : Nat))).drewN m).drewN m')) := fun m m' => ⟨O1h.out, below_drewN (below_drewN B1 _) _⟩
            clear t0 t1 t2 t3 n2 n3 n4 en cbal ck jc cl O1 B1 cset ec k2' O1h B1h
            generalize (ts.getD j X.t0).beg = bg at *
            replace es := hide es
            generalize X.cl2 ts j = cj at *
            have nb2 := nbj.1
            clear nbj
            generalize X.nb ts j = nj at *
            go_wp2_with fail
            go_quiet (fail)
            replace t0' : ((wr.setCell ⟨gz, j + 1, none⟩ (.int .i64 (cj : Nat))).drewN nq).cell? ⟨b, off + j * 4, none⟩ = some (.int .i64 1) := t0'
            replace Q := hide (Q.out nq)
            generalize (wr.setCell ⟨gz, j + 1, none⟩ (.int .i64 (cj : Nat))).drewN nq = wd at *
            clear zc zc1 zf zcn zcn1 zfn n0 n1 t1'
            go_wp2_with fail
            go_quiet (fail)
            go_wp2_with fail
            go_roundw
            case rel => exact ⟨j + 1, by rw [es.out]; go_num, by go_num, by omega, (Q.out nq).1, (Q.out nq).2⟩
            case measure => simp [intOf]; omega
          · have ea := T.out.atom j hlt k2 k1
            rw [ea] at n0 n1 n2 n3 n4
            have k1' : ¬ ((ts.getD j tk0).kind : Int) = 1 := fun c => k1 (by show (ts.getD j tk0).kind = 1; omega)
            have k1d : (((ts.getD j tk0).kind : Int) != 1) = true := by simpa using k1'
            replace n0 : (wr.setCell ⟨gz, j + 1, none⟩ (.int .i64 (X.cl2 ts j : Nat))).cell? ⟨b', off' + X.nb ts j * 5, none⟩ = some (.int .i64 ((ts.getD j tk0).kind : Int)) := n0
            replace n1 : (wr.setCell ⟨gz, j + 1, none⟩ (.int .i64 (X.cl2 ts j : Nat))).cell? ⟨b', off' + X.nb ts j * 5 + 1, none⟩ = some (.int .i64 ((ts.getD j tk0).beg : Int)) := n1
            replace n2 : (wr.setCell ⟨gz, j + 1, none⟩ (.int .i64 (X.cl2 ts j : Nat))).cell? ⟨b', off' + X.nb ts j * 5 + 2, none⟩ = some (.int .i64 ((ts.getD j tk0).fin : Int)) := n2
            replace n3 : (wr.setCell ⟨gz, j + 1, none⟩ (.int .i64 (X.cl2 ts j : Nat))).cell? ⟨b', off' + X.nb ts j * 5 + 3, none⟩ = some (.int .i64 1) := n3
            replace n4 : (wr.setCell ⟨gz, j + 1, none⟩ (.int .i64 (X.cl2 ts j : Nat))).cell? ⟨b', off' + X.nb ts j * 5 + 4, none⟩ = some (.string ⟨(ts.getD j tk0).text.toArray⟩) := n4
            have Q : Hid (∀ m m', OwnC (((wr.setCell ⟨gz, j + 1, none⟩ (.int .i64 (X.cl2 ts j : Nat))).drewN m).drewN m') gz (czs ts (j + 1)) ∧ Below gz w3 (((wr.setCell ⟨gz, j + 1, none⟩ (.int .i64 (X.cl2 ts j : Nat))).drewN m).drewN m')) := fun m m' => ⟨O1h.out, below_drewN (below_drewN B1 _) _⟩
            clear ea O1 B1 cset ec O1h B1h k1 k2
            generalize (ts.getD j tk0).kind = kd at *
            generalize (ts.getD j tk0).beg = bg at *
            generalize (ts.getD j tk0).fin = fn at *
            generalize (ts.getD j tk0).text.toArray = tx at *
            replace es := hide es
            generalize X.cl2 ts j = cj at *
            have nb2 := nbj.1
            clear nbj
            generalize X.nb ts j = nj at *
            go_wp2_with fail
            go_quiet (fail)
            replace t0 : ((wr.setCell ⟨gz, j + 1, none⟩ (.int .i64 (cj : Nat))).drewN nq).cell? ⟨b, off + j * 4, none⟩ = some (.int .i64 (kd : Int)) := t0
            replace t2 : ((wr.setCell ⟨gz, j + 1, none⟩ (.int .i64 (cj : Nat))).drewN nq).cell? ⟨b, off + j * 4 + 2, none⟩ = some (.int .i64 (fn : Int)) := t2
            replace t3 : ((wr.setCell ⟨gz, j + 1, none⟩ (.int .i64 (cj : Nat))).drewN nq).cell? ⟨b, off + j * 4 + 3, none⟩ = some (.string ⟨tx⟩) := t3
            replace n2 : ((wr.setCell ⟨gz, j + 1, none⟩ (.int .i64 (cj : Nat))).drewN nq).cell? ⟨b', off' + nj * 5 + 2, none⟩ = some (.int .i64 (fn : Int)) := n2
            replace n3 : ((wr.setCell ⟨gz, j + 1, none⟩ (.int .i64 (cj : Nat))).drewN nq).cell? ⟨b', off' + nj * 5 + 3, none⟩ = some (.int .i64 1) := n3
            replace n4 : ((wr.setCell ⟨gz, j + 1, none⟩ (.int .i64 (cj : Nat))).drewN nq).cell? ⟨b', off' + nj * 5 + 4, none⟩ = some (.string ⟨tx⟩) := n4
            replace Q := hide (Q.out nq)
            generalize (wr.setCell ⟨gz, j + 1, none⟩ (.int .i64 (cj : Nat))).drewN nq = wd at *
            clear zc zc1 zf zcn zcn1 zfn n0 n1 t1
            go_wp2_with fail
            go_quiet (fail)
            go_wp2_with fail
            go_roundw
            case rel => exact ⟨j + 1, by rw [es.out]; go_num, by go_num, by omega, (Q.out nq).1, (Q.out nq).2⟩
            case measure => simp [intOf]; omega
      · obtain rfl : j = ts.length := by omega
        have T4 := hide (show TRow wr (.slice a ts.length cap) ts from T3.out.below (by rw [hgz]; exact BB.out))
        have N4 := hide (show NRow wr (.slice a' ns.length cap') ns from N3.out.below (by rw [hgz]; exact BB.out))
        have C4 : Hid (CRow wr (.slice (some ⟨gz, 0, none⟩) (ts.length + 1) (ts.length + 1)) ts) := ⟨gz, _, rfl, OO.out.lt, fun j hj => by
          have := OO.out.cell (czs_at ts ts.length j hj)
          rw [if_pos hj] at this
          exact this⟩
        have hac := atoms_count T.out (Nat.le_refl ts.length)
        have hev := T.out.even
        have hnc := X.nb_cl2 (l := ts) (Nat.le_refl ts.length)
        have hln := T.out.len
        have qa := hide (atoms_calls wr _ ns N4.out (by omega))
        have qe := hide (fun W (b : Below wr.heap.size wr W) => ends_calls W _ _ _ ts ns (T4.out.below b) (N4.out.below b) (C4.out.below b) T.out)
        have hA : atomsTo ns ns.length = atomsOf ns := by unfold atomsTo atomsOf; rw [List.take_length]
        rw [← hln] at hac hnc
        rw [hA] at hac
        have hsum : (2 : Int) * (ns.length : Int) - (atomsOf ns : Int) = (ts.length : Int) := by omega
        have hAl : atomsOf ns ≤ ns.length := by omega
        rw [← hln]
        have BF := hide (fun W (b : Below wr.heap.size wr W) => b3.out.then_below ((BB.out.mono (by rw [hgz]; exact Nat.le_refl _)).then_below b))
        have BR : Hid (Below wr.heap.size wr wr) := Below.refl _ _
        clear hlt hj hac hev hnc hln hA OO BB T4 N4 C4 T T3 N3 b3
        generalize atomsOf ns = A at *
        go_wp2_with (first
          | (go_at_call 18; refine qa.out.mono ?_; rintro x w5 ⟨rfl, hq5⟩; have hq5 := hq5.symm; subst hq5)
          | (go_at_call 19; refine (qe.out _ BR.out).mono ?_; rintro x w6 ⟨rfl, b6⟩; replace b6 := hide b6))
        go_ret
        exact ⟨rfl, BF.out _ b6.out⟩
end Go.Proofs.YtmpjlnjnilldnaaDoor
