/-
  The document's side of sexp: closing.
-/
import Derived.Test.YtlcgajcceapioaaDoorSexpRead
namespace Go.Proofs.YtlcgajcceapioaaDoor
open Go.RowKit
set_option linter.unusedVariables false
/-- A list of numbers of one's own. -/
def OwnI (B : Nat) (w : World) (v : Value) (xs : List Int) : Prop := w.ownsRow B 3 1 v xs.length (xs.map (Value.int .i64))
theorem OwnI.at_ {B : Nat} {w : World} {v : Value} {xs : List Int} (h : OwnI B w v xs) {j : Nat} (hj : j < xs.length) :
    ∃ g cap, v = .slice (some ⟨g, 0, none⟩) xs.length cap ∧ xs.length ≤ cap ∧ cap ≤ 9223372036854775807 ∧ B ≤ g ∧ g < w.heap.size ∧ (∀ k, w.frozen? ⟨g, k, none⟩ = false) ∧
      (∀ k, k < xs.length → w.cell? ⟨g, k, none⟩ = some (.int .i64 (xs.getD k 0))) ∧
      (∀ (k : Nat) (x : Int), OwnI B (w.setCell ⟨g, k, none⟩ (.int .i64 x)) v (xs.set k x)) := by
  have h' := h
  obtain ⟨h1, h2⟩ := h
  rcases h2 with ⟨_, h0⟩ | ⟨g, cap, cur, rfl, hB, hb, hn, hm, hs, ht⟩
  · omega
  · have hc := h'.cells (g := g) rfl
    refine ⟨g, cap, rfl, hn, by unfold maxLen at hm; omega, hB, (Array.getElem?_eq_some_iff.1 hb).1, fun k => frozen_of_row w g k cur _ hb, ?_, ?_⟩
    · intro k hk
      have := hc k (.int .i64 (xs.getD k 0)) (by rw [List.getElem?_map, List.getD_eq_getElem?_getD, List.getElem?_eq_getElem hk]; rfl)
      rwa [add_zero'] at this
    · intro k x
      have b1 := heap_setCell_same w g k cur _ (.int .i64 x) hb
      refine ⟨by simp, .inr ⟨g, cap, _, by simp, hB, b1, by simpa using hn, hm, by simpa using hs, ?_⟩⟩
      rw [List.length_set, Array.toList_setIfInBounds, List.take_set, ht, List.map_set]
theorem OwnK.mono_ {B : Nat} {w : World} {v : Value} {st : List Nat} (h : OwnK B w v st) : ∀ g, v.ownBlock = some g → B ≤ g := fun g hg => (h.lt g hg).1
/-- 'make([]int, n)'. -/
theorem wpList_make_ints {P : Program} (w : World) {ops : Array Oper} {rest : List Oper} {o : Oper} {a : Act} {Q : Exit → Act → World → Prop}
    (hg : o.guard = none) (l c : Operand) (t : TypeId) (hop : o.op = Op.makeSlice t l c) (k : IntKind) (e : TypeId) (bytes : Nat) (h1 : P.underlying t = some (.slice e))
    (h2 : (P.info? e).map (fun i => (i.zero, i.size, i.bytes)) = some (some (.int k 0), 1, bytes))
    (kl kc : IntKind) (L C : Int) (n : Nat) (hl : a.eval l = .int kl L) (hc : a.eval c = .int kc C) (hL : L = (n : Int)) (hC : C = (n : Int)) (hb : bytes ≤ 8) (hn : n ≤ 35184372088832)
    (hK : ∀ w', w'.ownsRow w.heap.size e 1 (.slice (some ⟨w.heap.size, 0, none⟩) n n) n ((List.replicate n (0 : Int)).map (Value.int k)) → w.grownBy w' none → w'.heap.size = w.heap.size + 1 → wpList P ops Q rest (a.put o.dst (.slice (some ⟨w.heap.size, 0, none⟩) n n)) w') :
    wpList P ops Q (o :: rest) a w := by
  obtain ⟨i, hi, hz0, hz1, hz2⟩ := info_parts h2
  refine wpList_plain hg fun K hK' => ?_
  have hbn : i.bytes * n ≤ 8 * 35184372088832 := Nat.mul_le_mul (by omega) hn
  have hrun := run_make (P := P) w t e i (.int k 0) h1 hi hz0 kl kc n n (by omega) (Int.le_refl _) (by
    have : ((i.bytes * n : Nat) : Int) ≤ 281474976710656 := by omega
    simpa using this) (by omega)
  subst hL
  subst hC
  have hcells : (madeCells (Value.int k 0).cells ((n : Int).toNat * i.size)) = ((List.replicate n (0 : Int)).map (Value.int k)).toArray := by
    rw [hz1]
    simp [madeCells, Value.cells]
    apply Array.ext
    · simp
    · intro j h1 h2
      simp [Nat.mod_one]
  rw [hcells] at hrun
  have hk := hK (w.alloc (.cells ((List.replicate n (0 : Int)).map (Value.int k)).toArray e)) ⟨by simp, .inr ⟨w.heap.size, n, _, rfl, Nat.le_refl _, heap_alloc_new w _, Nat.le_refl _, by unfold maxLen; omega, by simp, by simp⟩⟩ (World.grownBy_alloc _ _ _) (by simp)
  unfold Oper.wp
  simp only [Int.toNat_natCast] at hrun
  generalize hcs : ((List.replicate n (0 : Int)).map (Value.int k)).toArray = cs at *
  clear hcs hcells
  simp [execOp, hop, hl, hc, hrun, Result.andThen]
  exact hK' _ _ hk
/-- Where closing is. -/
def ClAt (ts : List S.Tok) (k : Nat) (to : List Int) (op : List Nat) : Prop := X.cl (ts.drop k) k to op = X.cl ts 0 [] [] ∧ to.length = k ∧ op.length ≤ k ∧ ∀ g ∈ op, g < k
theorem set_at (to : List Int) (n k : Nat) (x : Int) (h1 : to.length = k) (h2 : k < n) : (to ++ List.replicate (n - k) 0).set k x = (to ++ [x]) ++ List.replicate (n - (k + 1)) 0 := by
  subst h1
  rw [List.set_append_right _ _ (Nat.le_refl _), Nat.sub_self, show n - to.length = (n - (to.length + 1)) + 1 from by omega, List.replicate_succ]
  simp
theorem set_last (to : List Int) (n k : Nat) (x y : Int) (h1 : to.length = k) : ((to ++ [x]) ++ List.replicate n 0).set k y = (to ++ [y]) ++ List.replicate n 0 := by
  subst h1
  rw [List.append_assoc, List.set_append_right _ _ (Nat.le_refl _), Nat.sub_self]
  simp
theorem set_old (to : List Int) (n g : Nat) (y : Int) (h : g < to.length) : (to ++ List.replicate n 0).set g y = to.set g y ++ List.replicate n 0 := by
  rw [List.set_append_left _ _ h]
theorem one_newS (W : World) (a1 a2 : Addr) (u1 u2 x : Value) : ∀ j u, ([x] : List Value)[j]? = some u → (((W.setCell a1 u1).setCell a2 u2).alloc (.cells #[x] 3)).cell? ((⟨W.heap.size, 0, none⟩ : Addr).add j) = some u := by
  have h := cell_one_new ((W.setCell a1 u1).setCell a2 u2) x 3
  simpa using h
/-- What closing answers. -/
def clV (r : (List Int × List Nat) ⊕ (List Int × Nat)) : List Int × Int := match r with | .inl (to, _) => (to, -1) | .inr (to, b) => (to, b)
set_option maxRecDepth 100000 in
set_option maxHeartbeats 1000000 in
theorem closing_calls (w : World) (v : Value) (ts : List S.Tok) (hv : TRow w v ts) (hn0 : ts.length ≤ 4294967298) (o : List Int × Int) (ho : o = clV (X.cl ts 0 [] [])) :
    Calls Tryd.prog 53 #[v] w fun e w' => ∃ u, e = .returned (.tuple #[u, .int .i64 o.2]) ∧ (∃ m, OwnI w.heap.size w' u (o.1 ++ List.replicate m 0) ∧ o.1.length + m = ts.length) ∧ Below w.heap.size w w' := by
  obtain ⟨i1, hj, hy0, hy1, hy2⟩ := info_parts infoInt
  obtain ⟨n, hn⟩ : ∃ n, ts.length = n := ⟨_, rfl⟩
  obtain ⟨a1, cp1, rfl, n1, n1'⟩ := hv.shape
  have t1 := hide hv
  rw [hn] at n1 hn0 t1 ⊢
  have hnH := hide hn
  have hoH := hide ho
  clear hv hn ho
  have QA : Hid True := trivial
  go_enter Tryd.func53, Tryd.ntmps53
  go_wp2_with (first
    | (at_make; have y := QA; clear y; refine wpList_make_ints _ rfl _ _ 56 rfl .i64 3 8 sliceInt infoInt .i64 .i64 _ _ n rfl rfl rfl rfl (by decide) (by omega) ?_; intro w1 o1 g1 z1; replace o1 := hide o1; replace g1 := hide g1; clear QA)
    | (at_make; refine wpList_make_ints _ rfl _ _ 56 rfl .i64 3 8 sliceInt infoInt .i64 .i64 _ _ 0 rfl rfl rfl rfl (by decide) (by omega) ?_; intro w2 o2 g2 z2; replace o2 := hide o2; replace g2 := hide g2))
  have T2 : OwnI w.heap.size w2 (.slice (some ⟨w.heap.size, 0, none⟩) n n) ([] ++ List.replicate (n - 0) 0) := by
    have := o1.out.kept g2.out (.inr (by simp [Value.ownBlock]))
    unfold OwnI
    simpa using this
  have K2 : OwnK (w.heap.size + 1) w2 (.slice (some ⟨w.heap.size + 1, 0, none⟩) 0 0) [] := by
    have := o2.out
    rw [z1] at this
    unfold OwnK
    simpa using this
  replace T2 := hide T2
  replace K2 := hide K2
  have B2 : Hid (Below w.heap.size w w2) := ((Below.refl _ w).grown g1.out (Nat.le_refl _) (by simp)).grown g2.out (by omega) (by simp)
  have P2 : Hid (ClAt ts 0 [] []) := ⟨rfl, rfl, Nat.le_refl _, fun g hg => by simp at hg⟩
  clear o1 o2 g1 g2
  go_loopw [5, 6] (fun u j wr => ∃ (k : Nat) (to : List Int) (op : List Nat), k ≤ n ∧ j = .int .i64 k ∧ Hid (ClAt ts k to op) ∧ Hid (OwnI w.heap.size wr (.slice (some ⟨w.heap.size, 0, none⟩) n n) (to ++ List.replicate (n - k) 0)) ∧ Hid (OwnK (w.heap.size + 1) wr u op) ∧ Hid (Below w.heap.size w wr)) (fun _ j _ => n - (intOf j).toNat)
  case atStart => exact ⟨0, [], [], Nat.zero_le _, rfl, P2, T2, K2, B2⟩
  case round =>
    clear P2 T2 K2 B2 z1 z2
    obtain ⟨k, to, op, hk, rfl, hP, hT, hK, hB⟩ := hrel
    have hwz : w.heap.size ≤ wr.heap.size := hB.out.size
    obtain ⟨ua, uc, hu⟩ := own_shape (ownsRow_zero hK.out)
    subst hu
    by_cases hlt : k < n
    · have hkl : k < ts.length := by rw [hnH.out]; exact hlt
      have hTl : (to ++ List.replicate (n - k) 0).length = n := by have := hP.out.2.1; simp; omega
      obtain ⟨G, cp, eG, _, _, _, hGl, fz, hcell, hset⟩ := hT.out.at_ (j := k) (by omega)
      rw [hTl] at eG hcell
      cases eG
      obtain ⟨b, off, rfl, x0, x1, x2, x3⟩ := (t1.out.below hB.out).at_ hkl
      obtain ⟨b', off', eb, y0, _, _, _⟩ := t1.out.at_ hkl
      cases eb
      have hbG : b < w.heap.size := World.block_lt_of_cell? w _ y0
      have hb1 : ¬ b = w.heap.size := by omega
      have hb2 : ¬ w.heap.size = b := by omega
      have ed := tok_split ts k hkl
      have hP1 := hP.out.1
      rw [ed] at hP1
      generalize ts.getD k tk0 = t at x0 x1 x2 x3 hP1
      obtain ⟨tk, tb, tf, tx⟩ := t
      simp only at x0 x1 x2 x3
      have ik : (k : Int) < n := by omega
      clear ed y0 x1 x2 x3
      generalize hR : X.cl ts 0 [] [] = R at hP1
      unfold X.cl at hP1
      simp only at hP1
      subst hR
      have ck := hcell k hlt
      have fk := fz k
      obtain ⟨M, hM⟩ : ∃ M, op.length = M := ⟨_, rfl⟩
      have hMk : M ≤ k := by rw [← hM]; exact hP.out.2.2.1
      have hK2 := hK.out
      unfold OwnK at hK2
      rw [hM] at hK2 hK ⊢
      replace hK2 := hide hK2
      have hMh := hide hM
      clear hM
      have hap : (Value.slice ua M uc).ownBlock ≠ some w.heap.size := fun e => by have := (hK2.out.lt _ e).1; omega
      have hapH := hide hap
      have hTk := hP.out.2.1
      clear hap
      by_cases h1 : tk = 1
      · subst h1
        rw [if_pos rfl] at hP1
        have hP2 : Hid (ClAt ts (k + 1) (to ++ [-1]) (k :: op)) := by
          have hMe := hMh.out
          refine ⟨hP1, by simp; omega, by simp; omega, ?_⟩
          intro g hg
          rcases List.mem_cons.1 hg with rfl | hg
          · omega
          · have := hP.out.2.2.2 g hg
            omega
        have hT2 : Hid (OwnI w.heap.size ((wr.setCell ⟨w.heap.size, k, none⟩ (.int .i64 (k : Int))).setCell ⟨w.heap.size, k, none⟩ (.int .i64 (-1))) (.slice (some ⟨w.heap.size, 0, none⟩) n n) ((to ++ [-1]) ++ List.replicate (n - (k + 1)) 0)) := by
          have s1 := hset k k
          rw [set_at to n k k hTk hlt] at s1
          obtain ⟨G2, cp2, eG2, _, _, _, _, _, _, hset2⟩ := s1.at_ (j := k) (by simp; omega)
          simp only [Value.slice.injEq, Option.some.injEq, Addr.mk.injEq] at eG2
          have s2 := hset2 k (-1)
          rw [set_last to _ k k (-1) hTk, ← eG2.1.1] at s2
          exact s2
        have hB2 : Hid (Below w.heap.size w ((wr.setCell ⟨w.heap.size, k, none⟩ (.int .i64 (k : Int))).setCell ⟨w.heap.size, k, none⟩ (.int .i64 (-1)))) := (hB.out.setCell (Nat.le_refl _) _).setCell (Nat.le_refl _) _
        have hK3 : Hid (((wr.setCell ⟨w.heap.size, k, none⟩ (.int .i64 (k : Int))).setCell ⟨w.heap.size, k, none⟩ (.int .i64 (-1))).ownsRow (w.heap.size + 1) 3 1 (.slice ua M uc) M (op.reverse.map fun n : Nat => .int .i64 (n : Int))) := World.ownsRow.kept (World.ownsRow.kept hK2.out (set_grown _ _ _ _) (.inr hapH.out)) (set_grown _ _ _ _) (.inr hapH.out)
        clear hP1 hP hset hcell fz
        go_wp2_with (at_builtin; (refine wpList_append_own _ rfl _ _ 56 rfl (w.heap.size + 1) 3 i1 (.int .i64 0) 1 8 sliceInt hj hy0 hy1 hy2 rfl (by decide) _ M _ rfl (hK3.out.alloc _) ⟨wr.heap.size, 0, none⟩ 1 1 [.int .i64 (k : Int)] rfl rfl (one_newS _ _ _ _ _ _) (by simp [Value.oneCell']) (by unfold maxLen; omega) (by omega) (by simp; omega) ?_; intro u3 w3 o3 g3 _; have b3 := (hB2.out.alloc hB2.out.size _).grown g3 (by simp; omega) (fun g hg => by have := (hK2.out.lt g hg).1; omega); have x5 := (b3.cell (p := ⟨b, off + k * 4, none⟩) hbG).trans ((hB.out.cell (p := ⟨b, off + k * 4, none⟩) hbG).symm.trans x0); replace b3 := hide b3; replace o3 := hide o3; replace g3 := hide g3))
        refine ⟨⟨k + 1, _, _, by omega, by go_num, hP2, World.ownsRow.kept (World.ownsRow.alloc hT2.out _) g3.out (.inr ?_), OwnK.push hMh.out o3.out, b3.out⟩, by simp [intOf]; omega⟩
        intro e
        exact hapH.out e.symm
      · by_cases h2 : tk = 2
        · subst h2
          rw [if_neg (by decide), if_pos rfl] at hP1
          cases op with
          | nil =>
            have hM0 : M = 0 := by have := hMh.out; simpa using this.symm
            subst hM0
            have out : Hid (o = (to ++ [(k : Int)], (k : Int))) := by
              have h1 := hoH.out
              rw [← hP1] at h1
              exact h1
            have s1 : Hid (OwnI w.heap.size (wr.setCell ⟨w.heap.size, k, none⟩ (.int .i64 (k : Int))) (.slice (some ⟨w.heap.size, 0, none⟩) n n) ((to ++ [(k : Int)]) ++ List.replicate (n - (k + 1)) 0)) := by
              have s1 := hset k k
              rw [set_at to n k k hTk hlt] at s1
              exact s1
            clear hP1 hP hset hcell fz
            go_wp2
            refine bodyPost_ret (v := .tuple #[.slice (some ⟨w.heap.size, 0, none⟩) n n, .int .i64 (k : Int)]) (by simp [results, Tryd.results53, go_sem]) rfl ?_
            exact ⟨_, by rw [out.out], ⟨n - (k + 1), by rw [out.out]; exact s1.out, by rw [out.out]; simp; omega⟩, hB.out.setCell (Nat.le_refl _) _⟩
          | cons g op' =>
            simp only at hP1
            have hgk := hP.out.2.2.2 g List.mem_cons_self
            obtain ⟨gk, kc, ek, q1, q2, q3, q4, ctop, kpop, clast⟩ := hK.out.top
            obtain ⟨Q, hQ⟩ : ∃ Q, op'.length = Q := ⟨_, rfl⟩
            rw [hQ] at ek q1 ctop kpop
            cases ek
            have hP2 : Hid (ClAt ts (k + 1) ((to ++ [(k : Int)]).set g k) op') := by
              have hPo := hP.out
              have hMe := hMh.out
              refine ⟨hP1, by simp; omega, by omega, ?_⟩
              intro g' hg'
              have := hPo.2.2.2 g' (List.mem_cons_of_mem _ hg')
              omega
            have gkn : ¬ gk = w.heap.size := by omega
            have gkn2 : ¬ w.heap.size = gk := by omega
            have s1 := hset k k
            rw [set_at to n k k hTk hlt] at s1
            obtain ⟨G2, cp2, eG2, _, _, _, _, fz2, hcell2, hset2⟩ := s1.at_ (j := k) (by simp; omega)
            simp only [Value.slice.injEq, Option.some.injEq, Addr.mk.injEq] at eG2
            have s2 := hset2 g k
            have cg := hcell2 g (by simp; omega)
            have fg := fz2 g
            rw [← eG2.1.1] at s2 cg fg
            rw [set_old (to ++ [(k : Int)]) _ g k (by simp; omega)] at s2
            replace s2 := hide s2
            have cgw := hcell g (by omega)
            have fgw := fz g
            have hB2 : Hid (Below w.heap.size w ((wr.setCell ⟨w.heap.size, k, none⟩ (.int .i64 (k : Int))).setCell ⟨w.heap.size, g, none⟩ (.int .i64 (k : Int)))) := (hB.out.setCell (Nat.le_refl _) _).setCell (Nat.le_refl _) _
            have hap2 : (Value.slice (some ⟨gk, 0, none⟩) Q uc).ownBlock ≠ some w.heap.size := by simp [Value.ownBlock]; omega
            have hK3 : Hid (OwnK (w.heap.size + 1) ((wr.setCell ⟨w.heap.size, k, none⟩ (.int .i64 (k : Int))).setCell ⟨w.heap.size, g, none⟩ (.int .i64 (k : Int))) (.slice (some ⟨gk, 0, none⟩) Q uc) op') := World.ownsRow.kept (World.ownsRow.kept kpop (set_grown _ _ _ _) (.inr hap2)) (set_grown _ _ _ _) (.inr hap2)
            have gi : (g : Int) < n := by omega
            clear hP1 hP hset hcell fz s1 hset2 hcell2 fz2 eG2 hap2 kpop clast
            go_wp2
            refine ⟨⟨k + 1, _, _, by omega, by go_num, hP2, s2.out, hK3.out, hB2.out⟩, by simp [intOf]; omega⟩
        · rw [if_neg h1, if_neg h2] at hP1
          have hP2 : Hid (ClAt ts (k + 1) (to ++ [(k : Int)]) op) := by
            have hPo := hP.out
            have hMe := hMh.out
            refine ⟨hP1, by simp; omega, by omega, ?_⟩
            intro g' hg'
            have := hPo.2.2.2 g' hg'
            omega
          have s1 : Hid (OwnI w.heap.size (wr.setCell ⟨w.heap.size, k, none⟩ (.int .i64 (k : Int))) (.slice (some ⟨w.heap.size, 0, none⟩) n n) ((to ++ [(k : Int)]) ++ List.replicate (n - (k + 1)) 0)) := by
            have s1 := hset k k
            rw [set_at to n k k hTk hlt] at s1
            exact s1
          have k1 : ¬ (tk : Int) = 1 := by omega
          have k2 : ¬ (tk : Int) = 2 := by omega
          clear hP1 hP hset hcell fz h1 h2
          go_wp2
          refine ⟨⟨k + 1, _, _, by omega, by go_num, hP2, s1.out, World.ownsRow.kept hK.out (set_grown _ _ _ _) (.inr hapH.out), hB.out.setCell (Nat.le_refl _) _⟩, by simp [intOf]; omega⟩
    · have ik : ¬ (k : Int) < n := by omega
      have hkn : k = n := by omega
      have hP1 := hP.out.1
      rw [List.drop_eq_nil_of_le (by rw [hnH.out]; omega)] at hP1
      generalize hR : X.cl ts 0 [] [] = R at hP1
      unfold X.cl at hP1
      subst hP1
      have out : Hid (o = (to, -1)) := by
        have h1 := hoH.out
        rw [hR] at h1
        exact h1
      clear hR
      go_wp2
      refine bodyPost_ret (v := .tuple #[.slice (some ⟨w.heap.size, 0, none⟩) n n, .int .i64 (-1)]) (by simp [results, Tryd.results53, go_sem]) rfl ?_
      exact ⟨_, by rw [out.out], ⟨n - k, by rw [out.out]; exact hT.out, by rw [out.out]; have := hP.out.2.1; have := hnH.out; simp only; omega⟩, hB.out⟩
end Go.Proofs.YtlcgajcceapioaaDoor
