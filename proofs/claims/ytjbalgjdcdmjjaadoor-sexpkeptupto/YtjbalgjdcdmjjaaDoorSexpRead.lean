/-
  sexp.Read, walked to the plain machine.
-/
import Derived.Test.YtjbalgjdcdmjjaaDoorSexpMem
namespace Go.Proofs.YtjbalgjdcdmjjaaDoor
open Go.RowKit
set_option linter.unusedVariables false
/-- The slice value v holds the nodes ns. -/
def NRow (w : World) (v : Value) (ns : List X.N) : Prop :=
  ∃ a cap, v = .slice a ns.length cap ∧ ns.length ≤ cap ∧ cap ≤ 9223372036854775807 ∧
    (ns ≠ [] → ∃ b off, a = some ⟨b, off, none⟩ ∧ ∀ j, j < ns.length →
      w.cell? ⟨b, off + j * 5, none⟩ = some (.int .i64 (ns.getD j X.n0).kind) ∧
      w.cell? ⟨b, off + j * 5 + 1, none⟩ = some (.int .i64 (ns.getD j X.n0).beg) ∧
      w.cell? ⟨b, off + j * 5 + 2, none⟩ = some (.int .i64 (ns.getD j X.n0).fin) ∧
      w.cell? ⟨b, off + j * 5 + 3, none⟩ = some (.int .i64 (ns.getD j X.n0).size) ∧
      w.cell? ⟨b, off + j * 5 + 4, none⟩ = some (.string ⟨(ns.getD j X.n0).text.toArray⟩))
theorem NRow.below {w w' : World} {v : Value} {ns : List X.N} (h : NRow w v ns) (q : Below w.heap.size w w') : NRow w' v ns := by
  obtain ⟨a, cap, rfl, h1, h2, h4⟩ := h
  refine ⟨a, cap, rfl, h1, h2, fun hne => ?_⟩
  obtain ⟨g, off, rfl, hc⟩ := h4 hne
  refine ⟨g, off, rfl, fun j hj => ?_⟩
  obtain ⟨c0, c1, c2, c3, c4⟩ := hc j hj
  have hg : g < w.heap.size := World.block_lt_of_cell? w _ c0
  exact ⟨(q.cell (p := ⟨g, _, none⟩) hg).trans c0, (q.cell (p := ⟨g, _, none⟩) hg).trans c1, (q.cell (p := ⟨g, _, none⟩) hg).trans c2, (q.cell (p := ⟨g, _, none⟩) hg).trans c3, (q.cell (p := ⟨g, _, none⟩) hg).trans c4⟩
theorem OwnN.row {B : Nat} {w : World} {v : Value} {ns : List X.N} (h : OwnN B w v ns) : NRow w v ns := by
  have h' := h
  rcases h.2 with ⟨rfl, h0⟩ | ⟨b, cap, cur, rfl, hB, hb, h3, h4, h5, h6⟩
  · exact ⟨none, 0, by rw [h0], by omega, by decide, fun hne => absurd (List.length_eq_zero_iff.1 h0) hne⟩
  · refine ⟨some ⟨b, 0, none⟩, cap, rfl, h3, by unfold maxLen at h4; omega, fun _ => ⟨b, 0, rfl, fun j hj => ?_⟩⟩
    obtain ⟨g, cap', e, _, _, _, _, _, c0, c1, c2, c3, c4, _⟩ := h'.at_ hj
    cases e
    rw [Nat.zero_add]
    exact ⟨c0, c1, c2, c3, c4⟩
/-- The front of such a list. -/
theorem NRow.front {w : World} {g n cap : Nat} {ns : List X.N} (h : NRow w (.slice (some ⟨g, 0, none⟩) n cap) ns) (k : Nat) (hk : k ≤ ns.length) : NRow w (.slice (some ⟨g, 0, none⟩) k k) (ns.take k) := by
  obtain ⟨a, cap', e, h1, h2, h4⟩ := h
  cases e
  have hl : (ns.take k).length = k := by rw [List.length_take, Nat.min_eq_left hk]
  refine ⟨some ⟨g, 0, none⟩, k, by rw [hl], by omega, by omega, fun hne => ?_⟩
  obtain ⟨b, off, e, hc⟩ := h4 (by rintro rfl; simp at hne)
  refine ⟨b, off, e, fun j hj => ?_⟩
  rw [hl] at hj
  have e2 : (ns.take k).getD j X.n0 = ns.getD j X.n0 := by
    rw [List.getD_eq_getElem?_getD, List.getD_eq_getElem?_getD, List.getElem?_take_of_lt hj]
  rw [e2]
  exact hc j (by omega)
theorem five_new (w : World) (a b c d e : Value) (T : TypeId) : ∀ j u, ([a, b, c, d, e] : List Value)[j]? = some u → (w.alloc (.cells #[a, b, c, d, e] T)).cell? ((⟨w.heap.size, 0, none⟩ : Addr).add j) = some u := by
  intro j u hu
  rw [add_zero', cell_of_row _ _ j _ _ (0, 0) (heap_alloc_new w (.cells #[a, b, c, d, e] T))]
  simpa using hu
theorem five_new' (w : World) (o : Obj) (a b c d e : Value) : ∀ j u, ([a, b, c, d, e] : List Value)[j]? = some u → ((w.alloc o).alloc (.cells #[a, b, c, d, e] 47)).cell? ((⟨w.heap.size + 1, 0, none⟩ : Addr).add j) = some u := by
  have h := five_new (w.alloc o) a b c d e 47
  simpa using h
theorem one_new' (w : World) (o : Obj) (a : Value) : ∀ j u, ([a] : List Value)[j]? = some u → ((w.alloc o).alloc (.cells #[a] 3)).cell? ((⟨w.heap.size + 1, 0, none⟩ : Addr).add j) = some u := by
  have h := cell_one_new (w.alloc o) a 3
  simpa using h
theorem grown_first {B : Nat} {W W1 : World} {e : TypeId} {size : Nat} {v : Value} {n : Nat} {xs : List Value} (o : W.ownsRow B e size v n xs) (cs : Array Value) (T : TypeId) (o2 : Obj) (g : ((W.alloc (.cells cs T)).alloc o2).grownBy W1 v.ownBlock) : W1.heap[W.heap.size]? = some (.cells cs T (0, 0)) := by
  refine (g.block W.heap.size (by simp; omega) (fun h => ?_)).trans ?_
  · have := (o.lt _ h.symm).2
    omega
  · rw [heap_alloc_old _ _ (by simp)]
    exact heap_alloc_new W _
theorem own_apart' {B B' : Nat} {w : World} {v u : Value} {ns : List X.N} {st : List Nat} (h : OwnN B w v ns) (k : OwnK B' w u st) : u.ownBlock = none ∨ u.ownBlock ≠ v.ownBlock := by
  rcases k.2 with ⟨rfl, _⟩ | ⟨g, cap, cur, rfl, _, hb, _⟩
  · exact .inl rfl
  · right
    rcases h.2 with ⟨rfl, _⟩ | ⟨g', cap', cur', rfl, _, hb', _⟩
    · simp [Value.ownBlock]
    · intro e
      simp [Value.ownBlock] at e
      subst e
      have := hb.symm.trans hb'
      simp at this
theorem set_grown (w : World) (g j : Nat) (u : Value) : w.grownBy (w.setCell ⟨g, j, none⟩ u) (some g) :=
  ⟨rfl, rfl, rfl, by simp [World.setCell], fun k hk hne => heap_setCell_other w _ k u (fun e => hne (by rw [e]))⟩
theorem tok_split (l : List S.Tok) (k : Nat) (h : k < l.length) : l.drop k = l.getD k tk0 :: l.drop (k + 1) := X.drop_tok l k h
/-- Where the machine is. -/
def PrAt (ts : List S.Tok) (k : Nat) (ns : List X.N) (st : List Nat) : Prop := X.pr (ts.drop k) ns st = X.pr ts [] [] ∧ ns.length ≤ k ∧ st.length ≤ k ∧ ∀ g ∈ st, g < ns.length
set_option maxRecDepth 100000 in
set_option maxHeartbeats 1000000 in
theorem sexpRead_calls (w : World) (hc : Cls w) (s : ByteArray) (l : List UInt8) (hs : s.data.toList = l) (hl : l.length ≤ 1073741824) (o : List X.N × Nat × Nat) (ho : o = X.out (S.run resv .idle l 0).1 (S.run resv .idle l 0).2.1 (S.run resv .idle l 0).2.2) :
    Calls Tryd.prog 15 #[.string s] w fun e w' => ∃ v, e = .returned (.tuple #[v, .int .i64 o.2.1, .int .i64 o.2.2]) ∧ NRow w' v o.1 ∧ Below w.heap.size w w' := by
  obtain ⟨i0, hi, hz0, hz1, hz2⟩ := info_parts infoNode
  obtain ⟨i1, hj, hy0, hy1, hy2⟩ := info_parts infoInt
  have q0 := hide (tokens_calls w hc s l hs (by omega))
  have hm := run_many l
  obtain ⟨O, hO⟩ : ∃ O, S.run resv .idle l 0 = O := ⟨_, rfl⟩
  rw [hO] at q0 hm ho
  obtain ⟨ts, e, p⟩ := O
  simp only at q0 hm ho
  obtain ⟨n, hn⟩ : ∃ n, ts.length = n := ⟨_, rfl⟩
  rw [hn] at hm
  have hn1 : n ≤ 4294967298 := by omega
  have hnH := hide hn
  have hoH := hide ho
  clear hc hs hl hO hm hn ho
  go_enter Tryd.func15, Tryd.ntmps15
  go_wp2_with (first
    | (go_at_call 38; refine q0.out.mono ?_; rintro x w1 ⟨v1, rfl, u1, b1⟩; have t1 := hide (ownsRow.trow u1); obtain ⟨a1, cp1, rfl, n1, n1'⟩ := t1.out.shape; simp only [hnH.out] at n1 t1; rw [hnH.out]; replace b1 := hide b1; clear u1 q0)
    | (at_make; refine wpList_make_own _ rfl _ _ 43 rfl w1.heap.size 47 i0 _ 5 sliceNode hi hz0 hz1 .i64 .i64 _ n rfl rfl rfl (by rw [hz2]; omega) (by unfold maxLen; omega) (Nat.le_refl _) ?_; intro w2 hown0 hgrow0; have B2 : Hid (Below w1.heap.size w1 w2) := (Below.refl _ w1).grown hgrow0 (Nat.le_refl _) (by simp); have O2 : Hid (OwnN w1.heap.size w2 _ []) := hown0; clear hown0 hgrow0))
  have K2 : Hid (OwnK w1.heap.size w2 (.slice none 0 0) []) := World.ownsRow_nil _ _ _ _
  have P2 : Hid (PrAt ts 0 [] []) := ⟨rfl, Nat.le_refl _, Nat.le_refl _, fun g hg => by simp at hg⟩
  go_loopw [8, 9, 25] (fun v u j wr => ∃ (k : Nat) (ns : List X.N) (st : List Nat), k ≤ n ∧ j = .int .i64 k ∧ Hid (PrAt ts k ns st) ∧ Hid (OwnN w1.heap.size wr v ns) ∧ Hid (OwnK w1.heap.size wr u st) ∧ Hid (Below w1.heap.size w1 wr)) (fun _ _ j _ => n - (intOf j).toNat)
  case atStart => exact ⟨0, [], [], Nat.zero_le _, rfl, P2, O2, K2, B2⟩
  case round =>
    clear P2 O2 K2 B2
    obtain ⟨k, ns, st, hk, rfl, hP, hN, hK, hB⟩ := hrel
    have hwz : w1.heap.size ≤ wr.heap.size := hB.out.size
    obtain ⟨va, vc, hv⟩ := own_shape (ownsRow_zero hN.out)
    subst hv
    obtain ⟨ua, uc, hu⟩ := own_shape (ownsRow_zero hK.out)
    subst hu
    obtain ⟨L, hL⟩ : ∃ L, ns.length = L := ⟨_, rfl⟩
    obtain ⟨M, hM⟩ : ∃ M, st.length = M := ⟨_, rfl⟩
    have hLk : L ≤ k := by rw [← hL]; exact hP.out.2.1
    have hMk : M ≤ k := by rw [← hM]; exact hP.out.2.2.1
    have hN2 := hN.out
    unfold OwnN at hN2
    rw [hL] at hN2 hN ⊢
    replace hN2 := hide hN2
    have hK2 := hK.out
    unfold OwnK at hK2
    rw [hM] at hK2 hK ⊢
    replace hK2 := hide hK2
    have hLh := hide hL
    have hMh := hide hM
    clear hL hM
    by_cases hlt : k < n
    · have hkl : k < ts.length := by rw [hnH.out]; exact hlt
      obtain ⟨b, off, rfl, x0, x1, x2, x3⟩ := (t1.out.below hB.out).at_ hkl
      have ed := tok_split ts k hkl
      have hP1 := hP.out.1
      rw [ed] at hP1
      generalize ts.getD k tk0 = t at x0 x1 x2 x3 hP1
      obtain ⟨tk, tb, tf, tx⟩ := t
      simp only at x0 x1 x2 x3
      have ik : (k : Int) < n := by omega
      clear ed
      generalize hR : X.pr ts [] [] = R at hP1
      unfold X.pr at hP1
      simp only at hP1
      subst hR
      by_cases h1 : tk = 1
      · subst h1
        rw [if_pos rfl] at hP1
        have hP2 : Hid (PrAt ts (k + 1) (ns ++ [X.newL ⟨1, tb, tf, tx⟩]) (L :: st)) := by
          have hLe := hLh.out
          have hMe := hMh.out
          refine ⟨by rw [← hLh.out]; exact hP1, by simp; omega, by simp; omega, ?_⟩
          intro g hg
          rw [List.length_append, List.length_singleton]
          rcases List.mem_cons.1 hg with rfl | hg
          · omega
          · have := hP.out.2.2.2 g hg
            omega
        clear hP1 hP
        have QA : Hid True := trivial
        go_wp2_with (first
          | (at_builtin; have y := QA; clear y; (refine wpList_append_own _ rfl _ _ 53 rfl w1.heap.size 3 i1 (.int .i64 0) 1 8 sliceInt hj hy0 hy1 hy2 rfl (by decide) _ M _ rfl ((hK2.out.alloc _).alloc _) ⟨wr.heap.size + 1, 0, none⟩ 1 1 [.int .i64 (L : Int)] rfl rfl (one_new' _ _ _) (by simp [Value.oneCell']) (by unfold maxLen; omega) (by omega) (by simp; omega) ?_; intro u3 w3 o3 g3 _; have N3 := hide (((hN2.out.alloc _).alloc _).kept g3 (own_apart hN.out hK.out)); have z3 := g3.size; simp at z3; have c3 := cell_of_row _ _ 1 _ _ (0, 0) (grown_first hK2.out _ _ _ g3); simp at c3; replace o3 := hide o3; replace g3 := hide g3; clear QA))
          | (at_builtin; (refine wpList_append_own _ rfl _ _ 43 rfl w1.heap.size 47 i0 (.agg #[.int .i64 0, .int .i64 0, .int .i64 0, .int .i64 0, .string ⟨#[]⟩]) 5 48 sliceNode hi hz0 hz1 hz2 rfl (by decide) _ L _ rfl (N3.out.alloc _) ⟨w3.heap.size, 0, none⟩ 1 1 [.int .i64 1, .int .i64 (tb : Int), .int .i64 0, .int .i64 0, .string ⟨#[]⟩] rfl rfl (five_new _ _ _ _ _ _ _) (by simp [Value.oneCell']) (by unfold maxLen; omega) (by omega) (by simp; omega) ?_; intro v4 w4 o4 g4 _; replace o4 := hide o4; replace g4 := hide g4)))
        have K3 : OwnK w1.heap.size w3 u3 (L :: st) := OwnK.push hMh.out o3.out
        have N3' : OwnN w1.heap.size w3 (.slice va L vc) ns := by unfold OwnN; rw [hLh.out]; exact N3.out
        refine ⟨⟨k + 1, _, _, by omega, by go_num, hP2, OwnN.snoc hLh.out o4.out, (World.ownsRow.alloc K3 _).kept g4.out (own_apart' N3' K3), ((((hB.out.alloc hwz _).alloc (by simp; omega) _).grown g3.out (by simp; omega) (fun g hg => (hK2.out.lt g hg).1)).alloc (by omega) _).grown g4.out (by simp; omega) (fun g hg => (hN2.out.lt g hg).1)⟩, by simp [intOf]; omega⟩
      · by_cases h2 : tk = 2
        · subst h2
          rw [if_neg (by decide), if_pos rfl] at hP1
          cases st with
          | nil =>
            have hM0 : M = 0 := by have := hMh.out; simpa using this.symm
            subst hM0
            have out : Hid (o = (ns, 20, tb)) := by
              have h1 := hoH.out
              unfold X.out at h1
              rw [← hP1] at h1
              exact h1
            have B4 := hide ((Below.refl _ wr).alloc (Nat.le_refl _) (.cells #[.int .i64 2, .int .i64 (tb : Int), .int .i64 (tf : Int), .string ⟨tx.toArray⟩] 66))
            clear hP1 hP h1
            go_wp2
            go_quiet (fail)
            go_wp2
            refine bodyPost_ret (v := .tuple #[.slice va L vc, .int .i64 20, .int .i64 (tb : Int)]) (by simp [results, Tryd.results15, go_sem]) rfl ?_
            have B5 := below_drewN B4.out 0
            exact ⟨_, by rw [out.out]; rfl, by rw [out.out]; exact hN.out.row.below (below_drewN B4.out _), b1.out.trans ((hB.out.trans ((below_drewN B4.out _).mono hwz)).mono b1.out.size)⟩
          | cons g st' =>
            simp only at hP1
            have hgl := hP.out.2.2.2 g List.mem_cons_self
            obtain ⟨gk, kc, ek, q1, q2, q3, q4, ctop, kpop, clast⟩ := hK.out.top
            obtain ⟨gn, nc, en, r1, r2, r3, r4, fz, c0, c1, c2, c3, c4, nset⟩ := hN.out.at_ (j := g) hgl
            rw [hLh.out] at en r1 hgl
            obtain ⟨Q, hQ⟩ : ∃ Q, st'.length = Q := ⟨_, rfl⟩
            rw [hQ] at ek q1 ctop kpop
            cases ek
            cases en
            have hP2 : Hid (PrAt ts (k + 1) (X.shutL ns g tf) st') := by
              have hLe := hLh.out
              have hPo := hP.out
              refine ⟨hP1, by simp [X.shutL]; omega, by omega, ?_⟩
              intro g' hg'
              have := hPo.2.2.2 g' (List.mem_cons_of_mem _ hg')
              simpa [X.shutL] using this
            have B4 := (Below.refl _ wr).alloc (Nat.le_refl _) (.cells #[.int .i64 2, .int .i64 (tb : Int), .int .i64 (tf : Int), .string ⟨tx.toArray⟩] 66)
            have nset2 : Hid (OwnN w1.heap.size ((wr.setCell ⟨gn, g * 5 + 3, none⟩ (.int .i64 ((L - g : Nat) : Int))).setCell ⟨gn, g * 5 + 2, none⟩ (.int .i64 (tf : Int))) (.slice (some ⟨gn, 0, none⟩) L vc) (X.shutL ns g tf)) := by
              have := nset tf (L - g)
              unfold X.shutL
              rw [hLh.out]
              exact this
            clear nset clast c0 c1 c4
            replace ctop := (B4.cell (p := ⟨gk, _, none⟩) q4).trans ctop
            have c2a := (B4.cell (p := ⟨gn, _, none⟩) r4).trans c2
            have c3a := (B4.cell (p := ⟨gn, _, none⟩) r4).trans c3
            have f2 := fz (g * 5 + 2)
            have f3 := fz (g * 5 + 3)
            clear fz
            have gi : (g : Int) < L := by omega
            replace kpop := hide kpop
            replace B4 := hide B4
            clear hP1 hP h1
            go_wp2
            go_region
            have eLg : ((L - g : Nat) : Int) = (L : Int) - g := by omega
            rw [eLg] at nset2
            have hap := own_apart' hN.out hK.out
            simp only [Value.ownBlock, reduceCtorEq, false_or] at hap
            have kk : ∀ u1 u2, OwnK w1.heap.size ((wr.setCell ⟨gn, g * 5 + 3, none⟩ u1).setCell ⟨gn, g * 5 + 2, none⟩ u2) (.slice (some ⟨gk, 0, none⟩) Q uc) st' := fun u1 u2 => World.ownsRow.kept (World.ownsRow.kept kpop.out (set_grown _ _ _ _) (.inr hap)) (set_grown _ _ _ _) (.inr hap)
            have bb : ∀ u1 u2, Below w1.heap.size w1 ((wr.setCell ⟨gn, g * 5 + 3, none⟩ u1).setCell ⟨gn, g * 5 + 2, none⟩ u2) := fun u1 u2 => (hB.out.setCell r3 _).setCell r3 _
            have kk' := hide (kk (.int .i64 ((L : Int) - g)) (.int .i64 (tf : Int)))
            have bb' := hide (bb (.int .i64 ((L : Int) - g)) (.int .i64 (tf : Int)))
            clear kk bb hap
            go_wp2
            refine ⟨⟨k + 1, _, _, by omega, by go_num, hP2, World.ownsRow.alloc nset2.out _, World.ownsRow.alloc kk'.out _, (bb'.out.alloc bb'.out.size _).drew⟩, by simp [intOf]; omega⟩
        · rw [if_neg h1, if_neg h2] at hP1
          have hP2 : Hid (PrAt ts (k + 1) (ns ++ [X.atom ⟨tk, tb, tf, tx⟩]) st) := by
            have hLe := hLh.out
            have hMe := hMh.out
            refine ⟨hP1, by simp; omega, by omega, ?_⟩
            intro g hg
            rw [List.length_append, List.length_singleton]
            have := hP.out.2.2.2 g hg
            omega
          have k1 : ¬ (tk : Int) = 1 := by omega
          have k2 : ¬ (tk : Int) = 2 := by omega
          clear hP1 hP h1 h2
          go_wp2_with (at_builtin; (refine wpList_append_own _ rfl _ _ 43 rfl w1.heap.size 47 i0 (.agg #[.int .i64 0, .int .i64 0, .int .i64 0, .int .i64 0, .string ⟨#[]⟩]) 5 48 sliceNode hi hz0 hz1 hz2 rfl (by decide) _ L _ rfl ((hN2.out.alloc _).alloc _) ⟨wr.heap.size + 1, 0, none⟩ 1 1 [.int .i64 (tk : Int), .int .i64 (tb : Int), .int .i64 (tf : Int), .int .i64 1, .string ⟨tx.toArray⟩] rfl rfl (five_new' _ _ _ _ _ _ _) (by simp [Value.oneCell']) (by unfold maxLen; omega) (by omega) (by simp; omega) ?_; intro v4 w4 o4 g4 _; replace o4 := hide o4; replace g4 := hide g4))
          refine ⟨⟨k + 1, _, _, by omega, by go_num, hP2, OwnN.snoc hLh.out o4.out, World.ownsRow.kept (World.ownsRow.alloc (World.ownsRow.alloc hK.out _) _) g4.out (own_apart' hN.out hK.out), ((hB.out.alloc hwz _).alloc (by simp; omega) _).grown g4.out (by simp; omega) (fun g hg => (hN2.out.lt g hg).1)⟩, by simp [intOf]; omega⟩
    · have ik : ¬ (k : Int) < n := by omega
      have hkn : k = n := by omega
      have hP1 := hP.out.1
      rw [List.drop_eq_nil_of_le (by rw [hnH.out]; omega)] at hP1
      generalize hR : X.pr ts [] [] = R at hP1
      unfold X.pr at hP1
      subst hP1
      cases st with
      | nil =>
        have hM0 : M = 0 := by have := hMh.out; simpa using this.symm
        subst hM0
        have out : Hid (o = (ns, e, p)) := by
          have h1 := hoH.out
          unfold X.out at h1
          rw [hR] at h1
          exact h1
        clear hR
        go_wp2
        refine bodyPost_ret (v := .tuple #[.slice va L vc, .int .i64 (e : Int), .int .i64 (p : Int)]) (by simp [results, Tryd.results15, go_sem]) rfl ?_
        exact ⟨_, by rw [out.out], by rw [out.out]; exact hN.out.row, b1.out.trans (hB.out.mono b1.out.size)⟩
      | cons g st' =>
        obtain ⟨gk, kc, ek, q1, q2, q3, q4, ctop, kpop, clast⟩ := hK.out.top
        obtain ⟨F, hF⟩ : ∃ F, (g :: st').getLastD 0 = F := ⟨_, rfl⟩
        have hFm : F ∈ g :: st' := by
          rw [← hF, List.getLastD_eq_getLast?, List.getLast?_eq_some_getLast (by simp)]
          exact List.getLast_mem (by simp)
        have hFl := hP.out.2.2.2 F hFm
        obtain ⟨gn, nc, en, r1, r2, r3, r4, fz, c0, c1, c2, c3, c4, nset⟩ := hN.out.at_ (j := F) hFl
        rw [hLh.out] at en r1 hFl
        rw [hF] at clast
        obtain ⟨Q, hQ⟩ : ∃ Q, st'.length = Q := ⟨_, rfl⟩
        rw [hQ] at ek q1 ctop kpop
        cases ek
        cases en
        have out : Hid (o = (ns.take F, if e = 0 then 21 else e, if e = 0 then (ns.getD F X.n0).beg else p)) := by
          have h1 := hoH.out
          unfold X.out at h1
          rw [hR] at h1
          simp only [hF] at h1
          exact h1
        have fr := hide (hN.out.row.front F (by rw [hLh.out]; omega))
        clear hR nset c0 c2 c3 c4 fz ctop kpop
        have gi : (F : Int) < L := by omega
        have gz : ¬ ((Q : Int) + 1 = 0) := by omega
        by_cases he : e = 0
        · subst he
          go_wp2
          go_quiet (fail)
          go_wp2
          refine bodyPost_ret (v := .tuple #[.slice (some ⟨gn, 0, none⟩) F F, .int .i64 21, .int .i64 ((ns.getD F X.n0).beg : Int)]) (by simp [results, Tryd.results15, go_sem]) rfl ?_
          exact ⟨_, by rw [out.out]; rfl, by rw [out.out]; exact fr.out.below (below_drewN (Below.refl _ _) _), b1.out.trans ((below_drewN hB.out _).mono b1.out.size)⟩
        · have he1 : ¬ (e : Int) = 0 := by omega
          go_wp2
          refine bodyPost_ret (v := .tuple #[.slice (some ⟨gn, 0, none⟩) F F, .int .i64 (e : Int), .int .i64 (p : Int)]) (by simp [results, Tryd.results15, go_sem]) rfl ?_
          exact ⟨_, by rw [out.out, if_neg he, if_neg he], by rw [out.out]; exact fr.out, b1.out.trans (hB.out.mono b1.out.size)⟩
end Go.Proofs.YtjbalgjdcdmjjaaDoor
