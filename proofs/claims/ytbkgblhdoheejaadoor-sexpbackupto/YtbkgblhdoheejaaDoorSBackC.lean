/- Laid together of: SBackLaw, NodeOpenB. -/
import Derived.Test.YtbkgblhdoheejaaDoorJoinedLawC
import Derived.Test.YtbkgblhdoheejaaDoorForestAll
import Derived.Test.YtbkgblhdoheejaaDoorRows
import Derived.Deep.SlicePairs
import Derived.OpenShut
import Derived.SizedLaws
/- ==== SBackLaw ==== -/
namespace Go.Proofs.YtbkgblhdoheejaaDoor
open Go.RowKit
set_option linter.unusedVariables false
theorem bt_loop_len (s : ByteArray) : ∀ (k i : Nat) (r : List UInt8), s.size - i = k → (ByteArray.toList.loop s i r).length = r.length + (s.size - i)
  | 0, i, r, h => by
    rw [ByteArray.toList.loop, if_neg (by omega), List.length_reverse]
    omega
  | k + 1, i, r, h => by
    rw [ByteArray.toList.loop, if_pos (by omega), bt_loop_len s k (i + 1) _ (by omega), List.length_cons]
    omega
theorem bt_nil (s : ByteArray) : s.toList = [] ↔ s.data.toList = [] := by
  have h : s.toList.length = s.size := by
    have := bt_loop_len s _ 0 [] rfl
    unfold ByteArray.toList
    rw [this]
    simp
  rw [← List.length_eq_zero_iff, h, ← List.length_eq_zero_iff]
  rfl
theorem key_toNd {n : X.N} {x : Nd} (h : nkey n = key x) : key (toNd n) = key x ∧ (toNd n).kind = x.kind ∧ (toNd n).size = x.size ∧ (x.kind = 1 → (toNd n).text.data.toList = []) := by
  simp only [nkey, key, Prod.mk.injEq] at h
  obtain ⟨h1, h2, h3⟩ := h
  have e1 : (toNd n).kind = x.kind := h1
  have e2 : (toNd n).size = x.size := h2
  refine ⟨?_, e1, e2, fun hk => ?_⟩
  · unfold key
    rw [e1, e2]
    by_cases hk : x.kind = 1
    · rw [if_pos hk, if_pos hk]
    · rw [if_neg hk, if_neg hk]
      rw [if_neg hk] at h3
      rw [← h3]
      rfl
  · rw [if_pos hk] at h3
    show n.text.toArray.toList = []
    rw [h3]
theorem keys_toNd {fs : List X.N} {ns : List Nd} (h : fs.map nkey = ns.map key) : (fs.map toNd).map key = ns.map key := by
  rw [← h, List.map_map]
  apply List.map_congr_left
  intro n hn
  have hm : nkey n ∈ ns.map key := by rw [← h]; exact List.mem_map_of_mem hn
  obtain ⟨x, _, hx⟩ := List.mem_map.1 hm
  show key (toNd n) = nkey n
  rw [← hx, (key_toNd hx.symm).1]
theorem fo_key : ∀ (a b : List Nd) (i : Nat) (S : List Nat), a.map key = b.map key → (∀ y ∈ b, y.kind = 1 → y.text.data.toList = []) → fo a i S = true → fo b i S = true
  | [], b, i, S, h, _, _ => by
    have : b = [] := List.map_eq_nil_iff.1 h.symm
    rw [this]
    rfl
  | x :: a, [], i, S, h, _, _ => by cases h
  | x :: a, y :: b, i, S, h, hb, hf => by
    rw [List.map_cons, List.map_cons] at h
    obtain ⟨h1, h2⟩ := List.cons.inj h
    simp only [key, Prod.mk.injEq] at h1
    unfold fo at hf ⊢
    cases hd : S.dropWhile (fun e => decide (e = i)) with
    | nil => rw [hd] at hf; cases hf
    | cons top S' =>
      rw [hd] at hf
      simp only at hf ⊢
      by_cases hok : x.ok i top
      · have hok2 : y.ok i top := by
          rcases hok with ⟨k1, k2, k3, k4⟩ | ⟨k1, k2, k3, k4⟩
          · refine .inl ⟨by rw [← h1.1]; exact k1, ?_, by rw [← h1.2.1]; exact k3, by rw [← h1.2.1]; exact k4⟩
            have := hb y List.mem_cons_self (by rw [← h1.1]; exact k1)
            exact (bt_nil _).2 this
          · exact .inr ⟨by rw [← h1.1]; exact k1, by rw [← h1.1]; exact k2, by rw [← h1.1]; exact k3, by rw [← h1.2.1]; exact k4⟩
        rw [okB_yes hok, if_pos rfl] at hf
        rw [okB_yes hok2, if_pos rfl, ← h1.1, ← h1.2.1]
        exact fo_key a b _ _ h2 (fun z hz => hb z (List.mem_cons_of_mem _ hz)) hf
      · rw [okB_no hok] at hf
        cases hf
/-- The lists of a forest bear no text. -/
theorem fo_text : ∀ (a : List Nd) (i : Nat) (S : List Nat), fo a i S = true → ∀ x ∈ a, x.kind = 1 → x.text.data.toList = []
  | [], i, S, _ => by simp
  | x :: a, i, S, hf => by
    unfold fo at hf
    cases hd : S.dropWhile (fun e => decide (e = i)) with
    | nil => rw [hd] at hf; cases hf
    | cons top S' =>
      rw [hd] at hf
      simp only at hf
      by_cases hok : x.ok i top
      · rw [okB_yes hok, if_pos rfl] at hf
        intro z hz hk
        rcases List.mem_cons.1 hz with rfl | hm
        · rcases hok with ⟨_, k2, _⟩ | ⟨k1, _⟩
          · exact (bt_nil _).1 k2
          · exact absurd hk k1
        · exact fo_text a _ _ hf z hm hk
      · rw [okB_no hok] at hf
        cases hf
theorem bytes_ext {a b : ByteArray} (h : a.data.toList = b.data.toList) : a = b := by
  obtain ⟨a⟩ := a
  obtain ⟨b⟩ := b
  congr 1
  exact Array.toList_inj.1 h
set_option maxRecDepth 100000 in
set_option maxHeartbeats 1000000 in
theorem sexpBack_calls (w : World) (hc : Cls w) (hm : Mx w) (v : Value) (ns : List Nd) (h : Nds w.heap.size w v ns) (hlen : ns.length ≤ 1048576) (hwt : wt ns ≤ 33554432) :
    Calls Tryd.prog 6 #[v] w fun e w' => e = .returned (.bool true) ∧ Below w.heap.size w w' := by
  have hN := hide h
  obtain ⟨a, cap, rfl, h1, ⟨h2, h2'⟩, h3, h4⟩ := h
  clear h3 h4
  have q0 := hide (heads_calls w hc hm)
  have hcH := hide hc
  have hmH := hide hm
  have hT := hide (fun k (hk : k < ns.length) => Nat.le_trans (lnt_tot ns k) hwt)
  have q1 := hide (fun W (q : Below w.heap.size w W) => show_calls W (cls_below hcH.out q) (hmH.out.below q) w.heap.size _ ns (hN.out.below q) q.size hlen hT.out)
  clear hc hm
  have hno : showE ns ≠ 0 ∧ showV ns = [] ∨ forestB ns = true ∧ ∃ out, showA ns = some out := by
    unfold showE showV
    cases hf : forestB ns
    · left; exact ⟨by simp, by simp⟩
    · cases hA : showA ns with
      | none => left; exact ⟨by decide, rfl⟩
      | some out => right; exact ⟨rfl, out, rfl⟩
  rcases hno with ⟨e1, e2⟩ | ⟨hf, out, hA⟩
  · rw [e2] at q1
    obtain ⟨E, hE⟩ : ∃ E, showE ns = E := ⟨_, rfl⟩
    rw [hE] at q1 e1
    have hEB : (E != 0) = true := by rw [bne_iff_ne]; exact e1
    clear hE e2 hT
    go_enter Tryd.func6, Tryd.ntmps6
    go_wp2_with (first
      | (go_at_call 9; refine q0.out.mono ?_; rintro x w1 ⟨rfl, b1⟩; replace b1 := hide b1; have q2 := hide (q1.out w1 b1.out))
      | (go_at_call 18; refine q2.out.mono ?_; rintro x w2 ⟨rfl, b2⟩; replace b2 := hide (b1.out.then_below b2))
      | (go_at_call 12; refine (no_calls _ _).mono ?_; rintro x w5 ⟨rfl, rfl⟩))
    go_ret
    exact ⟨rfl, b2.out⟩
  · have e1 : showE ns = 0 := by unfold showE; rw [hf, if_pos rfl, hA]; rfl
    have e2 : showV ns = out := by unfold showV; rw [hf, if_pos rfl, hA]; rfl
    obtain ⟨hol, fs, T, g1, g2, g3⟩ := show_back hf hA
    rw [e1, e2] at q1
    have hfl : fs.length = ns.length := by have := congrArg List.length g3; simpa using this
    have hk2 := keys_toNd g3
    have hf2 : forestB (fs.map toNd) = true := by
      unfold forestB at hf ⊢
      rw [List.length_map, hfl]
      refine fo_key ns _ 0 _ hk2.symm (fun y hy hy1 => ?_) hf
      obtain ⟨n, hn, rfl⟩ := List.mem_map.1 hy
      have hmm : nkey n ∈ ns.map key := by rw [← g3]; exact List.mem_map_of_mem hn
      obtain ⟨x, _, hx⟩ := List.mem_map.1 hmm
      have := key_toNd hx.symm
      exact this.2.2.2 (by rw [← this.2.1]; exact hy1)
    have hA2 : showA (fs.map toNd) = some out := by rw [showA_key hk2]; exact hA
    have d1 : showE (fs.map toNd) = 0 := by unfold showE; rw [hf2, if_pos rfl, hA2]; rfl
    have d2 : showV (fs.map toNd) = out := by unfold showV; rw [hf2, if_pos rfl, hA2]; rfl
    have q3 := hide (fun W (q : Below w.heap.size w W) => sexpRead_calls W (cls_below hcH.out q) ⟨out.toArray⟩ out (by simp) (by omega) (fs, 0, 0) (by rw [g1]; exact g2.symm))
    have hlk : ∀ j, j < (fs.map toNd).length → Lk (-1) ((fs.map toNd).getD j Nd.z) (ns.getD j Nd.z) := by
      intro j hj
      rw [List.length_map] at hj
      have hkj : nkey (fs.getD j X.n0) = key (ns.getD j Nd.z) := by
        have h1 : (fs.map nkey)[j]? = (ns.map key)[j]? := by rw [g3]
        rw [List.getElem?_map, List.getElem?_map, List.getElem?_eq_getElem hj, List.getElem?_eq_getElem (by omega)] at h1
        rw [List.getD_eq_getElem?_getD, List.getD_eq_getElem?_getD, List.getElem?_eq_getElem hj, List.getElem?_eq_getElem (by omega)]
        exact Option.some.inj h1
      rw [toNd_at]
      obtain ⟨k1, k2, k3, k4⟩ := key_toNd hkj
      refine ⟨k2.symm, k3.symm, ?_, fun hz => absurd hz (by decide)⟩
      apply bytes_ext
      by_cases hk : (ns.getD j Nd.z).kind = 1
      · rw [k4 hk]
        refine fo_text ns 0 _ hf _ ?_ hk
        rw [List.getD_eq_getElem?_getD, List.getElem?_eq_getElem (by omega : j < ns.length)]
        exact List.getElem_mem _
      · simp only [nkey, key, Prod.mk.injEq] at hkj
        have := hkj.2.2
        rw [if_neg hk] at this
        show _ = (fs.getD j X.n0).text.toArray.toList
        rw [← this]
    have hT2 : ∀ k, k < (fs.map toNd).length → jtot (lnt (fs.map toNd) k) ≤ 33554432 := by
      intro k _
      rw [lnt_key hk2]
      exact Nat.le_trans (lnt_tot ns k) hwt
    replace hlk := hide hlk
    replace hT2 := hide hT2
    have hflH := hide hfl
    have hd := hide (And.intro d1 d2)
    clear e1 e2 hA hol g1 g2 g3 hk2 hf hf2 hA2 d1 d2 hT hfl hwt
    go_enter Tryd.func6, Tryd.ntmps6
    go_wp2_with fail
    refine q0.out.mono ?_
    rintro x w1 ⟨rfl, b1⟩
    replace b1 := hide b1
    go_wp2_with fail
    refine (q1.out w1 b1.out).mono ?_
    rintro x w2 ⟨rfl, b2⟩
    replace b2 := hide (b1.out.then_below b2)
    go_wp2_with (first
      | (go_at_call 12; refine (no_calls _ _).mono ?_; rintro x w5 ⟨rfl, rfl⟩))
    refine (q3.out _ b2.out).mono ?_
    rintro x w3 ⟨v3, rfl, r3, b3⟩
    replace b3 := hide (b2.out.then_below b3)
    have n3 := r3.nds (by rw [hflH.out]; omega)
    have q4 := hide (alike_calls w3 w3.heap.size v3 _ _ _ n3 ((hN.out.below b3.out).mono b3.out.size) (Nat.le_refl _) (-1) (by decide) (by rw [List.length_map, hflH.out]) hlk.out)
    have q5 := hide (fun W (q : Below w3.heap.size w3 W) => show_calls W (cls_below hcH.out (b3.out.then_below q)) (hmH.out.below (b3.out.then_below q)) w3.heap.size v3 _ (n3.below q) q.size (by rw [List.length_map, hflH.out]; exact hlen) hT2.out)
    rw [hd.out.1, hd.out.2] at q5
    clear q0 q1 q3 r3 n3
    go_wp2_with (first
      | (go_at_call 12; refine (no_calls _ _).mono ?_; rintro x w5 ⟨rfl, rfl⟩)
      | (go_at_call 16; refine q4.out.mono ?_; rintro x w6 ⟨rfl, b6⟩; have q6 := hide (q5.out _ b6); replace b6 := hide (b3.out.then_below b6))
      | (go_at_call 18; refine q6.out.mono ?_; rintro x w7 ⟨rfl, b7⟩))
    go_ret
    exact ⟨rfl, b6.out.then_below b7⟩
end Go.Proofs.YtbkgblhdoheejaaDoor
/- ==== NodeOpenB ==== -/
namespace Go.Proofs.YtbkgblhdoheejaaDoor
open Go.RowKit Go.Deep
set_option linter.unusedVariables false
theorem underNode : ∃ f0 f1 f2 f3 f4 : Field, Tryd.prog.underlying 35 = some (.struct #[f0, f1, f2, f3, f4]) ∧ (f0.offset = 0 ∧ f0.type = 3) ∧ (f1.offset = 1 ∧ f1.type = 3) ∧ (f2.offset = 2 ∧ f2.type = 3) ∧ (f3.offset = 3 ∧ f3.type = 3) ∧ (f4.offset = 4 ∧ f4.type = 9) :=
  ⟨_, _, _, _, _, Tryd.underlying35, ⟨rfl, rfl⟩, ⟨rfl, rfl⟩, ⟨rfl, rfl⟩, ⟨rfl, rfl⟩, rfl, rfl⟩
theorem cellsNode : Tryd.prog.cellsOf 35 = 5 := by kernel_rfl
theorem cellsInt : Tryd.prog.cellsOf 3 = 1 := by kernel_rfl
theorem cellsString : Tryd.prog.cellsOf 9 = 1 := by kernel_rfl
theorem bytesNode : Tryd.prog.bytesOf 35 = 48 := by kernel_rfl
theorem addr5 {w : World} {a : Addr} {u : Value} (j f : Nat) (h : w.cell? ((a.add (j * 5)).add f) = some u) : w.cell? ⟨a.block, a.off + j * 5 + f, none⟩ = some u := by
  have hs := World.cell?_spot h
  have e : (a.add (j * 5)).add f = ⟨a.block, a.off + j * 5 + f, none⟩ := by
    obtain ⟨b, off, spot⟩ := a
    simp only [Addr.add] at hs ⊢
    split <;> split <;> simp_all
  rw [← e]
  exact h
theorem wt_bulk {H : Type} : ∀ (ns : List Nd) (ds : List (DataW H)), ns.length = ds.length → (∀ j, j < ns.length → (ns.getD j Nd.z).text.data.toList.length + 6 ≤ Rows.uptoBulk (ds.getD j .nil)) → wt ns ≤ 2 * Rows.uptoBulkAll ds ∧ ns.length ≤ Rows.uptoBulkAll ds
  | [], ds, _, _ => ⟨Nat.zero_le _, Nat.zero_le _⟩
  | x :: ns, [], h, _ => by simp at h
  | x :: ns, d :: ds, h, hj => by
    have h0 := hj 0 (by simp)
    have ih := wt_bulk ns ds (by simpa using h) (fun j hjl => by
      have := hj (j + 1) (by simp; omega)
      simpa using this)
    simp only [List.getD_cons_zero] at h0
    simp only [wt, Rows.uptoBulkAll, List.length_cons]
    omega
set_option maxRecDepth 100000 in
theorem open_nodesB {H : Type} {enc : TypeId × Value → H} {w : World} {held : Bool} {fuel : Nat} {v : Value} {x : DataW H × List MemPlace} (hv : ∃ a n c, v = .slice a n c)
    (h : DataW.trod enc Tryd.prog w 0 (fun _ => true) held fuel 27 v.cells.toList = some x) (hbk : Rows.uptoBulk x.1 ≤ 1048576) : ∃ ns, Nds w.heap.size w v ns ∧ wt ns ≤ 2 * Rows.uptoBulk x.1 ∧ ns.length ≤ Rows.uptoBulk x.1 := by
  obtain ⟨va, vn, vc, rfl⟩ := hv
  rcases open_slice (t := 27) (e := 35) (by kernel_rfl) h with ⟨hcs, _⟩ | ⟨a, len, cap, m, n, D, Pl, hcs, hb, hl, hm, hmm, rfl, hx⟩
  · simp [Value.cells] at hcs
    obtain ⟨rfl, rfl, rfl⟩ := hcs
    exact ⟨[], ⟨none, 0, rfl, by simp, by simp, by simp, fun h => absurd rfl h⟩, Nat.zero_le _, Nat.zero_le _⟩
  · simp [Value.cells] at hcs
    obtain ⟨rfl, rfl, rfl⟩ := hcs
    simp only [if_true] at hmm
    subst hmm
    obtain ⟨f0, f1, f2, f3, f4, hu, ⟨o0, t0⟩, ⟨o1, t1⟩, ⟨o2, t2⟩, ⟨o3, t3⟩, o4, t4⟩ := underNode
    rw [cellsNode] at hx
    have each : ∀ j, j < m → ∃ x : Nd, (w.cell? ⟨a.block, a.off + j * 5, none⟩ = some (.int .i64 x.kind) ∧ w.cell? ⟨a.block, a.off + j * 5 + 1, none⟩ = some (.int .i64 x.pos) ∧ w.cell? ⟨a.block, a.off + j * 5 + 2, none⟩ = some (.int .i64 x.fin) ∧ w.cell? ⟨a.block, a.off + j * 5 + 3, none⟩ = some (.int .i64 x.size) ∧ w.cell? ⟨a.block, a.off + j * 5 + 4, none⟩ = some (.string x.text)) ∧ x.text.data.toList.length + 6 ≤ Rows.uptoBulk (D j) := by
      intro j hj
      obtain ⟨cs, h1, h2⟩ := hx j hj
      obtain ⟨_, hlen, hcell⟩ := World.cells?_some h1
      obtain ⟨xs, k, hk, hxy, _, hxl, hf⟩ := DataW.trod_struct hu h2
      match cs, hlen with
      | [v0, v1, v2, v3, v4], _ =>
        match xs, hxl with
        | [y0, y1, y2, y3, y4], _ =>
          have g0 := hf 0 f0 rfl
          have g1 := hf 1 f1 rfl
          have g2 := hf 2 f2 rfl
          have g3 := hf 3 f3 rfl
          have g4 := hf 4 f4 rfl
          simp [o0, t0, cellsInt] at g0
          simp [o1, t1, cellsInt] at g1
          simp [o2, t2, cellsInt] at g2
          simp [o3, t3, cellsInt] at g3
          simp [o4, t4, cellsString] at g4
          obtain ⟨n0, e0, z0, -⟩ := DataW.trod_int Tryd.underlying3 g0
          obtain ⟨n1, e1, z1, -⟩ := DataW.trod_int Tryd.underlying3 g1
          obtain ⟨n2, e2, z2, -⟩ := DataW.trod_int Tryd.underlying3 g2
          obtain ⟨n3, e3, z3, -⟩ := DataW.trod_int Tryd.underlying3 g3
          obtain ⟨s4, e4, z4, -⟩ := DataW.trod_string Tryd.underlying9 g4
          cases e0; cases e1; cases e2; cases e3; cases e4
          have hD : D j = .agg [.lit (.int .i64 n0), .lit (.int .i64 n1), .lit (.int .i64 n2), .lit (.int .i64 n3), .lit (.string s4.data.toList)] := by
            have := (Prod.mk.inj hxy).1
            rw [this, z0, z1, z2, z3, z4]
            rfl
          refine ⟨⟨n0, n1, n2, n3, s4⟩, ⟨addr5 j 0 (hcell 0 (by omega)), addr5 j 1 (hcell 1 (by omega)), addr5 j 2 (hcell 2 (by omega)), addr5 j 3 (hcell 3 (by omega)), addr5 j 4 (hcell 4 (by omega))⟩, ?_⟩
          rw [hD]
          simp only [Rows.uptoBulk, Rows.uptoBulkAll]
          omega
    have inh : Inhabited Nd := ⟨Nd.z⟩
    obtain ⟨X, hX⟩ := choose_lt each
    have hw := wt_bulk ((List.range vn).map X) ((List.range vn).map D) (by simp) (fun j hj => by
        simp only [List.length_map, List.length_range] at hj
        have e : ((List.range vn).map X).getD j Nd.z = X j := by simp [List.getD_eq_getElem?_getD, hj]
        have e2 : ((List.range vn).map D).getD j .nil = D j := by simp [List.getD_eq_getElem?_getD, hj]
        rw [e, e2]
        exact (hX j (by omega)).2)
    have hlen2 : ((List.range vn).map X).length = vn := by simp
    rw [hlen2] at hw
    simp only [Rows.uptoBulk] at hbk ⊢
    obtain ⟨b, off, spot⟩ := a
    refine ⟨(List.range vn).map X, ⟨some ⟨b, off, spot⟩, m, by rw [hlen2], by rw [hlen2]; omega, ⟨by unfold maxLen at hm; omega, by rw [hlen2]; omega⟩, fun e => (by cases e), fun hne => ?_⟩, by omega, by rw [hlen2]; omega⟩
    have h0 : 0 < vn := by
      apply Nat.pos_of_ne_zero
      rintro rfl
      simp at hne
    have hsp : spot = none := by
      obtain ⟨cs, h1, _⟩ := hx 0 (by omega)
      obtain ⟨_, hlen, hcell⟩ := World.cells?_some h1
      have := hcell 0 (by omega)
      match cs, hlen with
      | [v0, v1, v2, v3, v4], _ => simpa [Addr.add] using World.cell?_spot this
    subst hsp
    refine ⟨b, off, rfl, ?_, fun j hj => ?_⟩
    · exact World.block_lt_of_cell? w ⟨b, _, none⟩ (hX 0 (by omega)).1.1
    · rw [hlen2] at hj
      have e : ((List.range vn).map X).getD j Nd.z = X j := by simp [List.getD_eq_getElem?_getD, hj]
      rw [e]
      exact (hX j (by omega)).1
end Go.Proofs.YtbkgblhdoheejaaDoor
