/- Laid together of: TokOpen, JoinsLaw. -/
import Derived.Test.YtigcakppnbfpkaaGreatDoorRows
import Derived.Test.YtigcakppnbfpkaaGreatDoorJoinAll
import Derived.Deep.SlicePairs
import Derived.OpenShut
import Derived.SizedLaws
import Derived.Test.YtigcakppnbfpkaaGreatDoorSpellAll
/- ==== TokOpen ==== -/
namespace Go.Proofs.YtigcakppnbfpkaaGreatDoor
open Go.RowKit Go.Deep
set_option linter.unusedVariables false
theorem underTok : ∃ f0 f1 f2 f3 : Field, Tryz.prog.underlying 24 = some (.struct #[f0, f1, f2, f3]) ∧ (f0.offset = 0 ∧ f0.type = 3) ∧ (f1.offset = 1 ∧ f1.type = 3) ∧ (f2.offset = 2 ∧ f2.type = 3) ∧ (f3.offset = 3 ∧ f3.type = 9) :=
  ⟨_, _, _, _, Tryz.underlying24, ⟨rfl, rfl⟩, ⟨rfl, rfl⟩, ⟨rfl, rfl⟩, rfl, rfl⟩
theorem cellsTok4 : Tryz.prog.cellsOf 24 = 4 := by kernel_rfl
theorem cellsInt1 : Tryz.prog.cellsOf 3 = 1 := by kernel_rfl
theorem cellsStr1 : Tryz.prog.cellsOf 9 = 1 := by kernel_rfl
theorem addr4 {w : World} {a : Addr} {u : Value} (j f : Nat) (h : w.cell? ((a.add (j * 4)).add f) = some u) : w.cell? ⟨a.block, a.off + j * 4 + f, none⟩ = some u := by
  have hs := World.cell?_spot h
  have e : (a.add (j * 4)).add f = ⟨a.block, a.off + j * 4 + f, none⟩ := by
    obtain ⟨b, off, spot⟩ := a
    simp only [Addr.add] at hs ⊢
    split <;> split <;> simp_all
  rw [← e]
  exact h
theorem jtot_bulk {H : Type} : ∀ (ts : List J) (ds : List (DataW H)), ts.length = ds.length → (∀ j, j < ts.length → 2 * (ts.getD j j0).text.length + 3 ≤ 2 * Rows.uptoBulk (ds.getD j .nil)) → jtot ts ≤ 2 * Rows.uptoBulkAll ds
  | [], ds, _, _ => Nat.zero_le _
  | t :: ts, [], h, _ => by simp at h
  | t :: ts, d :: ds, h, hj => by
    have h0 := hj 0 (by simp)
    have ih := jtot_bulk ts ds (by simpa using h) (fun j hjl => by
      have := hj (j + 1) (by simp; omega)
      simpa using this)
    simp only [List.getD_cons_zero] at h0
    simp only [jtot, Rows.uptoBulkAll]
    omega
set_option maxRecDepth 100000 in
theorem open_toks {H : Type} {enc : TypeId × Value → H} {w : World} {held : Bool} {fuel : Nat} {v : Value} {x : DataW H × List MemPlace} (hv : ∃ a n c, v = .slice a n c)
    (h : DataW.trod enc Tryz.prog w 0 (fun _ => true) held fuel 22 v.cells.toList = some x) : ∃ ts, JRow w v ts ∧ jtot ts ≤ 2 * Rows.uptoBulk x.1 := by
  obtain ⟨va, vn, vc, rfl⟩ := hv
  rcases open_slice (t := 22) (e := 24) (by kernel_rfl) h with ⟨hcs, _⟩ | ⟨a, len, cap, m, n, D, Pl, hcs, hb, hl, hm, hmm, rfl, hx⟩
  · simp [Value.cells] at hcs
    obtain ⟨rfl, rfl, rfl⟩ := hcs
    exact ⟨[], ⟨none, 0, rfl, by simp, by simp, fun h => absurd rfl h⟩, Nat.zero_le _⟩
  · simp [Value.cells] at hcs
    obtain ⟨rfl, rfl, rfl⟩ := hcs
    simp only [if_true] at hmm
    subst hmm
    obtain ⟨f0, f1, f2, f3, hu, ⟨o0, t0⟩, ⟨o1, t1⟩, ⟨o2, t2⟩, o3, t3⟩ := underTok
    rw [cellsTok4] at hx
    have each : ∀ j, j < m → ∃ x : J, w.cell? ⟨a.block, a.off + j * 4, none⟩ = some (.int .i64 x.kind) ∧ w.cell? ⟨a.block, a.off + j * 4 + 1, none⟩ = some (.int .i64 x.beg) ∧ w.cell? ⟨a.block, a.off + j * 4 + 2, none⟩ = some (.int .i64 x.fin) ∧ w.cell? ⟨a.block, a.off + j * 4 + 3, none⟩ = some (.string ⟨x.text.toArray⟩) ∧ 2 * x.text.length + 3 ≤ 2 * Rows.uptoBulk (D j) := by
      intro j hj
      obtain ⟨cs, h1, h2⟩ := hx j hj
      obtain ⟨_, hlen, hcell⟩ := World.cells?_some h1
      obtain ⟨xs, k, hk, hxy, _, hxl, hf⟩ := DataW.trod_struct hu h2
      match cs, hlen with
      | [v0, v1, v2, v3], _ =>
        match xs, hxl with
        | [y0, y1, y2, y3], _ =>
          have g0 := hf 0 f0 rfl
          have g1 := hf 1 f1 rfl
          have g2 := hf 2 f2 rfl
          have g3 := hf 3 f3 rfl
          simp [o0, t0, cellsInt1] at g0
          simp [o1, t1, cellsInt1] at g1
          simp [o2, t2, cellsInt1] at g2
          simp [o3, t3, cellsStr1] at g3
          obtain ⟨n0, e0, z0, -⟩ := DataW.trod_int Tryz.underlying3 g0
          obtain ⟨n1, e1, z1, -⟩ := DataW.trod_int Tryz.underlying3 g1
          obtain ⟨n2, e2, z2, -⟩ := DataW.trod_int Tryz.underlying3 g2
          obtain ⟨s3, e3, z3, -⟩ := DataW.trod_string Tryz.underlying9 g3
          cases e0; cases e1; cases e2; cases e3
          have hD : D j = .agg [.lit (.int .i64 n0), .lit (.int .i64 n1), .lit (.int .i64 n2), .lit (.string s3.data.toList)] := by
            have := (Prod.mk.inj hxy).1
            rw [this, z0, z1, z2, z3]
            rfl
          refine ⟨⟨n0, n1, n2, s3.data.toList⟩, addr4 j 0 (hcell 0 (by omega)), addr4 j 1 (hcell 1 (by omega)), addr4 j 2 (hcell 2 (by omega)), addr4 j 3 (hcell 3 (by omega)), ?_⟩
          rw [hD]
          simp only [Rows.uptoBulk, Rows.uptoBulkAll]
          omega
    have inh : Inhabited J := ⟨j0⟩
    obtain ⟨X, hX⟩ := choose_lt each
    obtain ⟨b, off, spot⟩ := a
    refine ⟨(List.range vn).map X, ⟨some ⟨b, off, spot⟩, m, by simp, by simp; omega, by unfold maxLen at hm; omega, fun hne => ?_⟩, ?_⟩
    · have h0 : 0 < vn := by
        apply Nat.pos_of_ne_zero
        rintro rfl
        simp at hne
      have hsp : spot = none := by
        obtain ⟨cs, h1, _⟩ := hx 0 (by omega)
        obtain ⟨_, hlen, hcell⟩ := World.cells?_some h1
        have := hcell 0 (by omega)
        match cs, hlen with
        | [v0, v1, v2, v3], _ => simpa [Addr.add] using World.cell?_spot this
      subst hsp
      refine ⟨b, off, rfl, fun j hj => ?_⟩
      simp only [List.length_map, List.length_range] at hj
      have e : ((List.range vn).map X).getD j j0 = X j := by simp [List.getD_eq_getElem?_getD, hj]
      rw [e]
      obtain ⟨c0, c1, c2, c3, -⟩ := hX j (by omega)
      exact ⟨c0, c1, c2, c3⟩
    · have := jtot_bulk ((List.range vn).map X) ((List.range vn).map D) (by simp) (fun j hj => by
        simp only [List.length_map, List.length_range] at hj
        have e : ((List.range vn).map X).getD j j0 = X j := by simp [List.getD_eq_getElem?_getD, hj]
        have e2 : ((List.range vn).map D).getD j .nil = D j := by simp [List.getD_eq_getElem?_getD, hj]
        rw [e, e2]
        exact (hX j (by omega)).2.2.2.2)
      simp only [Rows.uptoBulk]
      omega
end Go.Proofs.YtigcakppnbfpkaaGreatDoor
/- ==== JoinsLaw ==== -/
namespace Go.Proofs.YtigcakppnbfpkaaGreatDoor
open Go.RowKit
set_option linter.unusedVariables false
set_option maxRecDepth 100000 in
set_option maxHeartbeats 1000000 in
theorem same_quiet (w : World) (va vb : Value) (ts : List J) (ha : JRow w va ts) (hb : JRow w vb ts) (hts : ts.length ≤ 4294967298) :
    Calls Tryz.prog 8 #[va, vb] w fun e w' => e = .returned (.bool true) ∧ ∃ m, w' = w.drewN m := by
  obtain ⟨LL, hLL⟩ : ∃ n, ts.length = n := ⟨_, rfl⟩
  obtain ⟨a1, cp1, rfl, n1, n1'⟩ := ha.shape
  obtain ⟨a2, cp2, rfl, n2, n2'⟩ := hb.shape
  have t1 := hide ha
  have t2 := hide hb
  rw [hLL] at n1 n2 hts t1 t2 ⊢
  have hLh := hide hLL
  clear ha hb hLL
  go_enter Tryz.func8, Tryz.ntmps8
  go_wp2
  go_loopw [5] (fun j wr => ∃ k : Nat, k ≤ LL ∧ j = .int .i64 k ∧ Hid (∃ m, wr = w.drewN m)) (fun j _ => LL - (intOf j).toNat)
  case atStart => exact ⟨0, Nat.zero_le _, rfl, ⟨0, rfl⟩⟩
  case round =>
    obtain ⟨k, hk, rfl, hB⟩ := hrel
    by_cases hlt : k < LL
    · have T1 : JRow wr (.slice a1 LL cp1) ts := by
        obtain ⟨m, e⟩ := hB.out
        rw [e]
        exact t1.out
      have T2 : JRow wr (.slice a2 LL cp2) ts := by
        obtain ⟨m, e⟩ := hB.out
        rw [e]
        exact t2.out
      obtain ⟨g1, f1, rfl, x0, x1, x2, x3⟩ := T1.at_ (j := k) (by rw [hLh.out]; exact hlt)
      obtain ⟨g2, f2, rfl, y0, y1, y2, y3⟩ := T2.at_ (j := k) (by rw [hLh.out]; exact hlt)
      generalize ts.getD k j0 = t at x0 x1 x2 x3 y0 y1 y2 y3
      have i1 : (k : Int) < LL := by omega
      clear T1 T2
      go_wp2
      go_quiet (fail)
      go_wp2
      go_roundw
      case rel =>
        refine ⟨k + 1, by omega, by go_num, ?_⟩
        obtain ⟨m, e⟩ := hB.out
        exact ⟨_, by rw [e, World.drewN_drewN]⟩
      case measure => simp [intOf]; omega
    · go_wp2
      go_ret
      exact ⟨rfl, hB.out⟩
/-- What the law's first lines leave: the list and two marks behind it, in memory of its own, and the mark. -/
def Full (w w4 : World) (mb : Nat) (v2 : Value) (LL : Nat) (ts : List J) : Prop :=
  ∃ g cap, v2 = .slice (some ⟨g, 0, none⟩) (LL + 2) cap ∧ LL + 2 ≤ cap ∧ JRow w4 (.slice (some ⟨g, 0, none⟩) LL cap) ts ∧ Below w.heap.size w w4 ∧
    (∀ i, i < 2 → w4.cell? ⟨g, (LL + i) * 4, none⟩ = some (.int .i64 91) ∧ w4.cell? ⟨g, (LL + i) * 4 + 1, none⟩ = some (.int .i64 92) ∧ w4.cell? ⟨g, (LL + i) * 4 + 2, none⟩ = some (.int .i64 93) ∧ w4.cell? ⟨g, (LL + i) * 4 + 3, none⟩ = some (.string ⟨#[109, 97, 114, 107]⟩)) ∧
    w4.cell? ⟨mb, 0, none⟩ = some (.int .i64 91) ∧ w4.cell? ⟨mb, 1, none⟩ = some (.int .i64 92) ∧ w4.cell? ⟨mb, 2, none⟩ = some (.int .i64 93) ∧ w4.cell? ⟨mb, 3, none⟩ = some (.string ⟨#[109, 97, 114, 107]⟩) ∧ g < w4.heap.size ∧ mb < w4.heap.size
def mks : List Value := [.int .i64 91, .int .i64 92, .int .i64 93, .string ⟨#[109, 97, 114, 107]⟩, .int .i64 91, .int .i64 92, .int .i64 93, .string ⟨#[109, 97, 114, 107]⟩]
theorem full_of {w w1 w4 : World} {v1 v2 : Value} {LL : Nat} {ts : List J} (hL : ts.length = LL) (b1 : Below w.heap.size w w1) (o1 : w1.ownsRow w.heap.size 24 4 v1 LL (jCells ts))
    (o2 : w4.ownsRow w.heap.size 24 4 v2 (LL + 2) (jCells ts ++ mks))
    (g2 : ((w1.alloc (.cells #[.int .i64 91, .int .i64 92, .int .i64 93, .string ⟨#[109, 97, 114, 107]⟩] 24)).alloc (.cells #[.int .i64 91, .int .i64 92, .int .i64 93, .string ⟨#[109, 97, 114, 107]⟩, .int .i64 91, .int .i64 92, .int .i64 93, .string ⟨#[109, 97, 114, 107]⟩] 24)).grownBy w4 v1.ownBlock) : Full w w4 w1.heap.size v2 LL ts := by
  obtain ⟨ao, cap, e⟩ := own_shape (ownsRow_zero o2)
  subst e
  obtain ⟨g, hg, hcap, hgb⟩ : ∃ g, ao = some ⟨g, 0, none⟩ ∧ LL + 2 ≤ cap ∧ g < w4.heap.size := by
    rcases o2.2 with ⟨e, h⟩ | ⟨b, cap', cur, e, _, hb, h3, _⟩
    · omega
    · cases e
      exact ⟨b, rfl, h3, (Array.getElem?_eq_some_iff.1 hb).1⟩
  subst hg
  have hlt1 : ∀ k, v1.ownBlock = some k → w.heap.size ≤ k ∧ k < w1.heap.size := fun k hk => o1.lt k hk
  have hs1 : w.heap.size ≤ w1.heap.size := b1.size
  have hmb : v1.ownBlock ≠ some w1.heap.size := by
    intro e
    have := (hlt1 _ e).2
    omega
  have A2 : w4.heap[w1.heap.size]? = some (.cells #[.int .i64 91, .int .i64 92, .int .i64 93, .string ⟨#[109, 97, 114, 107]⟩] 24 (0, 0)) := by
    rw [g2.block w1.heap.size (by simp; omega) (fun e => hmb e.symm)]
    rw [heap_alloc_old _ _ (by simp)]
    exact heap_alloc_new w1 _
  have hb4 : Below w.heap.size w w4 := by
    refine ((b1.alloc hs1 _).alloc (by simp; omega) _).grown g2 (by simp; omega) (fun k hk => (hlt1 k hk).1)
  refine ⟨g, cap, rfl, hcap, ?_, hb4, ?_, cell_of_row _ _ 0 _ _ (0, 0) A2, cell_of_row _ _ 1 _ _ (0, 0) A2, cell_of_row _ _ 2 _ _ (0, 0) A2, cell_of_row _ _ 3 _ _ (0, 0) A2, hgb, (Array.getElem?_eq_some_iff.1 A2).1⟩
  · have := ownsRow.jrow o2 (by omega)
    rw [hL] at this
    exact this
  · intro i hi
    have hc := (ownsRow_zero o2).cells (g := g) rfl
    have hlen := jCells_length ts
    rw [hL] at hlen
    have at_ : ∀ q u, mks[q]? = some u → w4.cell? ⟨g, LL * 4 + q, none⟩ = some u := by
      intro q u hq
      have := hc (LL * 4 + q) u (by rw [List.getElem?_append_right (by omega), hlen, Nat.add_sub_cancel_left]; exact hq)
      rw [add_plain, Nat.zero_add] at this
      exact this
    rcases (by omega : i = 0 ∨ i = 1) with rfl | rfl
    · exact ⟨at_ 0 _ rfl, at_ 1 _ rfl, at_ 2 _ rfl, at_ 3 _ rfl⟩
    · have e : ∀ q, (LL + 1) * 4 + q = LL * 4 + (4 + q) := fun q => by omega
      have e0 := e 0
      rw [Nat.add_zero] at e0
      rw [e 1, e 2, e 3, e0]
      exact ⟨at_ 4 _ rfl, at_ 5 _ rfl, at_ 6 _ rfl, at_ 7 _ rfl⟩
theorem wpList_append_jrow {w : World} {ops : Array Oper} {rest : List Oper} {o : Oper} {a : Act} {Q : Exit → Act → World → Prop} (hgd : o.guard = none) (s x : Operand)
    (ho : o.op = .call { callee := .builtin .append, args := #[s, x], argTypes := #[22, 22] })
    (a1 : Option Addr) (m c : Nat) (ts : List J) (hs : a.eval s = .slice none 0 0) (hx : a.eval x = .slice a1 m c) (hJ : JRow w (.slice a1 m c) ts) (hm : ts.length = m) (hl : m ≤ 268435456)
    (h : ∀ v1 w1, w1.ownsRow w.heap.size 24 4 v1 m (jCells ts) → Below w.heap.size w w1 → wpList Tryz.prog ops Q rest (a.put o.dst v1) w1) : wpList Tryz.prog ops Q (o :: rest) a w := by
  obtain ⟨i0, hi, hz0, hz1, hz2⟩ := info_parts infoTok
  have O0 := World.ownsRow_nil w w.heap.size 24 4
  have hcl := jCells_length ts
  rw [hm] at hcl
  cases a1 with
  | none =>
    have hz : ts = [] := by
      cases ts with
      | nil => rfl
      | cons t r =>
        obtain ⟨b, off, e, _⟩ := hJ.at_ (j := 0) (by simp)
        cases e
    subst hz
    have hm0 : m = 0 := by simpa using hm.symm
    subst hm0
    have hr : (Builtin.append_ #[22, 22] o.type #[.slice none 0 0, .slice none 0 c]).run Tryz.prog w = .ok (.slice none 0 0) w := by
      simp [Builtin.append_, run_underlying sliceTok, sizeOf, typeInfo, hi, Builtin.lenOf, Builtin.firstCells]
    refine wpList_plain hgd fun K hK => ?_
    unfold Oper.wp execOp
    simp only [ho, resolve, invoke, builtin, Sem.run_bind, Sem.run_pure, Result.andThen_ok, List.map_toArray, List.map_cons, List.map_nil, hs, hx, hr]
    exact hK _ _ (h _ _ O0 (Below.refl _ _))
  | some ad =>
    refine wpList_append_own _ hgd _ _ 22 ho w.heap.size 24 i0 (.agg #[.int .i64 0, .int .i64 0, .int .i64 0, .string ⟨#[]⟩]) 4 40 sliceTok hi hz0 hz1 hz2 rfl (by decide) _ _ _ hs O0 ad m c (jCells ts) hx hcl hJ.news (jCells_one ts) (by unfold maxLen; omega) (by omega) (Nat.le_refl _) ?_
    intro v1 w1 o1 g1 _
    rw [Nat.zero_add, List.nil_append] at o1
    exact h v1 w1 o1 ((Below.refl w.heap.size w).grown g1 (Nat.le_refl _) (fun g hg => (O0.lt g hg).1))
set_option maxRecDepth 100000 in
set_option maxHeartbeats 8000000 in
theorem scanJoins_calls (w : World) (hc : Cls w) (hr : Rsv w) (hm : Mx w) (v : Value) (ts : List J) (hv : JRow w v ts) (hl : jtot ts ≤ 268435456) :
    Calls Tryz.prog 3 #[v] w fun e w' => e = .returned (.bool true) ∧ Below w.heap.size w w' := by
  obtain ⟨i0, hi, hz0, hz1, hz2⟩ := info_parts infoTok
  have hjl : ts.length ≤ jtot ts := by
    clear hv hl
    induction ts with
    | nil => exact Nat.zero_le _
    | cons t r ih => simp only [List.length_cons, jtot]; omega
  obtain ⟨LL, hLL⟩ : ∃ n, ts.length = n := ⟨_, rfl⟩
  obtain ⟨a1, cp1, rfl, n1, n1'⟩ := hv.shape
  have qj := hide (fun W (h : Cls W) (h' : Mx W) g cap (h'' : JRow W (.slice (some ⟨g, 0, none⟩) LL cap) ts) => join_calls W h h' _ ts h'' (by omega))
  have qr := hide (fun W (h : Rsv W) (h'' : JRow W (.slice a1 ts.length cp1) ts) => rjoin_calls W h _ ts h'' hl)
  have qs := hide (fun W g cap (h : JRow W (.slice (some ⟨g, 0, none⟩) LL cap) ts) (h'' : JRow W (.slice a1 ts.length cp1) ts) => same_quiet W _ _ ts h h'' (by omega))
  generalize S.jn resv none (jk ts) = R at qj qr
  have t1 := hide hv
  rw [hLL] at n1 t1 qr qs hjl ⊢
  have hLh := hide hLL
  have hcH := hide hc
  have hmH := hide hm
  have hrH := hide hr
  unfold qv at qj qr
  have hml : LL ≤ 268435456 := by omega
  have O0 := World.ownsRow_nil w w.heap.size 24 4
  clear hv hLL hc hm hr hjl
  have new8 := hide (fun (w1 : World) => show ∀ (j : Nat) u, mks[j]? = some u → ((w1.alloc (.cells #[.int .i64 91, .int .i64 92, .int .i64 93, .string ⟨#[109, 97, 114, 107]⟩] 24)).alloc (.cells #[.int .i64 91, .int .i64 92, .int .i64 93, .string ⟨#[109, 97, 114, 107]⟩, .int .i64 91, .int .i64 92, .int .i64 93, .string ⟨#[109, 97, 114, 107]⟩] 24)).cell? ((⟨w1.heap.size + 1, 0, none⟩ : Addr).add j) = some u by
    have := new_cells (w1.alloc (.cells #[.int .i64 91, .int .i64 92, .int .i64 93, .string ⟨#[109, 97, 114, 107]⟩] 24)) #[.int .i64 91, .int .i64 92, .int .i64 93, .string ⟨#[109, 97, 114, 107]⟩, .int .i64 91, .int .i64 92, .int .i64 93, .string ⟨#[109, 97, 114, 107]⟩] 24
    rw [World.size_alloc] at this
    exact this)
  have ew : IntKind.i64.wrap ((LL : Int) + 1) = (LL : Int) + 1 := by rw [IntKind.wrap_i64]; omega
  have ei1 : (LL : Int) < (LL : Int) + 2 := by omega
  have ei2 : (LL : Int) + 1 < (LL : Int) + 2 := by omega
  have ei3 : (0 : Int) ≤ (LL : Int) + 1 := by omega
  have tk1 : Hid True := trivial
  go_enter Tryz.func3, Tryz.ntmps3
  go_wp2_with (first
    | (have y := tk1; clear y; at_builtin; (refine wpList_append_jrow rfl _ _ rfl a1 LL cp1 ts rfl rfl t1.out hLh.out hml ?_; intro v1 w1 o1 b1; replace b1 := hide b1; have A2 := heap_alloc_new w1 (.cells #[.int .i64 91, .int .i64 92, .int .i64 93, .string ⟨#[109, 97, 114, 107]⟩] 24); have c0 := cell_of_row _ _ 0 _ _ (0, 0) A2; have c1 := cell_of_row _ _ 1 _ _ (0, 0) A2; have c2 := cell_of_row _ _ 2 _ _ (0, 0) A2; have c3 := cell_of_row _ _ 3 _ _ (0, 0) A2; have hw1 := b1.out.size; replace o1 := hide o1; clear tk1 A2))
    | (at_builtin; (refine wpList_append_own _ rfl _ _ 22 rfl w.heap.size 24 i0 (.agg #[.int .i64 0, .int .i64 0, .int .i64 0, .string ⟨#[]⟩]) 4 40 sliceTok hi hz0 hz1 hz2 rfl (by decide) _ LL _ rfl ((o1.out.alloc _).alloc _) ⟨w1.heap.size + 1, 0, none⟩ 2 2 mks rfl rfl (new8.out w1) (by simp [mks, Value.oneCell']) (by unfold maxLen; omega) (by omega) (by simp; omega) ?_; intro v2 w4 o2 g2 _; obtain ⟨g, cap, e4, hcap, jr4, bw4, mk4, m0, m1, m2, m3, hg4, hmb4⟩ := full_of hLh.out b1.out o1.out o2 g2; subst e4; have sl := fun W => sl_tok g (LL + 2) cap LL (by omega) W; have hcap1 : (LL : Int) ≤ cap := (by omega); have q5 := hide (qj.out w4 (cls_below hcH.out bw4) (hmH.out.below bw4) g cap jr4); have jr4h := hide jr4; have mk4h := hide mk4; have bw4h := hide bw4; clear o1 o2 g2 b1 jr4 mk4 bw4 c0 c1 c2 c3))
    | (go_at_call 6; refine q5.out.mono ?_; rintro e w5 ⟨rfl, b5⟩; have B5 := hide (bw4h.out.then_below b5); have q6 := hide (qr.out w5 (hrH.out.below B5.out) (t1.out.below B5.out)); replace b5 := hide b5; clear q5)
    | (go_at_call 7; refine q6.out.mono ?_; rintro e w6 ⟨rfl, b6⟩; have b46 := b5.out.then_below b6; have B6 := hide (B5.out.then_below b6); have j6 := jr4h.out.below b46; have q7 := hide (fun n => qs.out (w6.drewN n) g cap (JRow.drewN j6 n) (JRow.drewN (t1.out.below B6.out) n)); obtain ⟨p0, p1, p2, p3⟩ := mk4h.out 0 (by decide); obtain ⟨r0, r1, r2, r3⟩ := mk4h.out 1 (by decide); rw [Nat.add_zero LL] at p0 p1 p2 p3; replace p0 := (b46.cell (p := ⟨g, _, none⟩) hg4).trans p0; replace p1 := (b46.cell (p := ⟨g, _, none⟩) hg4).trans p1; replace p2 := (b46.cell (p := ⟨g, _, none⟩) hg4).trans p2; replace p3 := (b46.cell (p := ⟨g, _, none⟩) hg4).trans p3; replace r0 := (b46.cell (p := ⟨g, _, none⟩) hg4).trans r0; replace r1 := (b46.cell (p := ⟨g, _, none⟩) hg4).trans r1; replace r2 := (b46.cell (p := ⟨g, _, none⟩) hg4).trans r2; replace r3 := (b46.cell (p := ⟨g, _, none⟩) hg4).trans r3; replace m0 := (b46.cell (p := ⟨w1.heap.size, _, none⟩) hmb4).trans m0; replace m1 := (b46.cell (p := ⟨w1.heap.size, _, none⟩) hmb4).trans m1; replace m2 := (b46.cell (p := ⟨w1.heap.size, _, none⟩) hmb4).trans m2; replace m3 := (b46.cell (p := ⟨w1.heap.size, _, none⟩) hmb4).trans m3; clear b46 j6 q6))
  go_quiet ((go_at_call 8; exact Calls.quiet_of (unhide q7 _)))
  go_wp2
  go_ret
  exact ⟨rfl, below_drewN B6.out _⟩
end Go.Proofs.YtigcakppnbfpkaaGreatDoor
