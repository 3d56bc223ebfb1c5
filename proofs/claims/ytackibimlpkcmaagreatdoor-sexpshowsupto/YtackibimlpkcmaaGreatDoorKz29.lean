/- Laid together of: RefToksM, RefToks, NodeAfter. -/
import Derived.Test.YtackibimlpkcmaaGreatDoorKz28
import Derived.Test.YtackibimlpkcmaaGreatDoorKz25
import Derived.Test.YtackibimlpkcmaaGreatDoorKz15
/- ==== RefToksM ==== -/
namespace Go.Proofs.YtackibimlpkcmaaGreatDoor
open Go.RowKit
set_option linter.unusedVariables false
def rt : List Nd → Nat → List Nat → List J
  | [], _, st => st.map (fun _ => clo)
  | x :: r, i, st => (pops i st).1 ++ (tokOf x :: rt r (i + 1) (if x.kind = 1 then (i + x.size.toNat) :: (pops i st).2 else (pops i st).2))
theorem pops_all (e : Nat) : ∀ st : List Nat, (∀ a ∈ st, a = e) → pops e st = (st.map (fun _ => clo), [])
  | [], _ => rfl
  | a :: st, h => by
    have h0 := h a List.mem_cons_self
    rw [pops, if_pos h0, pops_all e st (fun b hb => h b (List.mem_cons_of_mem _ hb))]
    rfl
/-- Within a block that ends at e both ways come to the same. -/
theorem rt_inner (e n : Nat) : ∀ (p q : List Nd) (i : Nat) (st : List Nat), i + p.length = e → Wi i e st → fo (p ++ q) i (st ++ [n]) = true → rt p i st = (pops i st).1 ++ tks p i (pops i st).2
  | [], q, i, st, h1, hw, _ => by
    have hi : i = e := by simpa using h1
    rw [rt, pops_all i st (fun a ha => by have := hw.2.2 a ha; omega), tks, List.append_nil]
  | x :: p, q, i, st0, h1, hw0, hf => by
    simp only [List.length_cons] at h1
    have hie : i < e := by omega
    obtain ⟨hw, hpop⟩ := wi_pops i e n hie st0 hw0
    rw [hpop] at hf
    rw [rt]
    generalize (pops i st0).1 = out at *
    generalize (pops i st0).2 = st at *
    obtain ⟨top, S', hst⟩ : ∃ top S', st = top :: S' := by
      cases st with
      | nil => have := hw.2.1; cases this
      | cons a b => exact ⟨a, b, rfl⟩
    have htop := hw.2.2 top (by rw [hst]; exact List.mem_cons_self)
    have hok : x.ok i top := by
      rw [List.cons_append, hst, List.cons_append] at hf
      by_cases h : x.ok i top
      · exact h
      · rw [fo_no (by omega) h] at hf
        cases hf
    obtain ⟨st2, e2, hw2, hf2⟩ : ∃ st2, (if x.kind = 1 then (i + x.size.toNat) :: st else st) = st2 ∧ Wi (i + 1) e st2 ∧ fo (p ++ q) (i + 1) (st2 ++ [n]) = true := by
      by_cases hk : x.kind = 1
      · have hsz : 1 ≤ x.size ∧ x.size ≤ (top : Int) - i := by
          rcases hok with ⟨_, _, a, b⟩ | ⟨a, _⟩
          · exact ⟨a, b⟩
          · exact absurd hk a
        refine ⟨_, if_pos hk, ⟨List.pairwise_cons.2 ⟨fun b hb => ?_, hw.1⟩, ?_, fun b hb => ?_⟩, ?_⟩
        · rw [hst] at hb
          have : top ≤ b := by
            rcases List.mem_cons.1 hb with rfl | hm
            · exact Nat.le_refl _
            · have hp := hw.1
              rw [hst] at hp
              exact (List.pairwise_cons.1 hp).1 b hm
          omega
        · have := hw.2.1
          rw [hst] at this ⊢
          rw [List.getLast?_cons_cons]
          exact this
        · rcases List.mem_cons.1 hb with rfl | hm
          · omega
          · exact hw.2.2 b hm
        · rw [hst, List.cons_append, List.cons_append]
          rw [hst, List.cons_append, List.cons_append, fo_open (by omega) hok hk] at hf
          exact hf
      · refine ⟨_, if_neg hk, hw, ?_⟩
        rw [hst, List.cons_append, List.cons_append, fo_atom (by omega) hok hk] at hf
        rw [hst, List.cons_append]
        exact hf
    rw [tks, e2, rt_inner e n p q (i + 1) st2 (by omega) hw2 hf2]
/-- An outermost expression: the document's tokens are the program's; and what stands behind it. -/
theorem rt_piece {ns : List Nd} (hS : Szs ns) {a : Nat} (ha : a < ns.length) (hf : fo (ns.drop a) a [ns.length] = true) :
    rt (piece ns a) a [] = lnt ns a ∧ fo (ns.drop (a + (ns.getD a Nd.z).size.toNat)) (a + (ns.getD a Nd.z).size.toNat) [ns.length] = true := by
  have hs := hS a ha
  have hpl := piece_length hS ha
  have hl : lnt ns a = tks (piece ns a) a [] := by
    unfold lnt
    have := tks_move a (piece ns a) 0 []
    rw [Nat.zero_add] at this
    exact this.symm
  rw [hl]
  obtain ⟨s, hsz⟩ : ∃ s, (ns.getD a Nd.z).size.toNat = s := ⟨_, rfl⟩
  rw [hsz] at hpl ⊢
  have hsplit : ns.drop a = piece ns a ++ ns.drop (a + s) := by
    unfold piece
    rw [hsz, ← List.drop_drop, List.take_append_drop]
  have hx : piece ns a = ns.getD a Nd.z :: (piece ns a).drop 1 := by
    have h0 := piece_at (ns := ns) (k := a) (j := 0) (by omega)
    cases hp : piece ns a with
    | nil => rw [hp] at hpl; simp at hpl; omega
    | cons y t =>
      rw [hp, Nat.add_zero, List.getD_cons_zero] at h0
      rw [h0]
      rfl
  rw [hsplit] at hf
  generalize ns.getD a Nd.z = x at *
  generalize piece ns a = pc at *
  rw [hx] at hf ⊢
  generalize pc.drop 1 = pr at *
  have hlen : a + 1 + pr.length = a + s := by rw [hx] at hpl; simp at hpl; omega
  have hok : x.ok a ns.length := by
    rw [List.cons_append] at hf
    by_cases h : x.ok a ns.length
    · exact h
    · rw [fo_no (by omega) h] at hf
      cases hf
  by_cases hk : x.kind = 1
  · rw [List.cons_append, fo_open (by omega) hok hk] at hf
    rw [rt, tks, if_pos hk, hsz]
    rw [hsz] at hf
    have hw : Wi (a + 1) (a + s) [a + s] := ⟨List.pairwise_singleton _ _, rfl, fun b hb => by rw [List.mem_singleton.1 hb]; omega⟩
    constructor
    · show [] ++ (tokOf x :: rt pr (a + 1) [a + s]) = _
      have ep : (if x.kind = 1 then [a + s] else ([] : List Nat)) = [a + s] := if_pos hk
      rw [rt_inner (a + s) ns.length pr (ns.drop (a + s)) (a + 1) [a + s] hlen hw hf, ep]
      rfl
    · by_cases h1s : s = 1
      · have hp : pr = [] := List.length_eq_zero_iff.1 (by omega)
        subst hp
        subst h1s
        rw [fo_pop] at hf
        exact hf
      · exact (tks_block (a + s) ns.length pr (ns.drop (a + s)) (a + 1) [a + s] (by omega) (by omega) ⟨List.pairwise_singleton _ _, rfl, fun b hb => by rw [List.mem_singleton.1 hb]; omega⟩ hf).2
  · have h1s : s = 1 := by
      rcases hok with ⟨h, _⟩ | ⟨_, _, _, h⟩
      · exact absurd h hk
      · omega
    have hp : pr = [] := List.length_eq_zero_iff.1 (by omega)
    subst hp
    subst h1s
    rw [List.cons_append, fo_atom (by omega) hok hk] at hf
    refine ⟨?_, hf⟩
    rw [rt, tks, if_neg hk]
    simp [pops, rt, tks, hk]
end Go.Proofs.YtackibimlpkcmaaGreatDoor
/- ==== RefToks ==== -/
namespace Go.Proofs.YtackibimlpkcmaaGreatDoor
open Go.RowKit
set_option linter.unusedVariables false
theorem rt_at {ns : List Nd} {k h : Nat} (hk : k < h) (hh : h ≤ ns.length) (st : List Nat) :
    rt ((ns.drop k).take (h - k)) k st = (pops k st).1 ++ (tokOf (ns.getD k Nd.z) :: rt ((ns.drop (k + 1)).take (h - (k + 1))) (k + 1) (if (ns.getD k Nd.z).kind = 1 then (k + (ns.getD k Nd.z).size.toNat) :: (pops k st).2 else (pops k st).2)) := by
  rw [nd_drop_cons (by omega : k < ns.length), show h - k = (h - (k + 1)) + 1 by omega, List.take_succ_cons, rt]
theorem rt_done {ns : List Nd} {k h : Nat} (hk : h ≤ k) (st : List Nat) : rt ((ns.drop k).take (h - k)) k st = st.map (fun _ => clo) := by
  rw [show h - k = 0 by omega, List.take_zero, rt]
set_option maxRecDepth 100000 in
set_option maxHeartbeats 16000000 in
theorem rtoks_calls (w : World) (B : Nat) (v : Value) (ns : List Nd) (h : Nds B w v ns) (hB : B ≤ w.heap.size) (hsz : ∀ j, j < ns.length → 0 ≤ (ns.getD j Nd.z).size ∧ (ns.getD j Nd.z).size ≤ 1099511627776) (hlen : ns.length ≤ 1073741824) (lo hh : Nat) (hlo : lo ≤ hh) (hhn : hh ≤ ns.length) :
    Calls Tryz.prog 23 #[v, .int .i64 (lo : Int), .int .i64 (hh : Int)] w fun e w' => ∃ u, e = .returned u ∧ JRow w' u (rt ((ns.drop lo).take (hh - lo)) lo []) ∧ Below w.heap.size w w' := by
  obtain ⟨i0, hi, hz0, hz1, hz2⟩ := info_parts infoTok
  obtain ⟨i1', hj, hy0, hy1, hy2⟩ := info_parts ndInfoInt
  have hN := hide h
  obtain ⟨a, cap, rfl, h1, h2, h3, h4⟩ := h
  clear h3 h4
  obtain ⟨R, hR⟩ : ∃ R, rt ((ns.drop lo).take (hh - lo)) lo [] = R := ⟨_, rfl⟩
  rw [hR]
  have R0 : Hid ([] ++ rt ((ns.drop lo).take (hh - lo)) lo [] = R) := hR
  have hszH := hide hsz
  clear hR hsz
  obtain ⟨n, hn⟩ : ∃ n, ns.length = n := ⟨_, rfl⟩
  rw [hn] at hN h1 h2 hlen hhn ⊢
  have hnH := hide hn
  clear hn
  go_enter Tryz.func23, Tryz.ntmps23
  go_upto_region 2 with (at_make; refine wpList_make_own _ rfl _ _ 36 rfl w.heap.size 61 i0 _ 4 sliceTok hi hz0 hz1 .i64 .i64 _ 0 rfl rfl (by omega) (by omega) (by unfold maxLen; omega) (Nat.le_refl _) ?_; intro w1 hown0 hgrow0; have B1 : Hid (Below w.heap.size w w1) := (Below.refl _ w).grown hgrow0 (Nat.le_refl _) (by simp); have O1 : Hid (OwnJ w.heap.size w1 _ []) := hown0; clear hown0 hgrow0)
  go_upto_region 3 with (at_make; refine wpList_make_own _ rfl _ _ 59 rfl w.heap.size 3 i1' (.int .i64 0) 1 ndSliceInt hj hy0 hy1 .i64 .i64 _ 0 rfl rfl (by omega) (by omega) (by unfold maxLen; omega) (by have := B1.out.size; omega) ?_; intro w2 hown0 hgrow0; have B2 : Hid (Below w.heap.size w w2) := B1.out.grown hgrow0 (by have := B1.out.size; omega) (by simp); have O2 : Hid (OwnJ w.heap.size w2 _ []) := O1.out.kept hgrow0 (.inr (by simp [Value.ownBlock])); have K2 : Hid (OwnK w.heap.size w2 _ []) := hown0; clear hown0 hgrow0)
  go_wp2_with fail
  go_loopw [7, 8, 9] (fun v u j wr => ∃ (k : Nat) (acc : List J) (st : List Nat), lo ≤ k ∧ k ≤ hh ∧ j = .int .i64 k ∧ Hid (acc ++ rt ((ns.drop k).take (hh - k)) k st = R) ∧ Hid (acc.length + st.length ≤ 2 * (k - lo)) ∧ Hid (OwnJ w.heap.size wr v acc) ∧ Hid (OwnK w.heap.size wr u st) ∧ Hid (Below w.heap.size w wr)) (fun _ _ j _ => hh - (intOf j).toNat)
  case atStart => exact ⟨lo, [], [], Nat.le_refl _, hlo, rfl, R0, Nat.zero_le _, O2, K2, B2⟩
  case round =>
    clear R0 O2 K2 B2 O1 B1
    obtain ⟨k, acc, st, hlk, hk, rfl, hRk, hal, hJ, hK, hB'⟩ := hrel
    by_cases hlt : k < hh
    · have hkl : k < ns.length := by rw [hnH.out]; omega
      have hR1 := hRk.out
      rw [rt_at hlt (by rw [hnH.out]; exact hhn)] at hR1
      have hsz1 := hszH.out k hkl
      obtain ⟨rest, hrest⟩ : ∃ rest, rt ((ns.drop (k + 1)).take (hh - (k + 1))) (k + 1) = rest := ⟨_, rfl⟩
      rw [hrest] at hR1
      replace hrest := hide hrest
      obtain ⟨x, hx⟩ : ∃ x, ns.getD k Nd.z = x := ⟨_, rfl⟩
      rw [hx] at hR1 hsz1
      have hxh := hide hx
      clear hx
      obtain ⟨kd, xp, xf, sz, tx⟩ := x
      simp only at hR1 hsz1
      obtain ⟨z, rfl⟩ : ∃ z : Nat, sz = z := ⟨sz.toNat, by omega⟩
      rw [Int.toNat_natCast] at hR1
      replace hR1 := hide hR1
      have i0' : (0 : Int) ≤ (k : Int) := by omega
      have i1 : (k : Int) < (hh : Int) := by omega
      have i2 : (k : Int) < (n : Int) := by omega
      go_wp2_with fail
      go_loopw [7, 8] (fun v u wx => ∃ (acc : List J) (st : List Nat), Hid (acc ++ ((pops k st).1 ++ (tokOf ⟨kd, xp, xf, z, tx⟩ :: rest (if kd = 1 then (k + z) :: (pops k st).2 else (pops k st).2))) = R) ∧ Hid (acc.length + st.length ≤ 2 * (k - lo)) ∧ Hid (OwnJ w.heap.size wx v acc) ∧ Hid (OwnK w.heap.size wx u st) ∧ Hid (Below w.heap.size w wx)) (fun _ u _ => lenOf u)
      case atStart => exact ⟨acc, st, hR1, hal, hJ, hK, hB'⟩
      case round =>
        clear hR1 hal hJ hK hB' hRk
        obtain ⟨acc2, st2, hR2, hal2, hJx, hKx, hBx⟩ := hrel
        have hwx : w.heap.size ≤ wr.heap.size := hBx.out.size
        obtain ⟨va2, vc2, hv2⟩ := own_shape (ownsRow_zero hJx.out)
        subst hv2
        have hal3 := hal2.out
        obtain ⟨L2, hL2⟩ : ∃ L, acc2.length = L := ⟨_, rfl⟩
        rw [hL2] at hal3
        have hJ3 := hJx.out
        unfold OwnJ at hJ3
        rw [hL2] at hJ3 hJx ⊢
        replace hJ3 := hide hJ3
        have hL2h := hide hL2
        clear hL2
        cases st2 with
        | nil =>
          have hR3 : Hid (acc2 ++ (tokOf ⟨kd, xp, xf, z, tx⟩ :: rest (if kd = 1 then (k + z) :: [] else [])) = R) := hR2
          clear hR2
          have hNw := hN.out.below (hBx.out.mono hB)
          obtain ⟨b, off, rfl, hb, c0, c1, c2, c3, c4⟩ := hNw.at_ hkl
          rw [hxh.out] at c0 c1 c2 c3 c4
          simp only at c0 c1 c2 c3 c4
          clear hNw c1 c2
          have ap1 := hide (oj_apart hJx.out hKx.out)
          have ap2 := hide (oj_apart' hJx.out hKx.out)
          obtain ⟨ua2, uc2, hu2⟩ : ∃ a c, u8 = .slice a 0 c := own_shape (ownsRow_zero hKx.out)
          subst hu2
          have hK3 : Hid (wr.ownsRow w.heap.size 3 1 (.slice ua2 0 uc2) 0 (([] : List Nat).reverse.map fun n : Nat => .int .i64 (n : Int))) := hKx.out
          have hM2h : Hid (([] : List Nat).length = 0) := rfl
          have hal4 : L2 + 0 ≤ 2 * (k - lo) := hal3
          have hwb : b < w.heap.size := by omega
          by_cases hk1 : kd = 1
          · subst hk1
            have hR4 : Hid ((acc2 ++ [⟨1, 0, 0, [40]⟩]) ++ rest ((k + z) :: []) = R) := by
              have := hR3.out
              rw [if_pos rfl] at this
              show _ = _
              rw [← this]
              simp [tokOf]
            have ew : IntKind.i64.wrap ((k : Int) + z) = (k : Int) + z := by rw [IntKind.wrap_i64]; omega
            clear hR3 c4
            go_upto_region 11 with (at_builtin; (refine wpList_append_own _ rfl _ _ 36 rfl w.heap.size 61 i0 (.agg #[.int .i64 0, .int .i64 0, .int .i64 0, .string ⟨#[]⟩]) 4 40 sliceTok hi hz0 hz1 hz2 rfl (by decide) _ L2 _ rfl (hJ3.out.alloc _) ⟨wr.heap.size, 0, none⟩ 1 1 [.int .i64 1, .int .i64 0, .int .i64 0, .string ⟨#[40]⟩] rfl rfl (four_new _ _ _ _ _ _) (by simp [Value.oneCell']) (by unfold maxLen; omega) (by omega) (by simp; omega) ?_; intro v4 w4 o4 g4 _; replace o4 := hide o4; replace g4 := hide g4))
            have Bq : Below w.heap.size wr w4 := ((Below.refl _ wr).alloc hwx _).grown g4.out (by simp; omega) (fun g hg => (hJ3.out.lt g hg).1)
            have c3' := (Bq.cell (p := ⟨b, off + k * 5 + 3, none⟩) hwb).trans c3
            have J4 := hide (OwnJ.snoc (x := ⟨1, 0, 0, [40]⟩) hL2h.out o4.out)
            have K4 : Hid (w4.ownsRow w.heap.size 3 1 (.slice ua2 0 uc2) 0 (([] : List Nat).reverse.map fun n : Nat => .int .i64 (n : Int))) := (hK3.out.alloc _).kept g4.out ap2.out
            have B4 := hide (hBx.out.trans Bq)
            have s4 : w.heap.size ≤ w4.heap.size := B4.out.size
            obtain ⟨a4, k4, rfl⟩ := own_shape (ownsRow_zero J4.out)
            clear Bq c0 c3 o4 g4 hJ3
            go_upto_region 5 with (at_builtin; (refine wpList_append_own _ rfl _ _ 59 rfl w.heap.size 3 i1' (.int .i64 0) 1 8 ndSliceInt hj hy0 hy1 hy2 rfl (by decide) _ 0 _ rfl (K4.out.alloc _) ⟨w4.heap.size, 0, none⟩ 1 1 [.int .i64 ((k : Int) + z)] rfl rfl (cell_one_new _ _ _) (by simp [Value.oneCell']) (by unfold maxLen; omega) (by omega) (by simp; omega) ?_; intro u5 w5 o5 g5 _; replace o5 := hide o5; replace g5 := hide g5))
            have o5' : w5.ownsRow w.heap.size 3 1 u5 (0 + 1) ((([] : List Nat).reverse.map fun n : Nat => .int .i64 (n : Int)) ++ [.int .i64 ((k + z : Nat) : Int)]) := by
              rw [Int.natCast_add]
              exact o5.out
            have K5 := hide (OwnK.push hM2h.out o5')
            have K4' : OwnK w.heap.size w4 (.slice ua2 0 uc2) ([]) := by unfold OwnK; rw [hM2h.out]; exact K4.out
            have J5 : Hid (OwnJ w.heap.size w5 _ (acc2 ++ [(⟨1, 0, 0, [40]⟩ : J)])) := (World.ownsRow.alloc J4.out _).kept g5.out (oj_apart J4.out K4')
            have J5' : Hid (OwnJ w.heap.size w5 (.slice a4 (acc2.length + 1) k4) (acc2 ++ [(⟨1, 0, 0, [40]⟩ : J)])) := by
              have := J5
              rw [List.length_append] at this
              exact this
            have B5 := hide ((B4.out.alloc s4 _).grown g5.out (by simp; omega) (fun g hg => (K4.out.lt g hg).1))
            have hl5 : Hid ((acc2 ++ [(⟨1, 0, 0, [40]⟩ : J)]).length + ((k + z) :: ([] : List Nat)).length ≤ 2 * (k + 1 - lo)) := by
              show _ ≤ _
              have h1 := hL2h.out
              have h2 := hM2h.out
              simp only [List.length_append, List.length_cons, List.length_nil] at h2 ⊢
              omega
            go_wp2_with fail
            go_roundw
            case rel => exact ⟨k + 1, _, _, by omega, by omega, by go_num, (by rw [hrest.out]; exact hR4), hl5, J5', K5, B5⟩
            case measure => simp [intOf]; omega
          · have hR4 : Hid ((acc2 ++ [⟨kd, 0, 0, tx.data.toList⟩]) ++ rest ([]) = R) := by
              have := hR3.out
              rw [if_neg hk1] at this
              show _ = _
              rw [← this]
              simp [tokOf, hk1]
            have hk1' : ¬ kd = 1 := hk1
            have HT : Hid ((wr.alloc (.cells #[.int .i64 kd, .int .i64 0, .int .i64 0, .string tx] 61)).drew.ownsRow w.heap.size 61 4 (.slice va2 L2 vc2) L2 (jCells acc2)) := World.ownsRow.alloc hJ3.out _
            have HX : Hid (∀ j u, ([.int .i64 kd, .int .i64 0, .int .i64 0, .string tx] : List Value)[j]? = some u → (wr.alloc (.cells #[.int .i64 kd, .int .i64 0, .int .i64 0, .string tx] 61)).drew.cell? ((⟨wr.heap.size, 0, none⟩ : Addr).add j) = some u) := four_new wr _ _ _ _ _
            clear hR3 c3 hk1
            go_upto_region 12 with fail
            go_region_law (refine step_append_mine rfl (.tmp 61) (.tmp 73) 36 rfl w.heap.size 61 i0 (.agg #[.int .i64 0, .int .i64 0, .int .i64 0, .string ⟨#[]⟩]) 4 40 sliceTok hi hz0 hz1 hz2 rfl (by decide) (.slice va2 L2 vc2) L2 (jCells acc2) (by simp [Act.eval]) HT.out ⟨wr.heap.size, 0, none⟩ 1 1 [.int .i64 kd, .int .i64 0, .int .i64 0, .string tx] (by simp [Act.eval]) rfl HX.out (by simp [Value.oneCell']) (by unfold maxLen; omega) (by omega) (by simp; omega) ?_; intro v4 w4 o4 g4 m4; replace o4 := hide o4; replace g4 := hide g4; clear m4)
            all_goals
              have J4 : Hid (OwnJ w.heap.size w4 v4 (acc2 ++ [⟨kd, 0, 0, tx.data.toList⟩])) := OwnJ.snoc (x := ⟨kd, 0, 0, tx.data.toList⟩) hL2h.out (by
                have e : jCell ⟨kd, 0, 0, tx.data.toList⟩ = [.int .i64 kd, .int .i64 0, .int .i64 0, .string tx] := by simp [jCell]
                rw [e]
                exact o4.out)
              have K4 : Hid (OwnK w.heap.size w4 (.slice ua2 0 uc2) ([])) := by
                have := (World.ownsRow.alloc hK3.out (.cells #[.int .i64 kd, .int .i64 0, .int .i64 0, .string tx] 61)).drew.kept g4.out ap2.out
                unfold OwnK
                rw [hM2h.out]
                exact this
              have B4 := hide ((hBx.out.alloc hwx _).drew.grown g4.out (by simp; omega) (fun g hg => (HT.out.lt g hg).1))
              have hl4 : Hid ((acc2 ++ [(⟨kd, 0, 0, tx.data.toList⟩ : J)]).length + ([] : List Nat).length ≤ 2 * (k + 1 - lo)) := by
                show _ ≤ _
                have h1 := hL2h.out
                have h2 := hM2h.out
                simp only [List.length_append, List.length_cons, List.length_nil] at h2 ⊢
                omega
              go_wp2_with fail
              go_roundw
              case rel => exact ⟨k + 1, _, _, by omega, by omega, by go_num, (by rw [hrest.out]; exact hR4), hl4, J4, K4, B4⟩
              case measure => simp [intOf]; omega
        | cons top T =>
          by_cases htk : top = k
          · subst htk
            obtain ⟨gk, kc, ek, q1, q2, q3, q4, ctop, kpop, clast⟩ := hKx.out.top
            subst ek
            obtain ⟨Q, hQ⟩ : ∃ Q, T.length = Q := ⟨_, rfl⟩
            have hal4 := hal3
            rw [List.length_cons, hQ] at hal4
            rw [hQ] at q1 ctop kpop ⊢
            have hwr2 : IntKind.i64.wrap ((Q : Int) + 1 - 1) = (Q : Int) := by rw [IntKind.wrap_i64]; omega
            have hwr5 : (0 : Int) < (Q : Int) + 1 := by omega
            have hwr6 : (Q : Int) < (Q : Int) + 1 := by omega
            have hQh := hide hQ
            clear hQ clast
            have hR3 : Hid ((acc2 ++ [clo]) ++ ((pops top T).1 ++ (tokOf ⟨kd, xp, xf, z, tx⟩ :: rest (if kd = 1 then (top + z) :: (pops top T).2 else (pops top T).2))) = R) := by
              have := hR2.out
              rw [pops, if_pos rfl] at this
              show _ = _
              rw [← this]
              simp
            have hap2 : (Value.slice va2 L2 vc2).ownBlock = none ∨ (Value.slice va2 L2 vc2).ownBlock ≠ some gk := oj_apart hJx.out hKx.out
            have hap3 : (Value.slice (some ⟨gk, 0, none⟩) Q kc).ownBlock = none ∨ (Value.slice (some ⟨gk, 0, none⟩) Q kc).ownBlock ≠ (Value.slice va2 L2 vc2).ownBlock := by
              right
              rcases hap2 with e | e
              · rw [e]
                simp [Value.ownBlock]
              · exact fun h => e h.symm
            have kpopH := hide kpop
            have hap3h := hide hap3
            have hq1 : (Q : Int) ≤ kc := by omega
            clear kpop hap2 hap3
            go_wp2_with (at_builtin; (refine wpList_append_own _ rfl _ _ 36 rfl w.heap.size 61 i0 (.agg #[.int .i64 0, .int .i64 0, .int .i64 0, .string ⟨#[]⟩]) 4 40 sliceTok hi hz0 hz1 hz2 rfl (by decide) _ L2 _ rfl (hJ3.out.alloc _) ⟨wr.heap.size, 0, none⟩ 1 1 [.int .i64 2, .int .i64 0, .int .i64 0, .string ⟨#[41]⟩] rfl rfl (four_new _ _ _ _ _ _) (by simp [Value.oneCell']) (by unfold maxLen; omega) (by omega) (by simp; omega) ?_; intro v4 w4 o4 g4 _; replace o4 := hide o4; replace g4 := hide g4))
            go_roundw
            case rel => exact ⟨acc2 ++ [clo], T, hR3, (by show _ ≤ _; have h1 := hL2h.out; have h2 := hQh.out; simp only [List.length_append, List.length_cons, List.length_nil]; omega), OwnJ.snoc (x := clo) hL2h.out o4.out, (World.ownsRow.alloc kpopH.out _).kept g4.out hap3h.out, (hBx.out.alloc hwx _).grown g4.out (by simp; omega) (fun g hg => (hJ3.out.lt g hg).1)⟩
            case measure => simp [lenOf]
          · have hR3 : Hid (acc2 ++ (tokOf ⟨kd, xp, xf, z, tx⟩ :: rest (if kd = 1 then (k + z) :: (top :: T) else (top :: T))) = R) := by
              have := hR2.out
              rw [pops, if_neg htk] at this
              exact this
            have htk1 : ¬ (top : Int) = (k : Int) := by omega
            have htk2 : ((top : Int) == (k : Int)) = false := by simpa using htk1
            clear hR2
            have hNw := hN.out.below (hBx.out.mono hB)
            obtain ⟨b, off, rfl, hb, c0, c1, c2, c3, c4⟩ := hNw.at_ hkl
            rw [hxh.out] at c0 c1 c2 c3 c4
            simp only at c0 c1 c2 c3 c4
            clear hNw c1 c2
            have ap1 := hide (oj_apart hJx.out hKx.out)
            have ap2 := hide (oj_apart' hJx.out hKx.out)
            obtain ⟨ua0, uc2, ek, q1, q2, q3, q4, ctop, -, -⟩ := hKx.out.top
            subst ek
            have hwr2 : IntKind.i64.wrap ((T.length : Int) + 1 - 1) = (T.length : Int) := by rw [IntKind.wrap_i64]; omega
            have hwr5 : (0 : Int) < (T.length : Int) + 1 := by omega
            have hwr6 : (T.length : Int) < (T.length : Int) + 1 := by omega
            have hK3 : Hid (wr.ownsRow w.heap.size 3 1 (.slice (some ⟨ua0, 0, none⟩) (T.length + 1) uc2) (T.length + 1) ((top :: T : List Nat).reverse.map fun n : Nat => .int .i64 (n : Int))) := hKx.out
            have hM2h : Hid ((top :: T : List Nat).length = (T.length + 1)) := rfl
            have hal4 : L2 + (T.length + 1) ≤ 2 * (k - lo) := hal3
            have hwb : b < w.heap.size := by omega
            by_cases hk1 : kd = 1
            · subst hk1
              have hR4 : Hid ((acc2 ++ [⟨1, 0, 0, [40]⟩]) ++ rest ((k + z) :: top :: T) = R) := by
                have := hR3.out
                rw [if_pos rfl] at this
                show _ = _
                rw [← this]
                simp [tokOf]
              have ew : IntKind.i64.wrap ((k : Int) + z) = (k : Int) + z := by rw [IntKind.wrap_i64]; omega
              clear hR3 c4
              go_upto_region 11 with (at_builtin; (refine wpList_append_own _ rfl _ _ 36 rfl w.heap.size 61 i0 (.agg #[.int .i64 0, .int .i64 0, .int .i64 0, .string ⟨#[]⟩]) 4 40 sliceTok hi hz0 hz1 hz2 rfl (by decide) _ L2 _ rfl (hJ3.out.alloc _) ⟨wr.heap.size, 0, none⟩ 1 1 [.int .i64 1, .int .i64 0, .int .i64 0, .string ⟨#[40]⟩] rfl rfl (four_new _ _ _ _ _ _) (by simp [Value.oneCell']) (by unfold maxLen; omega) (by omega) (by simp; omega) ?_; intro v4 w4 o4 g4 _; replace o4 := hide o4; replace g4 := hide g4))
              have Bq : Below w.heap.size wr w4 := ((Below.refl _ wr).alloc hwx _).grown g4.out (by simp; omega) (fun g hg => (hJ3.out.lt g hg).1)
              have c3' := (Bq.cell (p := ⟨b, off + k * 5 + 3, none⟩) hwb).trans c3
              have J4 := hide (OwnJ.snoc (x := ⟨1, 0, 0, [40]⟩) hL2h.out o4.out)
              have K4 : Hid (w4.ownsRow w.heap.size 3 1 (.slice (some ⟨ua0, 0, none⟩) (T.length + 1) uc2) (T.length + 1) ((top :: T : List Nat).reverse.map fun n : Nat => .int .i64 (n : Int))) := (hK3.out.alloc _).kept g4.out ap2.out
              have B4 := hide (hBx.out.trans Bq)
              have s4 : w.heap.size ≤ w4.heap.size := B4.out.size
              obtain ⟨a4, k4, rfl⟩ := own_shape (ownsRow_zero J4.out)
              clear Bq c0 c3 o4 g4 hJ3
              go_upto_region 5 with (at_builtin; (refine wpList_append_own _ rfl _ _ 59 rfl w.heap.size 3 i1' (.int .i64 0) 1 8 ndSliceInt hj hy0 hy1 hy2 rfl (by decide) _ (T.length + 1) _ rfl (K4.out.alloc _) ⟨w4.heap.size, 0, none⟩ 1 1 [.int .i64 ((k : Int) + z)] rfl rfl (cell_one_new _ _ _) (by simp [Value.oneCell']) (by unfold maxLen; omega) (by omega) (by simp; omega) ?_; intro u5 w5 o5 g5 _; replace o5 := hide o5; replace g5 := hide g5))
              have o5' : w5.ownsRow w.heap.size 3 1 u5 ((T.length + 1) + 1) (((top :: T : List Nat).reverse.map fun n : Nat => .int .i64 (n : Int)) ++ [.int .i64 ((k + z : Nat) : Int)]) := by
                rw [Int.natCast_add]
                exact o5.out
              have K5 := hide (OwnK.push hM2h.out o5')
              have K4' : OwnK w.heap.size w4 (.slice (some ⟨ua0, 0, none⟩) (T.length + 1) uc2) (top :: T) := by unfold OwnK; rw [hM2h.out]; exact K4.out
              have J5 : Hid (OwnJ w.heap.size w5 _ (acc2 ++ [(⟨1, 0, 0, [40]⟩ : J)])) := (World.ownsRow.alloc J4.out _).kept g5.out (oj_apart J4.out K4')
              have J5' : Hid (OwnJ w.heap.size w5 (.slice a4 (acc2.length + 1) k4) (acc2 ++ [(⟨1, 0, 0, [40]⟩ : J)])) := by
                have := J5
                rw [List.length_append] at this
                exact this
              have B5 := hide ((B4.out.alloc s4 _).grown g5.out (by simp; omega) (fun g hg => (K4.out.lt g hg).1))
              have hl5 : Hid ((acc2 ++ [(⟨1, 0, 0, [40]⟩ : J)]).length + ((k + z) :: (top :: T : List Nat)).length ≤ 2 * (k + 1 - lo)) := by
                show _ ≤ _
                have h1 := hL2h.out
                have h2 := hM2h.out
                simp only [List.length_append, List.length_cons, List.length_nil] at h2 ⊢
                omega
              go_wp2_with fail
              go_roundw
              case rel => exact ⟨k + 1, _, _, by omega, by omega, by go_num, (by rw [hrest.out]; exact hR4), hl5, J5', K5, B5⟩
              case measure => simp [intOf]; omega
            · have hR4 : Hid ((acc2 ++ [⟨kd, 0, 0, tx.data.toList⟩]) ++ rest (top :: T) = R) := by
                have := hR3.out
                rw [if_neg hk1] at this
                show _ = _
                rw [← this]
                simp [tokOf, hk1]
              have hk1' : ¬ kd = 1 := hk1
              have HT : Hid ((wr.alloc (.cells #[.int .i64 kd, .int .i64 0, .int .i64 0, .string tx] 61)).drew.ownsRow w.heap.size 61 4 (.slice va2 L2 vc2) L2 (jCells acc2)) := World.ownsRow.alloc hJ3.out _
              have HX : Hid (∀ j u, ([.int .i64 kd, .int .i64 0, .int .i64 0, .string tx] : List Value)[j]? = some u → (wr.alloc (.cells #[.int .i64 kd, .int .i64 0, .int .i64 0, .string tx] 61)).drew.cell? ((⟨wr.heap.size, 0, none⟩ : Addr).add j) = some u) := four_new wr _ _ _ _ _
              clear hR3 c3 hk1
              go_upto_region 12 with fail
              go_region_law (refine step_append_mine rfl (.tmp 61) (.tmp 73) 36 rfl w.heap.size 61 i0 (.agg #[.int .i64 0, .int .i64 0, .int .i64 0, .string ⟨#[]⟩]) 4 40 sliceTok hi hz0 hz1 hz2 rfl (by decide) (.slice va2 L2 vc2) L2 (jCells acc2) (by simp [Act.eval]) HT.out ⟨wr.heap.size, 0, none⟩ 1 1 [.int .i64 kd, .int .i64 0, .int .i64 0, .string tx] (by simp [Act.eval]) rfl HX.out (by simp [Value.oneCell']) (by unfold maxLen; omega) (by omega) (by simp; omega) ?_; intro v4 w4 o4 g4 m4; replace o4 := hide o4; replace g4 := hide g4; clear m4)
              all_goals
                have J4 : Hid (OwnJ w.heap.size w4 v4 (acc2 ++ [⟨kd, 0, 0, tx.data.toList⟩])) := OwnJ.snoc (x := ⟨kd, 0, 0, tx.data.toList⟩) hL2h.out (by
                  have e : jCell ⟨kd, 0, 0, tx.data.toList⟩ = [.int .i64 kd, .int .i64 0, .int .i64 0, .string tx] := by simp [jCell]
                  rw [e]
                  exact o4.out)
                have K4 : Hid (OwnK w.heap.size w4 (.slice (some ⟨ua0, 0, none⟩) (T.length + 1) uc2) (top :: T)) := by
                  have := (World.ownsRow.alloc hK3.out (.cells #[.int .i64 kd, .int .i64 0, .int .i64 0, .string tx] 61)).drew.kept g4.out ap2.out
                  unfold OwnK
                  rw [hM2h.out]
                  exact this
                have B4 := hide ((hBx.out.alloc hwx _).drew.grown g4.out (by simp; omega) (fun g hg => (HT.out.lt g hg).1))
                have hl4 : Hid ((acc2 ++ [(⟨kd, 0, 0, tx.data.toList⟩ : J)]).length + (top :: T : List Nat).length ≤ 2 * (k + 1 - lo)) := by
                  show _ ≤ _
                  have h1 := hL2h.out
                  have h2 := hM2h.out
                  simp only [List.length_append, List.length_cons, List.length_nil] at h2 ⊢
                  omega
                go_wp2_with fail
                go_roundw
                case rel => exact ⟨k + 1, _, _, by omega, by omega, by go_num, (by rw [hrest.out]; exact hR4), hl4, J4, K4, B4⟩
                case measure => simp [intOf]; omega
    · obtain rfl : k = hh := by omega
      have hR1 := hRk.out
      rw [rt_done (Nat.le_refl _), List.map_const'] at hR1
      have hal' := hal.out
      obtain ⟨ua, uc, hu⟩ := own_shape (ownsRow_zero hK.out)
      subst hu
      obtain ⟨M, hM⟩ : ∃ M, st.length = M := ⟨_, rfl⟩
      rw [hM] at hR1 hal' ⊢
      obtain ⟨L, hL⟩ : ∃ L, acc.length = L := ⟨_, rfl⟩
      rw [hL] at hal'
      have hLh := hide hL
      replace hR1 := hide hR1
      have J0 : Hid (OwnJ w.heap.size wr u7 (acc ++ List.replicate 0 clo)) := by show OwnJ _ _ _ _; rw [List.replicate_zero, List.append_nil]; exact hJ.out
      clear hM hL hRk hal hK hJ
      have i1 : ¬ (k : Int) < (k : Int) := by omega
      go_wp2_with fail
      go_loopw [7, 10] (fun v i wx => ∃ q : Nat, i = .int .i64 q ∧ q ≤ M ∧ Hid (OwnJ w.heap.size wx v (acc ++ List.replicate q clo)) ∧ Hid (Below w.heap.size w wx)) (fun _ i _ => M - (intOf i).toNat)
      case atStart => exact ⟨0, rfl, Nat.zero_le _, J0, hB'⟩
      case round =>
        clear J0 hB'
        obtain ⟨q, rfl, hq, JJ, BB⟩ := hrel
        have hwx := BB.out.size
        obtain ⟨va2, vc2, hv2⟩ := own_shape (ownsRow_zero JJ.out)
        have hl2 : (acc ++ List.replicate q clo).length = L + q := by rw [List.length_append, List.length_replicate, hLh.out]
        rw [hl2] at hv2
        subst hv2
        have J3 := JJ.out
        unfold OwnJ at J3
        rw [hl2] at J3
        replace J3 := hide J3
        by_cases hlq : q < M
        · have e : Hid (acc ++ List.replicate (q + 1) clo = (acc ++ List.replicate q clo) ++ [clo]) := by show _ = _; rw [List.replicate_succ', List.append_assoc]
          have i2 : (q : Int) < (M : Int) := by omega
          go_wp2_with (at_builtin; (refine wpList_append_own _ rfl _ _ 36 rfl w.heap.size 61 i0 (.agg #[.int .i64 0, .int .i64 0, .int .i64 0, .string ⟨#[]⟩]) 4 40 sliceTok hi hz0 hz1 hz2 rfl (by decide) _ (L + q) _ rfl (J3.out.alloc _) ⟨wr.heap.size, 0, none⟩ 1 1 [.int .i64 2, .int .i64 0, .int .i64 0, .string ⟨#[41]⟩] rfl rfl (four_new _ _ _ _ _ _) (by simp [Value.oneCell']) (by unfold maxLen; omega) (by omega) (by simp; omega) ?_; intro v4 w4 o4 g4 _; replace o4 := hide o4; replace g4 := hide g4))
          go_roundw
          case rel => exact ⟨q + 1, by go_num, by omega, (by show OwnJ _ _ _ _; rw [e.out]; exact OwnJ.snoc (x := clo) hl2 o4.out), (BB.out.alloc hwx _).grown g4.out (by simp; omega) (fun g hg => (J3.out.lt g hg).1)⟩
          case measure => simp [intOf]; omega
        · obtain rfl : q = M := by omega
          have hJr : Hid (JRow wr (.slice va2 (L + q) vc2) R) := by
            rw [← hR1.out]
            exact JJ.out.jrow
          have i2 : ¬ (q : Int) < (q : Int) := by omega
          go_wp2_with fail
          go_ret
          exact ⟨_, rfl, hJr.out, BB.out⟩
end Go.Proofs.YtackibimlpkcmaaGreatDoor
/- ==== NodeAfter ==== -/
namespace Go.Proofs.YtackibimlpkcmaaGreatDoor
open Go.RowKit
set_option linter.unusedVariables false
set_option maxRecDepth 100000 in
set_option maxHeartbeats 1600000 in
theorem after_calls (w : World) (B : Nat) (v : Value) (ns : List Nd) (h : Nds B w v ns) (i : Nat) (hi : i < ns.length) (top : Nat) (htop : top ≤ ns.length) :
    Calls Tryz.prog 33 #[v, .int .i64 i, .int .i64 top] w fun e w' =>
      (((ns.getD i Nd.z).ok i top ∧ e = .returned (.int .i64 (i + (ns.getD i Nd.z).size))) ∨ (¬ (ns.getD i Nd.z).ok i top ∧ e = .returned (.int .i64 (-1)))) ∧ Below w.heap.size w w' := by
  have hne : ns ≠ [] := by intro e; rw [e] at hi; simp at hi
  obtain ⟨a, cap, rfl, h1, h2, h3, h4⟩ := h
  obtain ⟨b, off, rfl, hb, hc⟩ := h4 hne
  obtain ⟨c0, c1, c2, c3, c4⟩ := hc i hi
  clear hc h4 h3 hne
  generalize ns.getD i Nd.z = x at *
  generalize ns.length = n at *
  obtain ⟨kd, ps, fn, sz, tx⟩ := x
  by_cases hk : kd = 1
  · subst hk
    by_cases ht : tx.toList = []
    · have ht2 := ht
      by_cases hs1 : sz < 1
      · have hs2 := hs1
        have hno : Hid (¬ Nd.ok ⟨1, ps, fn, sz, tx⟩ i top) := by simp [Hid, Nd.ok, *]; try omega
        go_enter Tryz.func33, Tryz.ntmps33
        go_wp2
        go_ret
        exact ⟨Or.inr ⟨hno.out, rfl⟩, (Below.refl _ w).alloc (Nat.le_refl _) _⟩
      by_cases hs2 : (top : Int) - i < sz
      · have hs3 := hs2
        have hno : Hid (¬ Nd.ok ⟨1, ps, fn, sz, tx⟩ i top) := by simp [Hid, Nd.ok, *]; try omega
        go_enter Tryz.func33, Tryz.ntmps33
        go_wp2
        go_ret
        exact ⟨Or.inr ⟨hno.out, rfl⟩, (Below.refl _ w).alloc (Nat.le_refl _) _⟩
      · have hs3 := hs2
        have hyes : Hid (Nd.ok ⟨1, ps, fn, sz, tx⟩ i top) := by simp [Hid, Nd.ok, *]; try omega
        go_enter Tryz.func33, Tryz.ntmps33
        go_wp2
        go_ret
        exact ⟨Or.inl ⟨hyes.out, rfl⟩, (Below.refl _ w).alloc (Nat.le_refl _) _⟩
    · have hno : Hid (¬ Nd.ok ⟨1, ps, fn, sz, tx⟩ i top) := by simp [Hid, Nd.ok, ht]
      go_enter Tryz.func33, Tryz.ntmps33
      go_wp2
      go_ret
      exact ⟨Or.inr ⟨hno.out, rfl⟩, (Below.refl _ w).alloc (Nat.le_refl _) _⟩
  by_cases k3 : kd < 3
  · have k4 := k3
    have hno : Hid (¬ Nd.ok ⟨kd, ps, fn, sz, tx⟩ i top) := by simp [Hid, Nd.ok, *]; try omega
    go_enter Tryz.func33, Tryz.ntmps33
    go_wp2
    go_ret
    exact ⟨Or.inr ⟨hno.out, rfl⟩, (Below.refl _ w).alloc (Nat.le_refl _) _⟩
  by_cases k10 : 10 < kd
  · have k4 := k10
    have hno : Hid (¬ Nd.ok ⟨kd, ps, fn, sz, tx⟩ i top) := by simp [Hid, Nd.ok, *]; try omega
    go_enter Tryz.func33, Tryz.ntmps33
    go_wp2
    go_ret
    exact ⟨Or.inr ⟨hno.out, rfl⟩, (Below.refl _ w).alloc (Nat.le_refl _) _⟩
  by_cases hs : sz = 1
  · subst hs
    have hyes : Hid (Nd.ok ⟨kd, ps, fn, 1, tx⟩ i top) := by simp [Hid, Nd.ok, *]; try omega
    go_enter Tryz.func33, Tryz.ntmps33
    go_wp2
    go_ret
    exact ⟨Or.inl ⟨hyes.out, rfl⟩, (Below.refl _ w).alloc (Nat.le_refl _) _⟩
  · have k4 := k10
    have hno : Hid (¬ Nd.ok ⟨kd, ps, fn, sz, tx⟩ i top) := by simp [Hid, Nd.ok, *]; try omega
    go_enter Tryz.func33, Tryz.ntmps33
    go_wp2
    go_ret
    exact ⟨Or.inr ⟨hno.out, rfl⟩, (Below.refl _ w).alloc (Nat.le_refl _) _⟩
end Go.Proofs.YtackibimlpkcmaaGreatDoor
