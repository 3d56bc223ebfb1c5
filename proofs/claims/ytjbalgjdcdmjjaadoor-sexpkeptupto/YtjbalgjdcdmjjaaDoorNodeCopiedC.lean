/-
  The law's own copy of a list of nodes.
-/
import Derived.Test.YtjbalgjdcdmjjaaDoorNodeAll
/- ==== NodeCopied ==== -/
namespace Go.Proofs.YtjbalgjdcdmjjaaDoor
open Go.RowKit
set_option linter.unusedVariables false
theorem infoNodeC : (Tryd.prog.info? 47).map (fun i => (i.zero, i.size, i.bytes)) = some (some (.agg #[.int .i64 0, .int .i64 0, .int .i64 0, .int .i64 0, .string ⟨#[]⟩]), 5, 48) := by kernel_rfl
theorem sliceNodeC : Tryd.prog.underlying 43 = some (.slice 47) := by kernel_rfl
def flatN (ns : List Nd) : List Value := ns.flatMap Nd.cells
theorem flatN_len (ns : List Nd) : (flatN ns).length = ns.length * 5 := by
  induction ns with
  | nil => rfl
  | cons x r ih => simp only [flatN, List.flatMap_cons, List.length_append, List.length_cons] at ih ⊢; rw [ih]; simp [Nd.cells]; omega
theorem flatN_snoc (ns : List Nd) (x : Nd) : flatN (ns ++ [x]) = flatN ns ++ x.cells := by simp [flatN]
theorem flatN_at (ns : List Nd) (j f : Nat) (hj : j < ns.length) (hf : f < 5) : (flatN ns)[j * 5 + f]? = (ns.getD j Nd.z).cells[f]? := by
  induction ns generalizing j with
  | nil => simp at hj
  | cons x r ih =>
    have hx : x.cells.length = 5 := rfl
    simp only [flatN, List.flatMap_cons]
    cases j with
    | zero => rw [List.getElem?_append_left (by omega)]; simp
    | succ j =>
      rw [List.getElem?_append_right (by omega), hx, List.getD_cons_succ, ← ih j (by simp at hj; omega)]
      have e : (j + 1) * 5 + f - 5 = j * 5 + f := by omega
      rw [e]
      rfl
theorem own_nds {w : World} {B : Nat} {v : Value} {ns : List Nd} (h : w.ownsRow B 47 5 v ns.length (flatN ns)) (hn : ns.length ≤ 2932031007402) : Nds w.heap.size w v ns := by
  obtain ⟨h1, h2⟩ := h
  rcases h2 with ⟨rfl, h0⟩ | ⟨g, cap, cur, rfl, hB, hg, hle, hm, hs, ht⟩
  · have : ns = [] := List.length_eq_zero_iff.1 h0
    subst this
    exact ⟨none, 0, rfl, by simp, by simp, by simp, fun h => absurd rfl h⟩
  · refine ⟨some ⟨g, 0, none⟩, cap, rfl, hle, ⟨by unfold maxLen at hm; omega, hn⟩, by simp, fun _ => ⟨g, 0, rfl, (Array.getElem?_eq_some_iff.1 hg).1, fun j hj => ?_⟩⟩
    have key : ∀ f, f < 5 → w.cell? ⟨g, 0 + j * 5 + f, none⟩ = (ns.getD j Nd.z).cells[f]? := by
      intro f hf
      rw [Nat.zero_add, cell_of_row w g _ cur _ (0, 0) hg, ← flatN_at ns j f hj hf, ← ht, List.getElem?_take, if_pos (by omega)]
      simp
    exact ⟨key 0 (by omega), key 1 (by omega), key 2 (by omega), key 3 (by omega), key 4 (by omega)⟩
theorem news5 (w : World) (x : Nd) (e : TypeId) : ∀ j u, x.cells[j]? = some u → (w.alloc (.cells #[.int .i64 x.kind, .int .i64 x.pos, .int .i64 x.fin, .int .i64 x.size, .string x.text] e)).cell? ((⟨w.heap.size, 0, none⟩ : Addr).add j) = some u := by
  intro j u hu
  have h : (w.alloc (.cells #[.int .i64 x.kind, .int .i64 x.pos, .int .i64 x.fin, .int .i64 x.size, .string x.text] e)).heap[w.heap.size]? = some (.cells #[.int .i64 x.kind, .int .i64 x.pos, .int .i64 x.fin, .int .i64 x.size, .string x.text] e (0, 0)) := by
    show (w.heap.push _)[w.heap.size]? = _
    rw [Array.getElem?_push_size]
  have ha : (⟨w.heap.size, 0, none⟩ : Addr).add j = ⟨w.heap.size, j, none⟩ := by simp [Addr.add]; omega
  rw [ha, cell_of_row _ _ j _ e (0, 0) h, ← hu]
  simp [Nd.cells]
theorem one5 (x : Nd) : ∀ u ∈ x.cells, u.oneCell' = true := by
  intro u hu
  simp only [Nd.cells, List.mem_cons, List.not_mem_nil, or_false] at hu
  rcases hu with rfl | rfl | rfl | rfl | rfl <;> rfl
set_option maxRecDepth 100000 in
set_option maxHeartbeats 1600000 in
theorem copied_calls (w : World) (B : Nat) (v : Value) (ns : List Nd) (h : Nds B w v ns) (hB : B ≤ w.heap.size) :
    Calls Tryd.prog 13 #[v] w fun e w' => (∃ r, e = .returned r ∧ Nds w'.heap.size w' r ns) ∧ Below w.heap.size w w' := by
  obtain ⟨i0, hi, hz0, hz1, hz2⟩ := info_parts infoNodeC
  have hN := hide h
  obtain ⟨a, cap, rfl, h1, ⟨h2, h2'⟩, h3, h4⟩ := h
  clear h3 h4
  go_enter Tryd.func13, Tryd.ntmps13
  go_wp2_with (at_make; refine wpList_make_own _ rfl _ _ 43 rfl w.heap.size 47 i0 _ 5 sliceNodeC hi hz0 hz1 .i64 .i64 _ ns.length rfl rfl rfl (by rw [hz2]; omega) (by unfold maxLen; omega) (Nat.le_refl _) ?_; intro w0 hown0 hgrow0)
  have B0 : Hid (Below w.heap.size w w0) := (Below.refl _ w).grown hgrow0 (Nat.le_refl _) (by simp)
  replace hown0 := hide hown0
  replace hgrow0 := hide hgrow0
  go_loopw [3, 4] (fun u j wr => ∃ q : Nat, q ≤ ns.length ∧ j = .int .i64 q ∧ Hid (wr.ownsRow w.heap.size 47 5 u q (flatN (ns.take q))) ∧ Hid (Below w.heap.size w wr)) (fun _ j _ => ns.length - (intOf j).toNat)
  case atStart => exact ⟨0, Nat.zero_le _, rfl, hown0, B0⟩
  case round =>
    obtain ⟨q, hq, rfl, hO, hBw⟩ := hrel
    clear B0 hown0 hgrow0
    by_cases hlt : q < ns.length
    · have hNw := hN.out.below (hBw.out.mono hB)
      obtain ⟨b, off, rfl, hb, c0, c1, c2, c3, c4⟩ := hNw.at_ hlt
      clear hNw
      have hT : Hid (ns.take (q + 1) = ns.take q ++ [ns.getD q Nd.z]) := by
        unfold Hid
        rw [List.take_add_one, List.getElem?_eq_getElem hlt, List.getD_eq_getElem?_getD, List.getElem?_eq_getElem hlt]; rfl
      obtain ⟨x, hx⟩ : ∃ x, ns.getD q Nd.z = x := ⟨_, rfl⟩
      rw [hx] at c0 c1 c2 c3 c4 hT
      clear hx
      have hBx := hBw.out.size
      go_wp2_with (at_builtin; (refine wpList_append_own _ rfl _ _ 43 rfl w.heap.size 47 i0 _ 5 48 sliceNodeC hi hz0 hz1 hz2 rfl (by decide) _ _ _ rfl (hO.out.alloc _) ⟨wr.heap.size, 0, none⟩ 1 1 x.cells rfl rfl (news5 wr x _) (one5 x) (by unfold maxLen; omega) (by omega) (by simp; omega) ?_; intro v' w1 hown' hgrow _; replace hown' := hide hown'; replace hgrow := hide hgrow; have B1 : Hid (Below w.heap.size w w1) := (hBw.out.alloc hBx _).grown hgrow.out (by simp; omega) (fun g hg => ((hO.out.lt g hg).1))))
      go_roundw
      case rel => exact ⟨q + 1, by omega, by simp, by rw [hT.out, flatN_snoc]; exact hown', B1⟩
      case measure => simp [intOf]; omega
    · obtain rfl : q = ns.length := by omega
      rw [List.take_length] at hO
      have hR := hide (own_nds hO.out h2')
      go_wp2
      go_ret
      exact ⟨⟨_, rfl, hR.out⟩, hBw.out⟩
end Go.Proofs.YtjbalgjdcdmjjaaDoor
