/-
  The law SexpJoined.
-/
import Derived.Test.YtackibimlpkcmaaDoorAlikeq
import Derived.Test.YtackibimlpkcmaaDoorq3
/- ==== JoinedLaw ==== -/
namespace Go.Proofs.YtackibimlpkcmaaDoor
open Go.RowKit
set_option linter.unusedVariables false
theorem toNd_lk {n : X.N} {d M : Nat} (h : X.Bd M n) (hM : M ≤ 1073741824) : Lk d (toNd n) (toNd (X.mvN d n)) :=
  ⟨rfl, rfl, rfl, fun _ => ⟨by show ((n.beg + d : Nat) : Int) = (n.beg : Int) + d; omega, by show ((n.fin + d : Nat) : Int) = (n.fin : Int) + d; omega, by show _ ≤ (n.beg : Int); omega, by have := h.1; show (n.beg : Int) ≤ _; omega, by show _ ≤ (n.fin : Int); omega, by have := h.2; show (n.fin : Int) ≤ _; omega⟩⟩
/-- Two lists of nodes, the second the first with its places moved. -/
theorem alikeN_calls (w : World) (va vb : Value) (fs gs : List X.N) (M d : Nat) (ha : NRow w va fs) (hb : NRow w vb gs) (he : gs = fs.map (X.mvN d)) (hM : M ≤ 1073741824) (hd : d ≤ 1073741824) (hn : fs.length ≤ 2932031007402) (hbd : ∀ n ∈ fs, X.Bd M n) :
    Calls Tryd.prog 17 #[va, vb, .int .i64 (d : Int)] w fun e w' => e = .returned (.bool true) ∧ Below w.heap.size w w' := by
  have hl : gs.length = fs.length := by rw [he, List.length_map]
  refine alike_calls w w.heap.size va vb _ _ (ha.nds hn) (hb.nds (by omega)) (Nat.le_refl _) d (by omega) (by rw [List.length_map, List.length_map, hl]) (fun j hj => ?_)
  rw [List.length_map] at hj
  rw [toNd_at, toNd_at, he, X.map_getD _ _ _ _ hj]
  refine toNd_lk (X.getD_bd hbd j) hM
theorem mvN_zero (l : List X.N) : l.map (X.mvN 0) = l := by
  rw [show X.mvN 0 = id from funext fun n => rfl, List.map_id]
/-- A piece of a list of nodes. -/
theorem NRow.part {w : World} {b off n cap : Nat} {ns : List X.N} (h : NRow w (.slice (some ⟨b, off, none⟩) n cap) ns) (k m c : Nat) (hk : k + m ≤ ns.length) (hc : m ≤ c) (hm : c ≤ 9223372036854775807) : NRow w (.slice (some ⟨b, off + k * 5, none⟩) m c) ((ns.drop k).take m) := by
  obtain ⟨a', cap', e, h1, h2, h4⟩ := h
  cases e
  have hl : ((ns.drop k).take m).length = m := by rw [List.length_take, List.length_drop]; omega
  refine ⟨some ⟨b, off + k * 5, none⟩, c, by rw [hl], by omega, hm, fun hne => ?_⟩
  obtain ⟨b', off', e, hc⟩ := h4 (by rintro rfl; simp at hne)
  cases e
  refine ⟨b, off + k * 5, rfl, fun j hj => ?_⟩
  rw [hl] at hj
  have e2 : ((ns.drop k).take m).getD j X.n0 = ns.getD (k + j) X.n0 := by
    rw [List.getD_eq_getElem?_getD, List.getD_eq_getElem?_getD, List.getElem?_take_of_lt hj, List.getElem?_drop]
  rw [e2]
  have := hc (k + j) (by omega)
  rw [show off + (k + j) * 5 = off + k * 5 + j * 5 by omega] at this
  exact this
theorem NRow.nil (w : World) (a : Option Addr) (c : Nat) (hm : c ≤ 9223372036854775807) : NRow w (.slice a 0 c) [] := ⟨a, c, rfl, Nat.zero_le _, hm, fun h => absurd rfl h⟩
theorem NRow.sliced {w : World} {a : Option Addr} {n cap : Nat} {ns : List X.N} (h : NRow w (.slice a n cap) ns) (k m c : Nat) (hk : k + m ≤ ns.length) (hc : m ≤ c - k) (hm : c ≤ cap) : NRow w (Go.sliced a k (k + m) c 5) ((ns.drop k).take m) := by
  have hcap : cap ≤ 9223372036854775807 := by obtain ⟨_, _, e, _, h2, _⟩ := h; cases e; exact h2
  unfold Go.sliced
  rw [Nat.add_sub_cancel_left]
  by_cases hz : m = 0
  · subst hz
    rw [List.take_zero]
    exact NRow.nil _ _ _ (by omega)
  · have h' := h
    obtain ⟨a', cap', e, h1, h2, h4⟩ := h
    cases e
    obtain ⟨b, off, rfl, -⟩ := h4 (by rintro rfl; simp at hk; omega)
    rw [if_neg (by omega)]
    have := h'.part k m (c - k) hk hc (by omega)
    have ea : (⟨b, off, none⟩ : Addr).add (k * 5) = ⟨b, off + k * 5, none⟩ := by
      generalize k * 5 = j
      unfold Addr.add
      split <;> simp_all
    rw [Option.map_some, ea]
    exact this
theorem elemNode : Tryd.prog.elem 44 = 51 := by kernel_rfl
theorem NRow.cutH {w : World} {a : Option Addr} {n cap : Nat} {ns : List X.N} (h : NRow w (.slice a n cap) ns) (k : Nat) (hk : k ≤ ns.length) :
    ∃ v, (∀ W, (Instr.sliceAt 44 (.slice a n cap) none (some (.int .i64 (k : Int))) none).run Tryd.prog W = .ok v W) ∧ NRow w v (ns.take k) := by
  have hs := h
  obtain ⟨a', cap', e, h1, h2, h4⟩ := h
  cases e
  refine ⟨Go.sliced a 0 (0 + k) cap 5, fun W => ?_, by have := hs.sliced 0 k cap (by omega) (by omega) (Nat.le_refl _); rwa [List.drop_zero] at this⟩
  have hu : Tryd.prog.underlying 44 = some (.slice (Tryd.prog.elem 44)) := by rw [elemNode]; exact Tryd.underlying44
  rw [run_sliceAt_slice (h := hu), run_slice_h (ht := hu) (h0 := by omega) (h2 := by omega), elemNode, Nat.zero_add]
  clear hu
  go_simp
theorem NRow.cutL {w : World} {a : Option Addr} {n cap : Nat} {ns : List X.N} (h : NRow w (.slice a n cap) ns) (k : Nat) (hk : k ≤ ns.length) :
    ∃ v, (∀ W, (Instr.sliceAt 44 (.slice a n cap) (some (.int .i64 (k : Int))) none none).run Tryd.prog W = .ok v W) ∧ NRow w v (ns.drop k) := by
  have hs := h
  obtain ⟨a', cap', e, h1, h2, h4⟩ := h
  cases e
  refine ⟨Go.sliced a k (k + (ns.length - k)) cap 5, fun W => ?_, by have := hs.sliced k (ns.length - k) cap (by omega) (by omega) (Nat.le_refl _); rwa [List.take_of_length_le (by rw [List.length_drop]; omega)] at this⟩
  have hu : Tryd.prog.underlying 44 = some (.slice (Tryd.prog.elem 44)) := by rw [elemNode]; exact Tryd.underlying44
  rw [run_sliceAt_slice (h := hu), run_slice_l (ht := hu) (h0 := by omega) (h1 := by omega), elemNode, show k + (ns.length - k) = ns.length by omega]
  clear hu
  go_simp
end Go.Proofs.YtackibimlpkcmaaDoor
