/-
  The document's 'Inside': the places of what stands in a list.
-/
import Derived.Test.YtnkhdfliiaieeaaNodeMath
import Derived.Maps.AppendAt
namespace Go.Proofs.Ytnkhdfliiaieeaa
open Go.RowKit
set_option linter.unusedVariables false
theorem OwnS.snoc {w : World} {B : Nat} {v : Value} {xs : List Int} {x : Int} (h : w.ownsRow B 3 1 v (xs.length + 1) (xs.map (Value.int .i64) ++ [.int .i64 x])) : OwnS w B v (xs ++ [x]) := by
  unfold OwnS
  simpa using h
theorem Nds.at_ {B : Nat} {w : World} {a : Option Addr} {n cap : Nat} {ns : List Nd} (h : Nds B w (.slice a n cap) ns) {j : Nat} (hj : j < ns.length) :
    ∃ b off, a = some ⟨b, off, none⟩ ∧ b < B ∧ w.cell? ⟨b, off + j * 5, none⟩ = some (.int .i64 (ns.getD j Nd.z).kind) ∧
      w.cell? ⟨b, off + j * 5 + 1, none⟩ = some (.int .i64 (ns.getD j Nd.z).pos) ∧
      w.cell? ⟨b, off + j * 5 + 2, none⟩ = some (.int .i64 (ns.getD j Nd.z).fin) ∧
      w.cell? ⟨b, off + j * 5 + 3, none⟩ = some (.int .i64 (ns.getD j Nd.z).size) ∧
      w.cell? ⟨b, off + j * 5 + 4, none⟩ = some (.string (ns.getD j Nd.z).text) := by
  obtain ⟨a', cap', e, h1, h2, h3, h4⟩ := h
  cases e
  obtain ⟨b, off, rfl, hb, hc⟩ := h4 (by intro e; rw [e] at hj; simp at hj)
  obtain ⟨c0, c1, c2, c3, c4⟩ := hc j hj
  exact ⟨b, off, rfl, hb, c0, c1, c2, c3, c4⟩
set_option maxRecDepth 100000 in
set_option maxHeartbeats 1600000 in
theorem inside_calls (w : World) (B : Nat) (v : Value) (ns : List Nd) (h : Nds B w v ns) (hB : B ≤ w.heap.size) (hS : Szs ns) (i : Int) (hi1 : -1 ≤ i) (hi2 : i < ns.length) :
    Calls Try.prog 16 #[v, .int .i64 i] w fun e w' =>
      (∃ r, e = .returned r ∧ OwnS w' w.heap.size r ((kidsL ns i).map (fun n : Nat => (n : Int)))) ∧ Below w.heap.size w w' := by
  obtain ⟨i0, hi, hz0, hz1, hz2⟩ := info_parts infoInt
  have hN := hide h
  obtain ⟨a, cap, rfl, h1, h2, h3, h4⟩ := h
  clear h3 h4
  have hE := endOf_le hS hi2
  by_cases hneg : i < 0
  · obtain rfl : i = -1 := by omega
    have hK : Hid (kidsL ns (-1) = kl ns ns.length ns.length 0) := rfl
    have hE2 : Hid (endOf ns (-1) = ns.length) := rfl
    rw [hE2.out] at hE
    go_enter Try.func16, Try.ntmps16
    go_wp2_with (at_make; refine wpList_make_own _ rfl _ _ 30 rfl w.heap.size 3 i0 (.int .i64 0) 1 sliceInt hi hz0 hz1 .i64 .i64 _ 0 rfl rfl (by omega) (by omega) (by unfold maxLen; omega) (Nat.le_refl _) ?_; intro w0 hown0 hgrow0)
    have B0 : Hid (Below w.heap.size w w0) := (Below.refl _ w).grown hgrow0 (Nat.le_refl _) (by simp)
    have O0 : Hid (OwnS w0 w.heap.size (.slice (some ⟨w.heap.size, 0, none⟩) 0 0) []) := hown0
    replace hown0 := hide hown0
    replace hgrow0 := hide hgrow0
    go_loopw [7, 8] (fun r j wr => ∃ (pre : List Nat) (k p : Nat), j = .int .i64 p ∧ Hid (kidsL ns (-1) = pre ++ kl ns ns.length k p) ∧ Hid (ns.length - p ≤ k) ∧ Hid (OwnS wr w.heap.size r (pre.map (fun n : Nat => (n : Int)))) ∧ Hid (Below w.heap.size w wr)) (fun _ j _ => ns.length - (intOf j).toNat)
    case atStart => exact ⟨[], ns.length, 0, rfl, hK, by have := hE; simp only [Hid]; omega, O0, B0⟩
    case round =>
      obtain ⟨pre, k, p, rfl, hpre, hk, hO, hBw⟩ := hrel
      by_cases hlt : p < ns.length
      · have hpn : p < ns.length := by omega
        obtain ⟨k, rfl⟩ : ∃ k', k = k' + 1 := ⟨k - 1, by have := hk.out; omega⟩
        obtain ⟨b, off, rfl, hb, -, -, -, c3, -⟩ := ((hN.out.below (hBw.out.mono hB)).at_ hpn)
        have hs := hS p hpn
        have hlen : pre.length < ns.length := by
          have h5 := kl_length ns ns.length ns.length 0
          have h6 := congrArg List.length hpre.out
          rw [hK.out, kl_go ns ns.length k p hlt] at h6
          simp at h6
          omega
        have hgo := hide (kl_go ns ns.length k p hlt)
        generalize (ns.getD p Nd.z).size = sz at *
        obtain ⟨z, rfl⟩ : ∃ z : Nat, sz = z := ⟨sz.toNat, by omega⟩
        have hBx := hBw.out.size
        have hO2 := hO.out
        unfold OwnS at hO2
        rw [List.length_map] at hO2
        have hO3 := hide hO2
        clear hO2
        go_wp2_with (at_builtin; refine wpList_append_own _ rfl _ _ 30 rfl w.heap.size 3 i0 (.int .i64 0) 1 8 sliceInt hi hz0 hz1 hz2 rfl (by decide) _ _ _ rfl (hO3.out.alloc _) ⟨wr.heap.size, 0, none⟩ 1 1 [.int .i64 p] rfl rfl (cell_one_new _ _ _) (by simp [Value.oneCell']) (by unfold maxLen; omega) (by omega) (by simp; omega) ?_; intro v' w1 hown' hgrow _; replace hown' := hide hown'; replace hgrow := hide hgrow; have B1 : Hid (Below w.heap.size w w1) := (hBw.out.alloc hBx _).grown hgrow.out (by simp; omega) (fun g hg => ((hO3.out.lt g hg).1)); have c3' := (B1.out.cell (p := ⟨b, off + p * 5 + 3, none⟩) (by simp; omega)).trans ((hBw.out.cell (p := ⟨b, off + p * 5 + 3, none⟩) (by simp; omega)).symm.trans c3))
        go_roundw
        case rel => exact ⟨pre ++ [p], k, p + z, by simp, by rw [hpre.out, hgo.out]; simp [Hid], by have := hk.out; simp only [Hid]; omega, by simp only [Hid, List.map_append, List.map_cons, List.map_nil]; exact OwnS.snoc (by simpa using hown'.out), B1⟩
        case measure => simp [intOf]; omega
      · have e1 := hide (kl_end ns ns.length k p (by omega))
        have hfin : Hid (kidsL ns (-1) = pre) := by rw [hpre.out, e1.out]; simp [Hid]
        go_wp2
        go_ret
        exact ⟨⟨_, rfl, by rw [hfin.out]; exact hO.out⟩, hBw.out⟩
  · obtain ⟨q, rfl⟩ : ∃ q : Nat, i = q := ⟨i.toNat, by omega⟩
    have hqn : q < ns.length := by omega
    have hsq := hS q hqn
    obtain ⟨b, off, rfl, hb, -, -, -, d3, -⟩ := hN.out.at_ hqn
    have hE2 : endOf ns q = q + (ns.getD q Nd.z).size.toNat := by unfold endOf; rw [if_neg (by omega)]; rfl
    have hK : Hid (kidsL ns q = kl ns (endOf ns q) ns.length (q + 1)) := by unfold kidsL; rfl
    generalize endOf ns q = E at *
    generalize (ns.getD q Nd.z).size = sq at *
    obtain ⟨zq, rfl⟩ : ∃ z : Nat, sq = z := ⟨sq.toNat, by omega⟩
    have hE3 : ((q + zq : Nat) : Int) = E := by rw [hE2]; simp
    go_enter Try.func16, Try.ntmps16
    go_wp2_with (at_make; refine wpList_make_own _ rfl _ _ 30 rfl w.heap.size 3 i0 (.int .i64 0) 1 sliceInt hi hz0 hz1 .i64 .i64 _ 0 rfl rfl (by omega) (by omega) (by unfold maxLen; omega) (Nat.le_refl _) ?_; intro w0 hown0 hgrow0)
    have B0 : Hid (Below w.heap.size w w0) := (Below.refl _ w).grown hgrow0 (Nat.le_refl _) (by simp)
    have O0 : Hid (OwnS w0 w.heap.size (.slice (some ⟨w.heap.size, 0, none⟩) 0 0) []) := hown0
    replace hown0 := hide hown0
    replace hgrow0 := hide hgrow0
    go_loopw [7, 8] (fun r j wr => ∃ (pre : List Nat) (k p : Nat), j = .int .i64 p ∧ Hid (kidsL ns q = pre ++ kl ns E k p) ∧ Hid (E - p ≤ k) ∧ Hid (OwnS wr w.heap.size r (pre.map (fun n : Nat => (n : Int)))) ∧ Hid (Below w.heap.size w wr)) (fun _ j _ => E - (intOf j).toNat)
    case atStart => exact ⟨[], ns.length, (q + 1), by simp, hK, by have := hE; simp only [Hid]; omega, O0, B0⟩
    case round =>
      obtain ⟨pre, k, p, rfl, hpre, hk, hO, hBw⟩ := hrel
      by_cases hlt : p < E
      · have hpn : p < ns.length := by omega
        obtain ⟨k, rfl⟩ : ∃ k', k = k' + 1 := ⟨k - 1, by have := hk.out; omega⟩
        obtain ⟨b, off, eb, hb, -, -, -, c3, -⟩ := ((hN.out.below (hBw.out.mono hB)).at_ hpn)
        cases eb
        have hs := hS p hpn
        have hlen : pre.length < ns.length := by
          have h5 := kl_length ns E ns.length (q + 1)
          have h6 := congrArg List.length hpre.out
          rw [hK.out, kl_go ns E k p hlt] at h6
          simp at h6
          omega
        have hgo := hide (kl_go ns E k p hlt)
        generalize (ns.getD p Nd.z).size = sz at *
        obtain ⟨z, rfl⟩ : ∃ z : Nat, sz = z := ⟨sz.toNat, by omega⟩
        have hBx := hBw.out.size
        have hO2 := hO.out
        unfold OwnS at hO2
        rw [List.length_map] at hO2
        have hO3 := hide hO2
        clear hO2
        go_wp2_with (at_builtin; refine wpList_append_own _ rfl _ _ 30 rfl w.heap.size 3 i0 (.int .i64 0) 1 8 sliceInt hi hz0 hz1 hz2 rfl (by decide) _ _ _ rfl (hO3.out.alloc _) ⟨wr.heap.size, 0, none⟩ 1 1 [.int .i64 p] rfl rfl (cell_one_new _ _ _) (by simp [Value.oneCell']) (by unfold maxLen; omega) (by omega) (by simp; omega) ?_; intro v' w1 hown' hgrow _; replace hown' := hide hown'; replace hgrow := hide hgrow; have B1 : Hid (Below w.heap.size w w1) := (hBw.out.alloc hBx _).grown hgrow.out (by simp; omega) (fun g hg => ((hO3.out.lt g hg).1)); have c3' := (B1.out.cell (p := ⟨b, off + p * 5 + 3, none⟩) (by simp; omega)).trans ((hBw.out.cell (p := ⟨b, off + p * 5 + 3, none⟩) (by simp; omega)).symm.trans c3))
        go_roundw
        case rel => exact ⟨pre ++ [p], k, p + z, by simp, by rw [hpre.out, hgo.out]; simp [Hid], by have := hk.out; simp only [Hid]; omega, by simp only [Hid, List.map_append, List.map_cons, List.map_nil]; exact OwnS.snoc (by simpa using hown'.out), B1⟩
        case measure => simp [intOf]; omega
      · have e1 := hide (kl_end ns E k p (by omega))
        have hfin : Hid (kidsL ns q = pre) := by rw [hpre.out, e1.out]; simp [Hid]
        go_wp2
        go_ret
        exact ⟨⟨_, rfl, by rw [hfin.out]; exact hO.out⟩, hBw.out⟩
end Go.Proofs.Ytnkhdfliiaieeaa
