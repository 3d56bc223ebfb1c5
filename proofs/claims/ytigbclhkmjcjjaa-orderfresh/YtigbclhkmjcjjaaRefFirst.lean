/-
  The document's first, Take and Waiting.
-/
import Derived.Test.YtigbclhkmjcjjaaRefMem
import Derived.Test.YtigbclhkmjcjjaaOrdList
namespace Go.Proofs.Ytigbclhkmjcjjaa
open Go.RowKit
set_option linter.unusedVariables false
/-- Of those up to n that wait b comes first; 0: nobody waits. -/
def FirstIs (A : List Nat) (n : Nat) (Q : List Bool) (b : Nat) : Prop :=
  (b = 0 ∧ ∀ v, 1 ≤ v → v ≤ n → Q.getD v false = false) ∨ (1 ≤ b ∧ b ≤ n ∧ Q.getD b false = true ∧ ∀ u, 1 ≤ u → u ≤ n → Q.getD u false = true → u ≠ b → O.ahd A b u = true)
theorem FirstIs.no {A : List Nat} {n : Nat} {Q : List Bool} {b : Nat} (h : FirstIs A n Q b) (hq : Q.getD (n + 1) false = false) : FirstIs A (n + 1) Q b := by
  rcases h with ⟨rfl, h⟩ | ⟨h1, h2, h3, h4⟩
  · exact .inl ⟨rfl, fun v v1 v2 => by
      by_cases c : v = n + 1
      · rw [c]; exact hq
      · exact h v v1 (by omega)⟩
  · exact .inr ⟨h1, by omega, h3, fun u u1 u2 u3 u4 => by
      by_cases c : u = n + 1
      · rw [c, hq] at u3; cases u3
      · exact h4 u u1 (by omega) u3 u4⟩
theorem FirstIs.zero {A : List Nat} {n : Nat} {Q : List Bool} (h : FirstIs A n Q 0) (hq : Q.getD (n + 1) false = true) : FirstIs A (n + 1) Q (n + 1) := by
  rcases h with ⟨_, h⟩ | ⟨h1, _⟩
  · exact .inr ⟨by omega, Nat.le_refl _, hq, fun u u1 u2 u3 u4 => by
      rw [h u u1 (by omega)] at u3; cases u3⟩
  · omega
theorem FirstIs.yes {A : List Nat} {n : Nat} {Q : List Bool} {b : Nat} (h : FirstIs A n Q b) (hb : b ≠ 0) (hq : Q.getD (n + 1) false = true) (ha : A.getD b 0 < A.getD (n + 1) 0) : FirstIs A (n + 1) Q (n + 1) := by
  rcases h with ⟨h0, _⟩ | ⟨h1, h2, h3, h4⟩
  · exact absurd h0 hb
  · have hb' : O.ahd A (n + 1) b = true := by
      unfold O.ahd
      rw [if_neg (by omega), decide_eq_true ha]
    exact .inr ⟨by omega, Nat.le_refl _, hq, fun u u1 u2 u3 u4 => by
      by_cases c : u = b
      · rw [c]; exact hb'
      · exact O.ahd_trans hb' (h4 u u1 (by omega) u3 c)⟩
theorem FirstIs.not {A : List Nat} {n : Nat} {Q : List Bool} {b : Nat} (h : FirstIs A n Q b) (hb : b ≠ 0) (ha : ¬ A.getD b 0 < A.getD (n + 1) 0) : FirstIs A (n + 1) Q b := by
  rcases h with ⟨h0, _⟩ | ⟨h1, h2, h3, h4⟩
  · exact absurd h0 hb
  · exact .inr ⟨h1, by omega, h3, fun u u1 u2 u3 u4 => by
      by_cases c : u = n + 1
      · rw [c]
        unfold O.ahd
        by_cases e : A.getD b 0 = A.getD (n + 1) 0
        · rw [if_pos e, decide_eq_true (by omega)]
        · rw [if_neg e, decide_eq_true (by omega)]
      · exact h4 u u1 (by omega) u3 u4⟩
theorem FirstIs.le {A : List Nat} {n : Nat} {Q : List Bool} {b : Nat} (h : FirstIs A n Q b) : b ≤ n := by
  rcases h with ⟨h0, _⟩ | ⟨h1, h2, _⟩ <;> omega
theorem FirstIs.nil {A : List Nat} {n : Nat} {Q : List Bool} {b : Nat} (h : FirstIs A n Q b) (hl : O.Lst A n (fun v => Q.getD v false = true) []) : b = 0 := by
  rcases h with ⟨h0, _⟩ | ⟨h1, h2, h3, _⟩
  · exact h0
  · exact absurd ((hl.2 b).2 ⟨h1, h2, h3⟩) (by simp)
theorem FirstIs.cons {A : List Nat} {n : Nat} {Q : List Bool} {b x : Nat} {t : List Nat} (h : FirstIs A n Q b) (hl : O.Lst A n (fun v => Q.getD v false = true) (x :: t)) : b = x ∧ 1 ≤ b ∧ O.Lst A n (fun v => Q.getD v false = true ∧ v ≠ x) t := by
  rcases h with ⟨h0, h⟩ | ⟨h1, h2, h3, h4⟩
  · have := (hl.2 x).1 (List.mem_cons_self ..)
    have h5 := h x this.1 this.2.1
    rw [this.2.2] at h5
    cases h5
  · obtain ⟨t', e, ht⟩ := hl.first h1 h2 h3 h4
    cases e
    exact ⟨rfl, h1, ht⟩
theorem beg_bool {w : World} {g n j : Nat} {Q : List Bool} (h : Beg w g 4 (Q.map Value.bool)) (hj : j < Q.length) : w.cell? ⟨g, j, none⟩ = some (.bool (Q.getD j false)) := by
  rw [h.cell (by rw [List.length_map]; exact hj), List.getElem?_map, List.getElem?_eq_getElem hj, List.getD_eq_getElem?_getD, List.getElem?_eq_getElem hj]
  rfl
set_option maxRecDepth 100000 in
set_option maxHeartbeats 4000000 in
theorem rfirst_calls (w : World) (o : Rid) (s : RS) (h : ROrd w o s) (gq cq : Nat) (Q : List Bool) (hQ : Beg w gq 4 (Q.map Value.bool)) (hq : Q.length = o.n + 1) :
    Calls Try.prog 64 #[rptr o, .slice (some ⟨gq, 0, none⟩) (o.n + 1) cq] w fun e w' => ∃ b : Nat, e = .returned (.int .i64 (b : Int)) ∧ FirstIs s.A o.n Q b ∧ ∃ m, w' = w.drewN m := by
  have hn := h.hn
  have H := hide h
  have HQ := hide hQ
  clear h hQ
  replace hq := hide hq
  go_enter Try.func64, Try.ntmps64
  go_wp2_with fail
  go_loopw [5, 6] (fun x i wr => ∃ (k b : Nat), x = .int .i64 (b : Int) ∧ i = .int .i64 ((k : Int) + 1) ∧ k ≤ o.n ∧ Hid (FirstIs s.A k Q b) ∧ Hid (∃ m, wr = w.drewN m)) (fun _ i _ => o.n + 1 - (intOf i).toNat)
  case atStart => exact ⟨0, 0, rfl, rfl, Nat.zero_le _, .inl ⟨rfl, fun v v1 v2 => by omega⟩, ⟨0, rfl⟩⟩
  case round =>
    obtain ⟨k, b, rfl, rfl, hk, HF, HW⟩ := hrel
    have HR : ROrd wr o s := by
      obtain ⟨m, e⟩ := HW.out
      rw [e]
      exact H.out.drewN m
    have HQr : Beg wr gq 4 (Q.map Value.bool) := by
      obtain ⟨m, e⟩ := HW.out
      rw [e]
      exact HQ.out
    have HWn : Hid (∀ m', ∃ m, wr.drewN m' = w.drewN m) := by
      intro m'
      obtain ⟨m, e⟩ := HW.out
      exact ⟨m + m', by rw [e]; exact World.drewN_drewN _ _ _⟩
    have c0 := HR.c0
    have hbn := HF.out.le
    by_cases hlt : k < o.n
    · have ck := HR.act (j := k + 1) (by omega)
      have cb := HR.act (j := b) (by omega)
      have cq := beg_bool (n := 0) HQr (j := k + 1) (by have := hq.out; omega)
      have g1 : (k : Int) + 1 < (o.n : Int) + 1 := by omega
      have g2 : (0 : Int) ≤ (k : Int) + 1 := by omega
      have g3 : ((k : Int) + 1).toNat = k + 1 := by omega
      have g4 : (b : Int) < (o.n : Int) + 1 := by omega
      have N1 := hide (fun hh => HF.out.no hh)
      have N2 := hide (fun hh => HF.out.yes hh)
      have N3 := hide (fun hh => HF.out.not hh)
      have N0 : Hid (b = 0 → Q.getD (k + 1) false = true → FirstIs s.A (k + 1) Q (k + 1)) := by
        intro e
        subst e
        exact HF.out.zero
      replace HR := hide HR
      replace HQr := hide HQr
      obtain ⟨x, hx⟩ : ∃ x, s.A.getD (k + 1) 0 = x := ⟨_, rfl⟩
      obtain ⟨y, hy⟩ : ∃ y, s.A.getD b 0 = y := ⟨_, rfl⟩
      rw [hx] at ck N2 N3
      rw [hy] at cb N2 N3
      clear hx hy HF hbn
      cases hw : Q.getD (k + 1) false
      · rw [hw] at cq N1
        have P := hide (N1.out rfl)
        clear N1
        go_wp2_with fail
        go_quiet (fail)
        go_wp2
        go_roundw
        case rel => exact ⟨k + 1, b, rfl, by go_num, by omega, P, HWn.out _⟩
        case measure => simp [intOf]; omega
      · rw [hw] at cq N0 N2
        by_cases b0 : b = 0
        · have P := hide (N0.out b0 rfl)
          subst b0
          go_wp2_with fail
          go_quiet (fail)
          go_wp2
          go_roundw
          case rel => exact ⟨k + 1, k + 1, by go_num, by go_num, by omega, P, HWn.out _⟩
          case measure => simp [intOf]; omega
        · have b1 : ¬ (b : Int) = 0 := by omega
          have b2 : ((b : Int) == 0) = false := by rw [beq_eq_false_iff_ne]; omega
          by_cases hxy : y < x
          · have P := hide (N2.out b0 rfl hxy)
            have d1 : (y : Int) < (x : Int) := by omega
            have d2 : decide ((y : Int) < (x : Int)) = true := by simp; omega
            go_wp2_with fail
            go_quiet (fail)
            go_wp2
            go_roundw
            case rel => exact ⟨k + 1, k + 1, by go_num, by go_num, by omega, P, HWn.out _⟩
            case measure => simp [intOf]; omega
          · have P := hide (N3.out b0 hxy)
            have d1 : ¬ (y : Int) < (x : Int) := by omega
            have d2 : decide ((y : Int) < (x : Int)) = false := by simp; omega
            go_wp2_with fail
            go_quiet (fail)
            go_wp2
            go_roundw
            case rel => exact ⟨k + 1, b, rfl, by go_num, by omega, P, HWn.out _⟩
            case measure => simp [intOf]; omega
    · obtain rfl : k = o.n := by omega
      replace HR := hide HR
      replace HQr := hide HQr
      clear hlt hk
      go_wp2
      go_ret
      exact ⟨b, rfl, HF.out, HW.out⟩
end Go.Proofs.Ytigbclhkmjcjjaa
