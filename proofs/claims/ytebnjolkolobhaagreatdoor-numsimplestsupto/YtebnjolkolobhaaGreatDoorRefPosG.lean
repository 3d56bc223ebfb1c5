/-
  The document's side (arbiterref1): Plus, Less, Over, Compare of numbers that are not below 0.
-/
import Derived.Test.YtebnjolkolobhaaGreatDoorRefWholeG
import Derived.Test.YtebnjolkolobhaaGreatDoorRefFloorFG
import Derived.Test.YtebnjolkolobhaaGreatDoorRefHG
/- ==== RefPos ==== -/
namespace Go.Proofs.YtebnjolkolobhaaGreatDoor
open Go.RowKit
set_option linter.unusedVariables false
theorem addS_pos (a b : Nat) : M.addS false a false b = (false, a + b) := by
  unfold M.addS
  rw [if_pos rfl]
theorem addS_less {a b n : Nat} (h : b ≤ a) (h0 : n = 0 → b = 0) : (M.addS false a (!false && !decide (n = 0)) b).2 = a - b ∧ ((M.addS false a (!false && !decide (n = 0)) b).1 && !decide ((M.addS false a (!false && !decide (n = 0)) b).2 = 0)) = false := by
  by_cases hn : n = 0
  · have hb := h0 hn
    subst hb
    rw [decide_eq_true hn]
    rw [show (!false && !true) = false from rfl, addS_pos]
    exact ⟨rfl, rfl⟩
  · rw [decide_eq_false hn]
    rw [show (!false && !false) = true from rfl]
    unfold M.addS
    rw [if_neg (by decide), if_pos h]
    exact ⟨rfl, rfl⟩
theorem rplus_pos (w : World) (va vb : Value) (n1 d1 n2 d2 K N D : Nat) (ha : RR w va false n1 d1) (hb : RR w vb false n2 d2) (hd1 : 0 < d1) (hd2 : 0 < d2) (k1 : (n1 : Int) < M.NB ^ K) (l1 : (d1 : Int) < M.NB ^ K) (k2 : (n2 : Int) < M.NB ^ K) (l2 : (d2 : Int) < M.NB ^ K) (hK : 2 * K + 1 ≤ 17592186044) (hK1 : 1 ≤ K)
    (hN : (n1 * d2 + n2 * d1) / Nat.gcd (n1 * d2 + n2 * d1) (d1 * d2) = N) (hD : d1 * d2 / Nat.gcd (n1 * d2 + n2 * d1) (d1 * d2) = D) :
    Calls Tryz.prog 130 #[va, vb] w fun e w' => (∃ v, e = .returned v ∧ RR w' v false N D) ∧ Below w.heap.size w w' := by
  have c := rplus_calls w va vb false false n1 d1 n2 d2 K ha hb hd1 hd2 k1 l1 k2 l2 hK hK1
  rw [addS_pos] at c
  simp only [Bool.false_and] at c
  rw [hN, hD] at c
  exact c
theorem rless_pos (w : World) (va vb : Value) (n1 d1 n2 d2 K N D : Nat) (ha : RR w va false n1 d1) (hb : RR w vb false n2 d2) (hd1 : 0 < d1) (hd2 : 0 < d2) (k1 : (n1 : Int) < M.NB ^ K) (l1 : (d1 : Int) < M.NB ^ K) (k2 : (n2 : Int) < M.NB ^ K) (l2 : (d2 : Int) < M.NB ^ K) (hK : 2 * K + 1 ≤ 17592186044) (hK1 : 1 ≤ K)
    (hle : n2 * d1 ≤ n1 * d2) (hN : (n1 * d2 - n2 * d1) / Nat.gcd (n1 * d2 - n2 * d1) (d1 * d2) = N) (hD : d1 * d2 / Nat.gcd (n1 * d2 - n2 * d1) (d1 * d2) = D) :
    Calls Tryz.prog 88 #[va, vb] w fun e w' => (∃ v, e = .returned v ∧ RR w' v false N D) ∧ Below w.heap.size w w' := by
  have c := rless_calls w va vb false false n1 d1 n2 d2 K ha hb hd1 hd2 k1 l1 k2 l2 hK hK1
  obtain ⟨e1, e2⟩ := addS_less hle (n := n2) (fun h => by rw [h, Nat.zero_mul])
  rw [e2, e1, hN, hD] at c
  exact c
theorem rover_one (w : World) (va vb : Value) (n d K : Nat) (ha : RR w va false 1 1) (hb : RR w vb false n d) (hn : 0 < n) (hd : 0 < d) (hg : Nat.gcd n d = 1) (k2 : (n : Int) < M.NB ^ K) (l2 : (d : Int) < M.NB ^ K) (hK : K ≤ 17592186044) (hK1 : 1 ≤ K) :
    Calls Tryz.prog 132 #[va, vb] w fun e w' => (∃ v, e = .returned v ∧ RR w' v false d n) ∧ Below w.heap.size w w' := by
  have k1 : ((1 : Nat) : Int) < M.NB ^ K := by
    have h1 : M.NB ^ 1 ≤ M.NB ^ K := M.pow_le M.NB_pos hK1
    have h2 : M.NB ^ 1 = 1000000000 := by rw [M.NB_eq]; decide
    omega
  have c := rover_calls w va vb false false 1 1 n d K ha hb (by decide) hn k1 k1 k2 l2 hK hK1
  rw [Nat.one_mul, Nat.one_mul, Nat.gcd_comm, hg, Nat.div_one, Nat.div_one] at c
  exact c
theorem rcompare_pos (w : World) (va vb : Value) (n1 d1 n2 d2 K : Nat) (ha : RR w va false n1 d1) (hb : RR w vb false n2 d2) (hd1 : 0 < d1) (hd2 : 0 < d2) (k1 : (n1 : Int) < M.NB ^ K) (l1 : (d1 : Int) < M.NB ^ K) (k2 : (n2 : Int) < M.NB ^ K) (l2 : (d2 : Int) < M.NB ^ K) (hK : 2 * K + 1 ≤ 17592186044) (hK1 : 1 ≤ K) :
    Calls Tryz.prog 44 #[va, vb] w fun e w' => (∃ c : Int, e = .returned (.int .i64 c) ∧ (c < 0 ↔ n1 * d2 < n2 * d1) ∧ (0 < c ↔ n2 * d1 < n1 * d2)) ∧ Below w.heap.size w w' := by
  refine (rcompare_calls w va vb false false n1 d1 n2 d2 K ha hb hd1 hd2 k1 l1 k2 l2 hK hK1 _ rfl).mono ?_
  rintro e w' ⟨h1, h2⟩
  refine ⟨⟨_, h1, ?_⟩, h2⟩
  clear h1 h2
  have hg : 0 < d1 * d2 := Nat.mul_pos hd1 hd2
  by_cases hle : n2 * d1 ≤ n1 * d2
  · obtain ⟨e1, e2⟩ := addS_less hle (n := n2) (fun h => by rw [h, Nat.zero_mul])
    rw [e2, e1]
    by_cases hz : n1 * d2 - n2 * d1 = 0
    · rw [hz]
      have : sgn false (0 / Nat.gcd 0 (d1 * d2)) = 0 := by rw [Nat.zero_div]; rfl
      rw [this]
      omega
    · have hq : 0 < (n1 * d2 - n2 * d1) / Nat.gcd (n1 * d2 - n2 * d1) (d1 * d2) := Nat.div_pos (Nat.le_of_dvd (by omega) (Nat.gcd_dvd_left _ _)) (Nat.gcd_pos_of_pos_right _ hg)
      have : sgn false ((n1 * d2 - n2 * d1) / Nat.gcd (n1 * d2 - n2 * d1) (d1 * d2)) = 1 := by unfold sgn; rw [if_neg (by omega), if_neg (by decide)]
      rw [this]
      omega
  · have hn : ¬ n2 = 0 := fun h => hle (by rw [h, Nat.zero_mul]; exact Nat.zero_le _)
    have ea : M.addS false (n1 * d2) (!false && !decide (n2 = 0)) (n2 * d1) = (true, n2 * d1 - n1 * d2) := by
      rw [decide_eq_false hn]
      rw [show (!false && !false) = true from rfl]
      unfold M.addS
      rw [if_neg (by decide), if_neg hle]
    rw [ea]
    have hz : ¬ n2 * d1 - n1 * d2 = 0 := by omega
    have hq : 0 < (n2 * d1 - n1 * d2) / Nat.gcd (n2 * d1 - n1 * d2) (d1 * d2) := Nat.div_pos (Nat.le_of_dvd (by omega) (Nat.gcd_dvd_left _ _)) (Nat.gcd_pos_of_pos_right _ hg)
    show (sgn (true && !decide (n2 * d1 - n1 * d2 = 0)) _ < 0 ↔ _) ∧ _
    rw [decide_eq_false hz]
    have : sgn (true && !false) ((n2 * d1 - n1 * d2) / Nat.gcd (n2 * d1 - n1 * d2) (d1 * d2)) = -1 := by unfold sgn; rw [if_neg (by omega), if_pos (by decide)]
    rw [this]
    omega
/-- Below of a number that is not below 0. -/
theorem rbelow_pos (w : World) (v : Value) (n d K : Nat) (h : RR w v false n d) (hd : 0 < d) (kn : (n : Int) < M.NB ^ K) (kd : (d : Int) < M.NB ^ K) (hK : K + 1 ≤ 17592186044) (hK1 : 1 ≤ K) :
    Calls Tryz.prog 131 #[v] w fun e w' => (∃ r, e = .returned r ∧ RR w' r false (n / d) 1) ∧ Below w.heap.size w w' := by
  have c := rbelow_calls w v false n d K h hd kn kd hK hK1
  have e : flN false n d = n / d := by unfold flN; rw [if_neg (by simp)]
  rw [e, Bool.false_and] at c
  exact c
end Go.Proofs.YtebnjolkolobhaaGreatDoor
