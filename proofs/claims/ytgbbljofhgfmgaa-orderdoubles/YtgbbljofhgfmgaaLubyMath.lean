/-
  Luby's row as a plain function, and what its first 2^k - 1 numbers add up to.
-/
namespace Go.Proofs.Ytgbbljofhgfmgaa.LB

def hp (i : Nat) : Nat := 2 ^ Nat.log2 i

theorem hp_le (i : Nat) (h : 1 ≤ i) : hp i ≤ i ∧ i < 2 * hp i ∧ 1 ≤ hp i := by
  have a := Nat.log2_self_le (n := i) (by omega)
  have b := @Nat.lt_log2_self i
  have c : 0 < 2 ^ Nat.log2 i := Nat.pos_of_ne_zero (by simp)
  rw [Nat.pow_succ] at b
  unfold hp
  omega

theorem hp_of (i k : Nat) (h1 : 2 ^ k ≤ i) (h2 : i < 2 ^ (k + 1)) : hp i = 2 ^ k := by
  have hi : i ≠ 0 := by have : 0 < 2 ^ k := Nat.pos_of_ne_zero (by simp); omega
  have a : k ≤ Nat.log2 i := (Nat.le_log2 hi).2 h1
  have b : Nat.log2 i < k + 1 := (Nat.log2_lt hi).2 h2
  have : Nat.log2 i = k := by omega
  unfold hp; rw [this]

def lubF : Nat → Nat → Nat
  | 0, _ => 0
  | f + 1, i => if i + 1 = 2 * hp i then hp i else lubF f (i - (hp i - 1))

def lub (i : Nat) : Nat := lubF i i

theorem down (i : Nat) (h : 1 ≤ i) (hne : i + 1 ≠ 2 * hp i) : 1 ≤ i - (hp i - 1) ∧ i - (hp i - 1) < i ∧ 2 ≤ hp i := by
  have a := hp_le i h
  have : hp i ≠ 1 := by
    intro e; rw [e] at a hne; omega
  omega

theorem lubF_fuel : ∀ (n f g i : Nat), i ≤ n → 1 ≤ i → i ≤ f → i ≤ g → lubF f i = lubF g i := by
  intro n
  induction n with
  | zero => intro f g i h1 h2; omega
  | succ n ih =>
    intro f g i hn h1 hf hg
    cases f with
    | zero => omega
    | succ f =>
      cases g with
      | zero => omega
      | succ g =>
        simp only [lubF]
        by_cases e : i + 1 = 2 * hp i
        · rw [if_pos e, if_pos e]
        · rw [if_neg e, if_neg e]
          have d := down i h1 e
          exact ih f g _ (by omega) d.1 (by omega) (by omega)

theorem lub_top (i : Nat) (h : 1 ≤ i) (e : i + 1 = 2 * hp i) : lub i = hp i := by
  unfold lub
  cases i with
  | zero => omega
  | succ i => rw [lubF, if_pos e]

theorem lub_down (i : Nat) (h : 1 ≤ i) (e : i + 1 ≠ 2 * hp i) : lub i = lub (i - (hp i - 1)) := by
  have d := down i h e
  unfold lub
  cases i with
  | zero => omega
  | succ i =>
    rw [lubF, if_neg e]
    exact lubF_fuel (i + 1) _ _ _ (by omega) d.1 (by omega) (by omega)

theorem lub_bd (i : Nat) : ∀ n, n ≤ i → 1 ≤ n → 1 ≤ lub n ∧ lub n ≤ n := by
  induction i with
  | zero => intro n h1 h2; omega
  | succ i ih =>
    intro n h1 h2
    by_cases e : n + 1 = 2 * hp n
    · rw [lub_top n h2 e]; have := hp_le n h2; omega
    · rw [lub_down n h2 e]
      have d := down n h2 e
      have := ih (n - (hp n - 1)) (by omega) d.1
      omega

theorem pow_pos2 (k : Nat) : 1 ≤ 2 ^ k := Nat.pos_of_ne_zero (by simp)

/-- At the places 2^k to 2^(k+1) - 2 the row begins anew. -/
theorem lub_again (k m : Nat) (h1 : 1 ≤ m) (h2 : m + 1 ≤ 2 ^ k) : lub (2 ^ k - 1 + m) = lub m := by
  have p := pow_pos2 k
  have e : hp (2 ^ k - 1 + m) = 2 ^ k := hp_of _ k (by omega) (by rw [Nat.pow_succ]; omega)
  rw [lub_down _ (by omega) (by rw [e]; omega), e]
  congr 1
  omega

theorem lub_end (k : Nat) : lub (2 ^ (k + 1) - 1) = 2 ^ k := by
  have p := pow_pos2 k
  have q : 2 ^ (k + 1) = 2 * 2 ^ k := by rw [Nat.pow_succ]; omega
  have e : hp (2 ^ (k + 1) - 1) = 2 ^ k := hp_of _ k (by omega) (by omega)
  rw [lub_top _ (by omega) (by rw [e]; omega), e]

/-- The sum of the first n numbers. -/
def sm : Nat → Nat
  | 0 => 0
  | n + 1 => sm n + lub (n + 1)

/-- How many of the first n numbers are v. -/
def ct (v : Nat) : Nat → Nat
  | 0 => 0
  | n + 1 => ct v n + if lub (n + 1) = v then 1 else 0

theorem sm_again (k : Nat) : ∀ m, m + 1 ≤ 2 ^ k → sm (2 ^ k - 1 + m) = sm (2 ^ k - 1) + sm m := by
  intro m
  induction m with
  | zero => intro _; rfl
  | succ m ih =>
    intro h
    have := ih (by omega)
    show sm (2 ^ k - 1 + m) + lub (2 ^ k - 1 + m + 1) = _
    rw [this, show 2 ^ k - 1 + m + 1 = 2 ^ k - 1 + (m + 1) by omega, lub_again k (m + 1) (by omega) (by omega)]
    show _ = sm (2 ^ k - 1) + (sm m + lub (m + 1))
    omega

theorem ct_again (v k : Nat) : ∀ m, m + 1 ≤ 2 ^ k → ct v (2 ^ k - 1 + m) = ct v (2 ^ k - 1) + ct v m := by
  intro m
  induction m with
  | zero => intro _; rfl
  | succ m ih =>
    intro h
    have := ih (by omega)
    show ct v (2 ^ k - 1 + m) + (if lub (2 ^ k - 1 + m + 1) = v then 1 else 0) = _
    rw [this, show 2 ^ k - 1 + m + 1 = 2 ^ k - 1 + (m + 1) by omega, lub_again k (m + 1) (by omega) (by omega)]
    show _ = ct v (2 ^ k - 1) + (ct v m + if lub (m + 1) = v then 1 else 0)
    omega

theorem top_split (k : Nat) : 2 ^ (k + 1) - 1 = (2 ^ k - 1 + (2 ^ k - 1)) + 1 := by
  have p := pow_pos2 k
  rw [Nat.pow_succ]; omega

theorem sm_all : ∀ k, 2 * sm (2 ^ k - 1) = k * 2 ^ k := by
  intro k
  induction k with
  | zero => rfl
  | succ k ih =>
    have p := pow_pos2 k
    have e := lub_end k
    rw [top_split] at e ⊢
    show 2 * (sm (2 ^ k - 1 + (2 ^ k - 1)) + lub (2 ^ k - 1 + (2 ^ k - 1) + 1)) = _
    rw [e, sm_again k _ (by omega), Nat.pow_succ, Nat.add_mul]
    have : k * (2 ^ k * 2) = 2 * (k * 2 ^ k) := by rw [← Nat.mul_assoc]; omega
    rw [this]
    omega

theorem ct_all : ∀ k j, ct (2 ^ j) (2 ^ k - 1) = if j < k then 2 ^ (k - 1 - j) else 0 := by
  intro k
  induction k with
  | zero => intro j; simp [ct]
  | succ k ih =>
    intro j
    have p := pow_pos2 k
    have e := lub_end k
    rw [top_split] at e ⊢
    show ct (2 ^ j) (2 ^ k - 1 + (2 ^ k - 1)) + (if lub (2 ^ k - 1 + (2 ^ k - 1) + 1) = 2 ^ j then 1 else 0) = _
    rw [e, ct_again _ k _ (by omega), ih j]
    by_cases h1 : j < k
    · have hne : ¬ 2 ^ k = 2 ^ j := by intro h; have := Nat.pow_lt_pow_right (a := 2) (by omega) h1; omega
      rw [if_pos h1, if_neg hne, if_pos (show j < k + 1 by omega)]
      rw [show k + 1 - 1 - j = (k - 1 - j) + 1 by omega, Nat.pow_succ]
      omega
    · rw [if_neg h1]
      by_cases h2 : j = k
      · subst h2
        rw [if_pos rfl, if_pos (show j < j + 1 by omega), show j + 1 - 1 - j = 0 by omega]
      · have hne : ¬ 2 ^ k = 2 ^ j := by intro h; have := Nat.pow_lt_pow_right (a := 2) (by omega) (show k < j by omega); omega
        rw [if_neg hne, if_neg (show ¬ j < k + 1 by omega)]

/-- Each number of the row up to the place 2^k - 1 is a power of two below 2^k. -/
theorem lub_pow : ∀ k i, 1 ≤ i → i + 1 ≤ 2 ^ k → ∃ j, j < k ∧ lub i = 2 ^ j := by
  intro k
  induction k with
  | zero => intro i h1 h2; simp at h2; omega
  | succ k ih =>
    intro i h1 h2
    have p := pow_pos2 k
    rw [Nat.pow_succ] at h2
    by_cases a : i + 1 ≤ 2 ^ k
    · obtain ⟨j, hj, e⟩ := ih i h1 a
      exact ⟨j, by omega, e⟩
    · by_cases b : i + 1 = 2 * 2 ^ k
      · refine ⟨k, by omega, ?_⟩
        have e := lub_end k
        rw [Nat.pow_succ, show 2 ^ k * 2 - 1 = i by omega] at e
        exact e
      · obtain ⟨j, hj, e⟩ := ih (i - (2 ^ k - 1)) (by omega) (by omega)
        refine ⟨j, by omega, ?_⟩
        have := lub_again k (i - (2 ^ k - 1)) (by omega) (by omega)
        rw [show 2 ^ k - 1 + (i - (2 ^ k - 1)) = i by omega] at this
        rw [this, e]

theorem pow_inj2 {a b : Nat} (h : 2 ^ a = 2 ^ b) : a = b := by
  rcases Nat.lt_trichotomy a b with c | c | c
  · have := Nat.pow_lt_pow_right (a := 2) (by omega) c; omega
  · exact c
  · have := Nat.pow_lt_pow_right (a := 2) (by omega) c; omega

end Go.Proofs.Ytgbbljofhgfmgaa.LB
