/-
  Plain facts on lists of digits to the base B, lowest first: what number a list is, what it becomes when one digit is set. No program, no world.
-/
namespace Go.Proofs.Ytigbclhkmjcjjaa.M

variable {B : Int}

/-- The number that a list of digits is. -/
def val (B : Int) : List Int → Int
  | [] => 0
  | d :: l => d + B * val B l

/-- Each digit is one. -/
def Dig (B : Int) (l : List Int) : Prop := ∀ d, d ∈ l → 0 ≤ d ∧ d < B

theorem Dig.nil : Dig B [] := by intro d h; cases h
theorem Dig.cons {d : Int} {l : List Int} (h0 : 0 ≤ d) (h1 : d < B) (h : Dig B l) : Dig B (d :: l) := by
  intro x hx
  rcases List.mem_cons.1 hx with rfl | hx
  · exact ⟨h0, h1⟩
  · exact h x hx
theorem Dig.append {a b : List Int} (ha : Dig B a) (hb : Dig B b) : Dig B (a ++ b) := by
  intro d hd
  rcases List.mem_append.1 hd with h | h
  · exact ha d h
  · exact hb d h
theorem Dig.take {l : List Int} (h : Dig B l) (k : Nat) : Dig B (l.take k) := fun d hd => h d (List.mem_of_mem_take hd)
theorem Dig.drop {l : List Int} (h : Dig B l) (k : Nat) : Dig B (l.drop k) := fun d hd => h d (List.mem_of_mem_drop hd)
theorem Dig.set {l : List Int} (h : Dig B l) (k : Nat) {x : Int} (h0 : 0 ≤ x) (h1 : x < B) : Dig B (l.set k x) := by
  intro d hd
  rcases List.mem_or_eq_of_mem_set hd with h' | rfl
  · exact h d h'
  · exact ⟨h0, h1⟩
theorem Dig.replicate (hB : 0 < B) (n : Nat) : Dig B (List.replicate n 0) := by
  intro d hd
  rw [(List.mem_replicate.1 hd).2]
  exact ⟨Int.le_refl _, hB⟩
theorem Dig.getD (hB : 0 < B) {l : List Int} (h : Dig B l) (k : Nat) : 0 ≤ l.getD k 0 ∧ l.getD k 0 < B := by
  rw [List.getD_eq_getElem?_getD]
  cases hk : l[k]? with
  | none => exact ⟨Int.le_refl _, hB⟩
  | some x => exact h x (List.mem_of_getElem? hk)

theorem val_append (a b : List Int) : val B (a ++ b) = val B a + B ^ a.length * val B b := by
  induction a with
  | nil => simp [val]
  | cons d l ih =>
    simp only [List.cons_append, val, ih, List.length_cons]
    rw [Int.pow_succ]
    grind
theorem val_replicate (n : Nat) : val B (List.replicate n 0) = 0 := by
  induction n with
  | zero => rfl
  | succ n ih => simp [List.replicate_succ, val, ih]
theorem val_nonneg (hB : 0 < B) {l : List Int} (h : Dig B l) : 0 ≤ val B l := by
  induction l with
  | nil => exact Int.le_refl _
  | cons d l ih =>
    have h1 := (h d (by simp)).1
    have h2 := ih (fun x hx => h x (by simp [hx]))
    have := Int.mul_nonneg (Int.le_of_lt hB) h2
    simp only [val]; omega
theorem pow_pos (hB : 0 < B) (n : Nat) : 0 < B ^ n := Int.pow_pos hB
theorem val_lt (hB : 0 < B) {l : List Int} (h : Dig B l) : val B l < B ^ l.length := by
  induction l with
  | nil => simp [val]
  | cons d l ih =>
    have h1 := (h d (by simp)).2
    have h2 := ih (fun x hx => h x (by simp [hx]))
    have h3 : B * (val B l + 1) ≤ B * B ^ l.length := Int.mul_le_mul_of_nonneg_left (by omega) (Int.le_of_lt hB)
    simp only [val, List.length_cons]
    rw [Int.pow_succ]
    grind
theorem val_take_succ (l : List Int) (k : Nat) (h : k < l.length) : val B (l.take (k + 1)) = val B (l.take k) + B ^ k * l.getD k 0 := by
  rw [List.take_succ_eq_append_getElem h, val_append]
  simp only [val, List.length_take, List.getD_eq_getElem?_getD, List.getElem?_eq_getElem h, Option.getD_some]
  rw [Nat.min_eq_left (Nat.le_of_lt h)]
  grind
theorem val_take_drop (l : List Int) (k : Nat) (h : k ≤ l.length) : val B l = val B (l.take k) + B ^ k * val B (l.drop k) := by
  have := val_append (B := B) (l.take k) (l.drop k)
  rw [List.take_append_drop] at this
  rw [this, List.length_take, Nat.min_eq_left h]
theorem val_set (l : List Int) (j : Nat) (x : Int) (h : j < l.length) : val B (l.set j x) = val B l + B ^ j * (x - l.getD j 0) := by
  induction l generalizing j with
  | nil => simp at h
  | cons d l ih =>
    cases j with
    | zero => simp [val]; grind
    | succ j =>
      have := ih j (by simpa using h)
      simp only [List.set_cons_succ, val, this, List.getD_cons_succ]
      rw [Int.pow_succ]
      grind

/-- No zero at the top. -/
def Trm (l : List Int) : Prop := ∀ h : l ≠ [], l.getLast h ≠ 0

/-- The zeros at the top taken away. -/
def trimmed (l : List Int) : List Int := (l.reverse.dropWhile (· == 0)).reverse

theorem Trm.nil : Trm [] := fun h => absurd rfl h
theorem trimmed_nil : trimmed [] = [] := rfl
theorem trimmed_snoc (l : List Int) (d : Int) : trimmed (l ++ [d]) = if d = 0 then trimmed l else l ++ [d] := by
  unfold trimmed
  rw [List.reverse_append]
  by_cases h : d = 0
  · simp [h]
  · simp [h]
theorem list_snoc_ind {P : List Int → Prop} (h0 : P []) (hs : ∀ l d, P l → P (l ++ [d])) (l : List Int) : P l := by
  have : ∀ r : List Int, P r.reverse := by
    intro r
    induction r with
    | nil => exact h0
    | cons d r ih => rw [List.reverse_cons]; exact hs _ _ ih
  simpa using this l.reverse
theorem trimmed_trm (l : List Int) : Trm (trimmed l) := by
  induction l using list_snoc_ind with
  | h0 => exact Trm.nil
  | hs l d ih =>
    rw [trimmed_snoc]
    by_cases h : d = 0
    · rw [if_pos h]; exact ih
    · rw [if_neg h]; intro _; simpa using h
theorem trimmed_val (l : List Int) : val B (trimmed l) = val B l := by
  induction l using list_snoc_ind with
  | h0 => rfl
  | hs l d ih =>
    rw [trimmed_snoc]
    by_cases h : d = 0
    · rw [if_pos h, ih, val_append, h]; simp [val]
    · rw [if_neg h]
theorem trimmed_take (l : List Int) : trimmed l = l.take (trimmed l).length := by
  induction l using list_snoc_ind with
  | h0 => rfl
  | hs l d ih =>
    rw [trimmed_snoc]
    by_cases h : d = 0
    · rw [if_pos h]
      have hl : (trimmed l).length ≤ l.length := by
        have := congrArg List.length ih
        rw [List.length_take] at this
        omega
      rw [List.take_append_of_le_length hl]
      exact ih
    · rw [if_neg h]; exact (List.take_of_length_le (Nat.le_refl _)).symm
theorem trimmed_le (l : List Int) : (trimmed l).length ≤ l.length := by
  have := congrArg List.length (trimmed_take l)
  rw [List.length_take] at this
  omega
theorem trimmed_getD (l : List Int) (j : Nat) (h : j < (trimmed l).length) : (trimmed l).getD j 0 = l.getD j 0 := by
  have e := trimmed_take l
  rw [List.getD_eq_getElem?_getD, List.getD_eq_getElem?_getD, e, List.getElem?_take, if_pos h]
theorem trimmed_dig {l : List Int} (h : Dig B l) : Dig B (trimmed l) := by rw [trimmed_take]; exact h.take _
theorem trimmed_of_trm {l : List Int} (h : Trm l) : trimmed l = l := by
  revert h
  induction l using list_snoc_ind with
  | h0 => intro _; rfl
  | hs l d ih =>
    intro h
    have : d ≠ 0 := by simpa using h (by simp)
    rw [trimmed_snoc, if_neg this]
/-- What the loop of trim leaves behind when the first k of l are looked at. -/
theorem trimmed_take_zero (l : List Int) (k : Nat) (h : k < l.length) (hz : l.getD k 0 = 0) : trimmed (l.take (k + 1)) = trimmed (l.take k) := by
  rw [List.take_succ_eq_append_getElem h, trimmed_snoc, if_pos]
  simpa [List.getD_eq_getElem?_getD, List.getElem?_eq_getElem h] using hz
theorem trimmed_take_nonzero (l : List Int) (k : Nat) (h : k < l.length) (hz : l.getD k 0 ≠ 0) : trimmed (l.take (k + 1)) = l.take (k + 1) := by
  rw [List.take_succ_eq_append_getElem h, trimmed_snoc, if_neg]
  simpa [List.getD_eq_getElem?_getD, List.getElem?_eq_getElem h] using hz

/-- A trimmed list that is not empty is at least its top place. -/
theorem Trm.val_ge (hB : 0 < B) {l : List Int} (hd : Dig B l) (ht : Trm l) (hne : l ≠ []) : B ^ (l.length - 1) ≤ val B l := by
  revert hd ht hne
  induction l using list_snoc_ind with
  | h0 => intro _ _ h; exact absurd rfl h
  | hs l d _ =>
    intro hd ht _
    have h1 : d ≠ 0 := by simpa using ht (by simp)
    have h2 := hd d (by simp)
    have h3 : 0 ≤ val B l := val_nonneg hB (fun x hx => hd x (by simp [hx]))
    have h4 : B ^ l.length * 1 ≤ B ^ l.length * d := Int.mul_le_mul_of_nonneg_left (by omega) (Int.le_of_lt (pow_pos hB _))
    simp only [List.length_append, List.length_singleton, Nat.add_sub_cancel, val_append, val]
    grind
theorem pow_le (hB : 0 < B) {a b : Nat} (h : a ≤ b) : B ^ a ≤ B ^ b := by
  obtain ⟨c, rfl⟩ := Nat.le.dest h
  rw [Int.pow_add]
  have := Int.mul_le_mul_of_nonneg_left (show (1 : Int) ≤ B ^ c from pow_pos hB c) (Int.le_of_lt (pow_pos hB a))
  omega
/-- Of two trimmed lists the longer one is the greater number. -/
theorem lt_of_length (hB : 0 < B) {a b : List Int} (ha : Dig B a) (hb : Dig B b) (htb : Trm b) (h : a.length < b.length) : val B a < val B b := by
  have h1 := val_lt hB ha
  have h2 := htb.val_ge hB hb (by intro e; subst e; simp at h)
  have h3 := pow_le hB (show a.length ≤ b.length - 1 by omega)
  omega
theorem length_of_le (hB : 0 < B) {a b : List Int} (ha : Dig B a) (hb : Dig B b) (hta : Trm a) (h : val B a ≤ val B b) : a.length ≤ b.length := by
  rcases Nat.lt_or_ge b.length a.length with h' | h'
  · have := lt_of_length hB hb ha hta h'
    omega
  · exact h'
theorem eq_nil_of_val (hB : 0 < B) {l : List Int} (hd : Dig B l) (ht : Trm l) (h : val B l = 0) : l = [] := by
  by_cases e : l = []
  · exact e
  · have h1 := ht.val_ge hB hd e
    have := pow_pos hB (l.length - 1)
    omega
/-- Two lists of one length whose top parts are alike part where the next digits do. -/
theorem lt_of_digit (hB : 0 < B) {a b : List Int} (ha : Dig B a) (hb : Dig B b) (hl : a.length = b.length) (k : Nat) (hk : k < a.length) (htop : a.drop (k + 1) = b.drop (k + 1)) (h : a.getD k 0 < b.getD k 0) : val B a < val B b := by
  have e1 := val_take_drop (B := B) a (k + 1) (by omega)
  have e2 := val_take_drop (B := B) b (k + 1) (by omega)
  rw [val_take_succ a k hk] at e1
  rw [val_take_succ b k (by omega)] at e2
  have h1 := val_lt hB (ha.take k)
  have h2 := val_nonneg hB (hb.take k)
  rw [List.length_take, Nat.min_eq_left (by omega)] at h1
  rw [htop] at e1
  have h3 : B ^ k * (a.getD k 0 + 1) ≤ B ^ k * b.getD k 0 := Int.mul_le_mul_of_nonneg_left (by omega) (Int.le_of_lt (pow_pos hB k))
  grind
/-- Trimmed lists are alike where their numbers are. -/
theorem eq_of_val (hB : 0 < B) {a b : List Int} (ha : Dig B a) (hb : Dig B b) (hta : Trm a) (htb : Trm b) (h : val B a = val B b) : a = b := by
  have hl : a.length = b.length := Nat.le_antisymm (length_of_le hB ha hb hta (by omega)) (length_of_le hB hb ha htb (by omega))
  have main : ∀ k, k ≤ a.length → a.drop (a.length - k) = b.drop (a.length - k) := by
    intro k
    induction k with
    | zero => intro _; simp [hl]
    | succ k ih =>
      intro hk
      have h1 := ih (by omega)
      have hj : a.length - (k + 1) < a.length := by omega
      have e : a.length - k = a.length - (k + 1) + 1 := by omega
      rw [e] at h1
      have h2 : a.getD (a.length - (k + 1)) 0 = b.getD (a.length - (k + 1)) 0 := by
        rcases Int.lt_trichotomy (a.getD (a.length - (k + 1)) 0) (b.getD (a.length - (k + 1)) 0) with h' | h' | h'
        · have := lt_of_digit hB ha hb hl _ hj h1 h'; omega
        · exact h'
        · have := lt_of_digit hB hb ha hl.symm _ (by omega) h1.symm h'; omega
      rw [List.drop_eq_getElem_cons hj, List.drop_eq_getElem_cons (by omega : a.length - (k + 1) < b.length), h1]
      simp only [List.getD_eq_getElem?_getD, List.getElem?_eq_getElem hj, List.getElem?_eq_getElem (by omega : a.length - (k + 1) < b.length), Option.getD_some] at h2
      rw [h2]
  have := main a.length (Nat.le_refl _)
  simpa using this
theorem length_le_of_lt (hB : 0 < B) {l : List Int} (hd : Dig B l) (ht : Trm l) {n : Nat} (h : val B l < B ^ n) : l.length ≤ n := by
  by_cases e : l = []
  · subst e; simp
  · have h2 := ht.val_ge hB hd e
    rcases Nat.lt_or_ge n l.length with h3 | h3
    · have := pow_le hB (show n ≤ l.length - 1 by omega)
      omega
    · exact h3
theorem mul_val_lt (hB : 0 < B) {a b : List Int} (ha : Dig B a) (hb : Dig B b) : val B a * val B b < B ^ (a.length + b.length) := by
  have h1 := val_lt hB ha
  have h2 := val_lt hB hb
  have h3 := val_nonneg hB ha
  have h4 := val_nonneg hB hb
  have h5 := pow_pos hB b.length
  rw [Int.pow_add]
  have h6 : val B a * val B b ≤ val B a * B ^ b.length := Int.mul_le_mul_of_nonneg_left (by omega) h3
  have h7 : val B a * B ^ b.length < B ^ a.length * B ^ b.length := Int.mul_lt_mul_of_pos_right h1 h5
  omega
end Go.Proofs.Ytigbclhkmjcjjaa.M
