/- Laid together of: Math, Knuth, GcdMath, LehmerMath, Dec, RefMath. -/
import Derived.Lib.TrailingZeros
import Derived.Test.YtlepicdpelkmlaaGreatDoorProg
import Derived.Lib.ItoaNum
import Derived.Lib.TrimByte
/- ==== Math ==== -/
namespace Go.Proofs.YtlepicdpelkmlaaGreatDoor.M

variable {B : Int}

/-- The number that a list of digits is. -/
def val (B : Int) : List Int → Int
  | [] => 0
  | d :: l => d + B * val B l

/-- Each digit is one. -/
def Dig (B : Int) (l : List Int) : Prop := ∀ d, d ∈ l → 0 ≤ d ∧ d < B

theorem Dig.nil : Dig B [] := by intro d h; cases h
theorem Dig.cons {d : Int} {l : List Int} (h0 : 0 ≤ d) (h1 : d < B) (h : Dig B l) : Dig B (d :: l) := by
  intro x hx
  rcases List.mem_cons.1 hx with rfl | hx
  · exact ⟨h0, h1⟩
  · exact h x hx
theorem Dig.append {a b : List Int} (ha : Dig B a) (hb : Dig B b) : Dig B (a ++ b) := by
  intro d hd
  rcases List.mem_append.1 hd with h | h
  · exact ha d h
  · exact hb d h
theorem Dig.take {l : List Int} (h : Dig B l) (k : Nat) : Dig B (l.take k) := fun d hd => h d (List.mem_of_mem_take hd)
theorem Dig.drop {l : List Int} (h : Dig B l) (k : Nat) : Dig B (l.drop k) := fun d hd => h d (List.mem_of_mem_drop hd)
theorem Dig.set {l : List Int} (h : Dig B l) (k : Nat) {x : Int} (h0 : 0 ≤ x) (h1 : x < B) : Dig B (l.set k x) := by
  intro d hd
  rcases List.mem_or_eq_of_mem_set hd with h' | rfl
  · exact h d h'
  · exact ⟨h0, h1⟩
theorem Dig.replicate (hB : 0 < B) (n : Nat) : Dig B (List.replicate n 0) := by
  intro d hd
  rw [(List.mem_replicate.1 hd).2]
  exact ⟨Int.le_refl _, hB⟩
theorem Dig.getD (hB : 0 < B) {l : List Int} (h : Dig B l) (k : Nat) : 0 ≤ l.getD k 0 ∧ l.getD k 0 < B := by
  rw [List.getD_eq_getElem?_getD]
  cases hk : l[k]? with
  | none => exact ⟨Int.le_refl _, hB⟩
  | some x => exact h x (List.mem_of_getElem? hk)

theorem val_append (a b : List Int) : val B (a ++ b) = val B a + B ^ a.length * val B b := by
  induction a with
  | nil => simp [val]
  | cons d l ih =>
    simp only [List.cons_append, val, ih, List.length_cons]
    rw [Int.pow_succ]
    grind
theorem val_replicate (n : Nat) : val B (List.replicate n 0) = 0 := by
  induction n with
  | zero => rfl
  | succ n ih => simp [List.replicate_succ, val, ih]
theorem val_nonneg (hB : 0 < B) {l : List Int} (h : Dig B l) : 0 ≤ val B l := by
  induction l with
  | nil => exact Int.le_refl _
  | cons d l ih =>
    have h1 := (h d (by simp)).1
    have h2 := ih (fun x hx => h x (by simp [hx]))
    have := Int.mul_nonneg (Int.le_of_lt hB) h2
    simp only [val]; omega
theorem pow_pos (hB : 0 < B) (n : Nat) : 0 < B ^ n := Int.pow_pos hB
theorem val_lt (hB : 0 < B) {l : List Int} (h : Dig B l) : val B l < B ^ l.length := by
  induction l with
  | nil => simp [val]
  | cons d l ih =>
    have h1 := (h d (by simp)).2
    have h2 := ih (fun x hx => h x (by simp [hx]))
    have h3 : B * (val B l + 1) ≤ B * B ^ l.length := Int.mul_le_mul_of_nonneg_left (by omega) (Int.le_of_lt hB)
    simp only [val, List.length_cons]
    rw [Int.pow_succ]
    grind
theorem val_take_succ (l : List Int) (k : Nat) (h : k < l.length) : val B (l.take (k + 1)) = val B (l.take k) + B ^ k * l.getD k 0 := by
  rw [List.take_succ_eq_append_getElem h, val_append]
  simp only [val, List.length_take, List.getD_eq_getElem?_getD, List.getElem?_eq_getElem h, Option.getD_some]
  rw [Nat.min_eq_left (Nat.le_of_lt h)]
  grind
theorem val_take_drop (l : List Int) (k : Nat) (h : k ≤ l.length) : val B l = val B (l.take k) + B ^ k * val B (l.drop k) := by
  have := val_append (B := B) (l.take k) (l.drop k)
  rw [List.take_append_drop] at this
  rw [this, List.length_take, Nat.min_eq_left h]
theorem val_set (l : List Int) (j : Nat) (x : Int) (h : j < l.length) : val B (l.set j x) = val B l + B ^ j * (x - l.getD j 0) := by
  induction l generalizing j with
  | nil => simp at h
  | cons d l ih =>
    cases j with
    | zero => simp [val]; grind
    | succ j =>
      have := ih j (by simpa using h)
      simp only [List.set_cons_succ, val, this, List.getD_cons_succ]
      rw [Int.pow_succ]
      grind

/-- No zero at the top. -/
def Trm (l : List Int) : Prop := ∀ h : l ≠ [], l.getLast h ≠ 0

/-- The zeros at the top taken away. -/
def trimmed (l : List Int) : List Int := (l.reverse.dropWhile (· == 0)).reverse

theorem Trm.nil : Trm [] := fun h => absurd rfl h
theorem trimmed_nil : trimmed [] = [] := rfl
theorem trimmed_snoc (l : List Int) (d : Int) : trimmed (l ++ [d]) = if d = 0 then trimmed l else l ++ [d] := by
  unfold trimmed
  rw [List.reverse_append]
  by_cases h : d = 0
  · simp [h]
  · simp [h]
theorem list_snoc_ind {P : List Int → Prop} (h0 : P []) (hs : ∀ l d, P l → P (l ++ [d])) (l : List Int) : P l := by
  have : ∀ r : List Int, P r.reverse := by
    intro r
    induction r with
    | nil => exact h0
    | cons d r ih => rw [List.reverse_cons]; exact hs _ _ ih
  simpa using this l.reverse
theorem trimmed_trm (l : List Int) : Trm (trimmed l) := by
  induction l using list_snoc_ind with
  | h0 => exact Trm.nil
  | hs l d ih =>
    rw [trimmed_snoc]
    by_cases h : d = 0
    · rw [if_pos h]; exact ih
    · rw [if_neg h]; intro _; simpa using h
theorem trimmed_val (l : List Int) : val B (trimmed l) = val B l := by
  induction l using list_snoc_ind with
  | h0 => rfl
  | hs l d ih =>
    rw [trimmed_snoc]
    by_cases h : d = 0
    · rw [if_pos h, ih, val_append, h]; simp [val]
    · rw [if_neg h]
theorem trimmed_take (l : List Int) : trimmed l = l.take (trimmed l).length := by
  induction l using list_snoc_ind with
  | h0 => rfl
  | hs l d ih =>
    rw [trimmed_snoc]
    by_cases h : d = 0
    · rw [if_pos h]
      have hl : (trimmed l).length ≤ l.length := by
        have := congrArg List.length ih
        rw [List.length_take] at this
        omega
      rw [List.take_append_of_le_length hl]
      exact ih
    · rw [if_neg h]; exact (List.take_of_length_le (Nat.le_refl _)).symm
theorem trimmed_le (l : List Int) : (trimmed l).length ≤ l.length := by
  have := congrArg List.length (trimmed_take l)
  rw [List.length_take] at this
  omega
theorem trimmed_getD (l : List Int) (j : Nat) (h : j < (trimmed l).length) : (trimmed l).getD j 0 = l.getD j 0 := by
  have e := trimmed_take l
  rw [List.getD_eq_getElem?_getD, List.getD_eq_getElem?_getD, e, List.getElem?_take, if_pos h]
theorem trimmed_dig {l : List Int} (h : Dig B l) : Dig B (trimmed l) := by rw [trimmed_take]; exact h.take _
theorem trimmed_of_trm {l : List Int} (h : Trm l) : trimmed l = l := by
  revert h
  induction l using list_snoc_ind with
  | h0 => intro _; rfl
  | hs l d ih =>
    intro h
    have : d ≠ 0 := by simpa using h (by simp)
    rw [trimmed_snoc, if_neg this]
/-- What the loop of trim leaves behind when the first k of l are looked at. -/
theorem trimmed_take_zero (l : List Int) (k : Nat) (h : k < l.length) (hz : l.getD k 0 = 0) : trimmed (l.take (k + 1)) = trimmed (l.take k) := by
  rw [List.take_succ_eq_append_getElem h, trimmed_snoc, if_pos]
  simpa [List.getD_eq_getElem?_getD, List.getElem?_eq_getElem h] using hz
theorem trimmed_take_nonzero (l : List Int) (k : Nat) (h : k < l.length) (hz : l.getD k 0 ≠ 0) : trimmed (l.take (k + 1)) = l.take (k + 1) := by
  rw [List.take_succ_eq_append_getElem h, trimmed_snoc, if_neg]
  simpa [List.getD_eq_getElem?_getD, List.getElem?_eq_getElem h] using hz

/-- A trimmed list that is not empty is at least its top place. -/
theorem Trm.val_ge (hB : 0 < B) {l : List Int} (hd : Dig B l) (ht : Trm l) (hne : l ≠ []) : B ^ (l.length - 1) ≤ val B l := by
  revert hd ht hne
  induction l using list_snoc_ind with
  | h0 => intro _ _ h; exact absurd rfl h
  | hs l d _ =>
    intro hd ht _
    have h1 : d ≠ 0 := by simpa using ht (by simp)
    have h2 := hd d (by simp)
    have h3 : 0 ≤ val B l := val_nonneg hB (fun x hx => hd x (by simp [hx]))
    have h4 : B ^ l.length * 1 ≤ B ^ l.length * d := Int.mul_le_mul_of_nonneg_left (by omega) (Int.le_of_lt (pow_pos hB _))
    simp only [List.length_append, List.length_singleton, Nat.add_sub_cancel, val_append, val]
    grind
theorem pow_le (hB : 0 < B) {a b : Nat} (h : a ≤ b) : B ^ a ≤ B ^ b := by
  obtain ⟨c, rfl⟩ := Nat.le.dest h
  rw [Int.pow_add]
  have := Int.mul_le_mul_of_nonneg_left (show (1 : Int) ≤ B ^ c from pow_pos hB c) (Int.le_of_lt (pow_pos hB a))
  omega
/-- Of two trimmed lists the longer one is the greater number. -/
theorem lt_of_length (hB : 0 < B) {a b : List Int} (ha : Dig B a) (hb : Dig B b) (htb : Trm b) (h : a.length < b.length) : val B a < val B b := by
  have h1 := val_lt hB ha
  have h2 := htb.val_ge hB hb (by intro e; subst e; simp at h)
  have h3 := pow_le hB (show a.length ≤ b.length - 1 by omega)
  omega
theorem length_of_le (hB : 0 < B) {a b : List Int} (ha : Dig B a) (hb : Dig B b) (hta : Trm a) (h : val B a ≤ val B b) : a.length ≤ b.length := by
  rcases Nat.lt_or_ge b.length a.length with h' | h'
  · have := lt_of_length hB hb ha hta h'
    omega
  · exact h'
theorem eq_nil_of_val (hB : 0 < B) {l : List Int} (hd : Dig B l) (ht : Trm l) (h : val B l = 0) : l = [] := by
  by_cases e : l = []
  · exact e
  · have h1 := ht.val_ge hB hd e
    have := pow_pos hB (l.length - 1)
    omega
/-- Two lists of one length whose top parts are alike part where the next digits do. -/
theorem lt_of_digit (hB : 0 < B) {a b : List Int} (ha : Dig B a) (hb : Dig B b) (hl : a.length = b.length) (k : Nat) (hk : k < a.length) (htop : a.drop (k + 1) = b.drop (k + 1)) (h : a.getD k 0 < b.getD k 0) : val B a < val B b := by
  have e1 := val_take_drop (B := B) a (k + 1) (by omega)
  have e2 := val_take_drop (B := B) b (k + 1) (by omega)
  rw [val_take_succ a k hk] at e1
  rw [val_take_succ b k (by omega)] at e2
  have h1 := val_lt hB (ha.take k)
  have h2 := val_nonneg hB (hb.take k)
  rw [List.length_take, Nat.min_eq_left (by omega)] at h1
  rw [htop] at e1
  have h3 : B ^ k * (a.getD k 0 + 1) ≤ B ^ k * b.getD k 0 := Int.mul_le_mul_of_nonneg_left (by omega) (Int.le_of_lt (pow_pos hB k))
  grind
/-- Trimmed lists are alike where their numbers are. -/
theorem eq_of_val (hB : 0 < B) {a b : List Int} (ha : Dig B a) (hb : Dig B b) (hta : Trm a) (htb : Trm b) (h : val B a = val B b) : a = b := by
  have hl : a.length = b.length := Nat.le_antisymm (length_of_le hB ha hb hta (by omega)) (length_of_le hB hb ha htb (by omega))
  have main : ∀ k, k ≤ a.length → a.drop (a.length - k) = b.drop (a.length - k) := by
    intro k
    induction k with
    | zero => intro _; simp [hl]
    | succ k ih =>
      intro hk
      have h1 := ih (by omega)
      have hj : a.length - (k + 1) < a.length := by omega
      have e : a.length - k = a.length - (k + 1) + 1 := by omega
      rw [e] at h1
      have h2 : a.getD (a.length - (k + 1)) 0 = b.getD (a.length - (k + 1)) 0 := by
        rcases Int.lt_trichotomy (a.getD (a.length - (k + 1)) 0) (b.getD (a.length - (k + 1)) 0) with h' | h' | h'
        · have := lt_of_digit hB ha hb hl _ hj h1 h'; omega
        · exact h'
        · have := lt_of_digit hB hb ha hl.symm _ (by omega) h1.symm h'; omega
      rw [List.drop_eq_getElem_cons hj, List.drop_eq_getElem_cons (by omega : a.length - (k + 1) < b.length), h1]
      simp only [List.getD_eq_getElem?_getD, List.getElem?_eq_getElem hj, List.getElem?_eq_getElem (by omega : a.length - (k + 1) < b.length), Option.getD_some] at h2
      rw [h2]
  have := main a.length (Nat.le_refl _)
  simpa using this
theorem length_le_of_lt (hB : 0 < B) {l : List Int} (hd : Dig B l) (ht : Trm l) {n : Nat} (h : val B l < B ^ n) : l.length ≤ n := by
  by_cases e : l = []
  · subst e; simp
  · have h2 := ht.val_ge hB hd e
    rcases Nat.lt_or_ge n l.length with h3 | h3
    · have := pow_le hB (show n ≤ l.length - 1 by omega)
      omega
    · exact h3
theorem mul_val_lt (hB : 0 < B) {a b : List Int} (ha : Dig B a) (hb : Dig B b) : val B a * val B b < B ^ (a.length + b.length) := by
  have h1 := val_lt hB ha
  have h2 := val_lt hB hb
  have h3 := val_nonneg hB ha
  have h4 := val_nonneg hB hb
  have h5 := pow_pos hB b.length
  rw [Int.pow_add]
  have h6 : val B a * val B b ≤ val B a * B ^ b.length := Int.mul_le_mul_of_nonneg_left (by omega) h3
  have h7 : val B a * B ^ b.length < B ^ a.length * B ^ b.length := Int.mul_lt_mul_of_pos_right h1 h5
  omega
end Go.Proofs.YtlepicdpelkmlaaGreatDoor.M
/- ==== Knuth ==== -/
namespace Go.Proofs.YtlepicdpelkmlaaGreatDoor.M

section
variable {b U d Y Y1 Y0 q r : Int}

/-- What a half word of the quotient is sought from. -/
structure Half (b U d Y Y1 Y0 : Int) : Prop where
  b0 : 0 < b
  y : Y = Y1 * b + Y0
  y0 : 0 ≤ Y0
  y0b : Y0 < b
  y1 : b ≤ 2 * Y1
  y1b : Y1 < b
  u0 : 0 ≤ U
  uy : U < Y
  d0 : 0 ≤ d
  db : d < b

theorem Half.ypos (H : Half b U d Y Y1 Y0) : 0 < Y := by have := H.u0; have := H.uy; omega
theorem Half.y1pos (H : Half b U d Y Y1 Y0) : 0 < Y1 := by have := H.b0; have := H.y1; omega
theorem Half.q_lt (H : Half b U d Y Y1 Y0) : (U * b + d) / Y < b := by
  rw [Int.ediv_lt_iff_lt_mul H.ypos]
  have h1 : (U + 1) * b ≤ Y * b := Int.mul_le_mul_of_nonneg_right (by have := H.uy; omega) (Int.le_of_lt H.b0)
  have h2 := H.db
  rw [Int.mul_comm b Y]
  rw [Int.add_mul] at h1
  omega
theorem Half.q_nn (H : Half b U d Y Y1 Y0) : 0 ≤ (U * b + d) / Y :=
  Int.ediv_nonneg (by have := Int.mul_nonneg H.u0 (Int.le_of_lt H.b0); have := H.d0; omega) (Int.le_of_lt H.ypos)
theorem Half.start (H : Half b U d Y Y1 Y0) : (U * b + d) / Y ≤ U / Y1 ∧ U / Y1 ≤ b + 1 ∧ 0 ≤ U / Y1 ∧ 0 ≤ U / Y1 * Y1 ∧ U / Y1 * Y1 ≤ U ∧ U - U / Y1 * Y1 < Y1 := by
  have hy1 := H.y1pos
  have hq := H.q_nn
  refine ⟨?_, ?_, Int.ediv_nonneg H.u0 (Int.le_of_lt hy1), ?_, ?_, ?_⟩
  · rw [Int.le_ediv_iff_mul_le hy1]
    have h1 := Int.ediv_mul_le (U * b + d) (Int.ne_of_gt H.ypos)
    generalize (U * b + d) / Y = Q at *
    rw [H.y] at h1
    have h2 : Q * Y1 * b ≤ U * b + d := by
      have := Int.mul_nonneg hq H.y0
      grind
    have h3 : Q * Y1 * b < (U + 1) * b := by have := H.db; grind
    have := Int.lt_of_mul_lt_mul_right h3 (Int.le_of_lt H.b0)
    omega
  · have : U / Y1 < b + 2 := by
      rw [Int.ediv_lt_iff_lt_mul hy1]
      have h1 := H.uy
      rw [H.y] at h1
      have := H.y0b
      have := H.y1
      grind
    omega
  · exact Int.mul_nonneg (Int.ediv_nonneg H.u0 (Int.le_of_lt hy1)) (Int.le_of_lt hy1)
  · exact Int.ediv_mul_le U (Int.ne_of_gt hy1)
  · have h1 := Int.emod_lt_of_pos U hy1
    have h2 := Int.mul_ediv_add_emod U Y1
    rw [Int.mul_comm] at h2
    omega
theorem Half.more (H : Half b U d Y Y1 Y0) (hr : r + q * Y1 = U) (h : b ≤ q ∨ b * r + d < q * Y0) : (U * b + d) / Y ≤ q - 1 := by
  rcases h with h | h
  · have := H.q_lt; omega
  · have : (U * b + d) / Y < q := by
      rw [Int.ediv_lt_iff_lt_mul H.ypos, H.y, ← hr]
      grind
    omega
theorem Half.done (H : Half b U d Y Y1 Y0) (hr : r + q * Y1 = U) (h : q * Y0 ≤ b * r + d) : q ≤ (U * b + d) / Y := by
  rw [Int.le_ediv_iff_mul_le H.ypos, H.y, ← hr]
  grind
theorem Half.out (H : Half b U d Y Y1 Y0) (hr : r + q * Y1 = U) (h : b ≤ r) (hq : q ≤ b) : q ≤ (U * b + d) / Y := by
  refine H.done hr ?_
  have h1 : q * Y0 ≤ b * Y0 := Int.mul_le_mul_of_nonneg_right hq H.y0
  have h2 : b * Y0 ≤ b * b := Int.mul_le_mul_of_nonneg_left (Int.le_of_lt H.y0b) (Int.le_of_lt H.b0)
  have h3 : b * b ≤ b * r := Int.mul_le_mul_of_nonneg_left h (Int.le_of_lt H.b0)
  have := H.d0
  omega
theorem rest_eq (U b d Y : Int) : U * b + d - (U * b + d) / Y * Y = (U * b + d) % Y := by
  have := Int.mul_ediv_add_emod (U * b + d) Y
  rw [Int.mul_comm] at this
  omega
end

/-- Two half words of a quotient. -/
theorem two_halves {b U d0 d1 Y : Int} (hY : 0 < Y) : (U * b + d1) / Y * b + ((U * b + d1) % Y * b + d0) / Y = (U * (b * b) + (d1 * b + d0)) / Y ∧ ((U * b + d1) % Y * b + d0) % Y = (U * (b * b) + (d1 * b + d0)) % Y := by
  have h1 := Int.mul_ediv_add_emod (U * b + d1) Y
  generalize (U * b + d1) / Y = Q at *
  generalize (U * b + d1) % Y = V at *
  have e : U * (b * b) + (d1 * b + d0) = (V * b + d0) + Y * (Q * b) := by grind
  rw [e]
  constructor
  · rw [Int.add_mul_ediv_left _ _ (Int.ne_of_gt hY)]; omega
  · rw [Int.add_mul_emod_self_left]

/-- Both numbers taken 2^s times as great. -/
theorem scaled {A y p : Int} (hp : 0 < p) : (A * p) / (y * p) = A / y ∧ (A * p) % (y * p) / p = A % y := by
  constructor
  · exact Int.mul_ediv_mul_of_pos_left _ _ hp
  · have e : (A * p) % (y * p) = (A % y) * p := by
      rw [Int.emod_def, Int.emod_def, Int.mul_ediv_mul_of_pos_left _ _ hp]
      grind
    rw [e, Int.mul_ediv_cancel _ (Int.ne_of_gt hp)]
end Go.Proofs.YtlepicdpelkmlaaGreatDoor.M
/- ==== GcdMath ==== -/
namespace Go.Proofs.YtlepicdpelkmlaaGreatDoor.M

/-- What is left of a number when all twos are taken out of it. -/
def odd (x : Nat) : Nat := x / 2 ^ Lib.ctz 64 x

theorem odd_spec (x : Nat) (h0 : x ≠ 0) (h : x < 18446744073709551616) : x = 2 ^ Lib.ctz 64 x * odd x ∧ odd x % 2 = 1 ∧ Lib.ctz 64 x < 64 ∧ 0 < odd x ∧ odd x ≤ x := by
  obtain ⟨m, e, hl⟩ := Lib.ctzFrom_spec 64 x (by omega) h
  have ec : Lib.ctz 64 x = Lib.ctzFrom 64 x := by unfold Lib.ctz; rw [if_neg h0]
  have eo : odd x = 2 * m + 1 := by
    unfold odd
    rw [ec]
    conv => lhs; lhs; rw [e]
    exact Nat.mul_div_cancel_left _ (Nat.two_pow_pos _)
  rw [ec, eo]
  refine ⟨e, by omega, hl, by omega, ?_⟩
  rw [← eo]
  exact Nat.div_le_self _ _
theorem gcd_two_mul (a b : Nat) (h : a % 2 = 1) : Nat.gcd a (2 * b) = Nat.gcd a b := by
  have hc : Nat.Coprime a 2 := by
    unfold Nat.Coprime
    rw [Nat.gcd_comm, Nat.gcd_rec, h]
    rfl
  exact Nat.Coprime.gcd_mul_left_cancel_right b hc.symm
theorem gcd_pow_mul (a b : Nat) (h : a % 2 = 1) (k : Nat) : Nat.gcd a (2 ^ k * b) = Nat.gcd a b := by
  induction k with
  | zero => simp
  | succ k ih => rw [Nat.pow_succ, Nat.mul_comm (2 ^ k) 2, Nat.mul_assoc, gcd_two_mul _ _ h, ih]
/-- Twos taken out of the second number: the first is odd. -/
theorem gcd_odd (a b : Nat) (h : a % 2 = 1) (h0 : b ≠ 0) (hb : b < 18446744073709551616) : Nat.gcd a (odd b) = Nat.gcd a b := by
  have e := (odd_spec b h0 hb).1
  conv => rhs; rw [e]
  rw [gcd_pow_mul _ _ h]
theorem gcd_sub (a b : Nat) (h : a ≤ b) : Nat.gcd a (b - a) = Nat.gcd a b := Nat.gcd_sub_self_right h

/-- How often two divides the greater of two numbers' common parts. -/
theorem gcd_twos (a b i j : Nat) (oa ob : Nat) (ha : oa % 2 = 1) (hb : ob % 2 = 1) (ea : a = 2 ^ i * oa) (eb : b = 2 ^ j * ob) : Nat.gcd a b = 2 ^ min i j * Nat.gcd oa ob := by
  rcases Nat.le_total i j with h | h
  · rw [Nat.min_eq_left h, ea, eb]
    obtain ⟨c, rfl⟩ := Nat.le.dest h
    rw [Nat.pow_add, Nat.mul_assoc, Nat.gcd_mul_left, gcd_pow_mul _ _ ha]
  · rw [Nat.min_eq_right h, ea, eb]
    obtain ⟨c, rfl⟩ := Nat.le.dest h
    rw [Nat.pow_add, Nat.mul_assoc, Nat.gcd_mul_left, Nat.gcd_comm, gcd_pow_mul _ _ hb, Nat.gcd_comm]
theorem twos_unique {i j o o' : Nat} (h : 2 ^ i * o = 2 ^ j * o') (ho : o % 2 = 1) (ho' : o' % 2 = 1) : i = j := by
  rcases Nat.lt_trichotomy i j with hl | hl | hl
  · obtain ⟨c, rfl⟩ := Nat.le.dest (show i + 1 ≤ j from hl)
    rw [show i + 1 + c = i + (c + 1) by omega, Nat.pow_add, Nat.mul_assoc] at h
    have := Nat.eq_of_mul_eq_mul_left (Nat.two_pow_pos i) h
    rw [Nat.pow_succ, Nat.mul_comm (2 ^ c) 2, Nat.mul_assoc] at this
    omega
  · exact hl
  · obtain ⟨c, rfl⟩ := Nat.le.dest (show j + 1 ≤ i from hl)
    rw [show j + 1 + c = j + (c + 1) by omega, Nat.pow_add, Nat.mul_assoc] at h
    have := Nat.eq_of_mul_eq_mul_left (Nat.two_pow_pos j) h
    rw [Nat.pow_succ, Nat.mul_comm (2 ^ c) 2, Nat.mul_assoc] at this
    omega
theorem or_odd (a c : Nat) (h : a % 2 = 1) : (a ||| c) % 2 = 1 := by
  rw [Nat.or_mod_two_eq_one]
  exact .inl h
theorem ctz_or (a b : Nat) (ha : a ≠ 0) (hb : b ≠ 0) (ha1 : a < 18446744073709551616) (hb1 : b < 18446744073709551616) : Lib.ctz 64 (a ||| b) = min (Lib.ctz 64 a) (Lib.ctz 64 b) := by
  obtain ⟨ea, oa, _, _, _⟩ := odd_spec a ha ha1
  obtain ⟨eb, ob, _, _, _⟩ := odd_spec b hb hb1
  have hne : a ||| b ≠ 0 := by
    intro h
    have := Nat.left_le_or (n := a) (m := b)
    omega
  have hlt : a ||| b < 18446744073709551616 := Nat.or_lt_two_pow (n := 64) ha1 hb1
  obtain ⟨ex, ox, _, _, _⟩ := odd_spec (a ||| b) hne hlt
  rcases Nat.le_total (Lib.ctz 64 a) (Lib.ctz 64 b) with h | h
  · rw [Nat.min_eq_left h]
    obtain ⟨c, hc⟩ := Nat.le.dest h
    have e : a ||| b = 2 ^ Lib.ctz 64 a * (odd a ||| 2 ^ c * odd b) := by
      conv => lhs; rw [ea, eb, ← hc, Nat.pow_add, Nat.mul_assoc]
      rw [Nat.mul_comm _ (odd a), Nat.mul_comm _ (2 ^ c * odd b), Nat.mul_comm _ (odd a ||| _), ← Nat.shiftLeft_eq, ← Nat.shiftLeft_eq, ← Nat.shiftLeft_eq, Nat.shiftLeft_or_distrib]
    exact twos_unique (ex.symm.trans e) ox (or_odd _ _ oa)
  · rw [Nat.min_eq_right h]
    obtain ⟨c, hc⟩ := Nat.le.dest h
    have e : a ||| b = 2 ^ Lib.ctz 64 b * (odd b ||| 2 ^ c * odd a) := by
      rw [Nat.or_comm]
      conv => lhs; rw [eb, ea, ← hc, Nat.pow_add, Nat.mul_assoc]
      rw [Nat.mul_comm _ (odd b), Nat.mul_comm _ (2 ^ c * odd a), Nat.mul_comm _ (odd b ||| _), ← Nat.shiftLeft_eq, ← Nat.shiftLeft_eq, ← Nat.shiftLeft_eq, Nat.shiftLeft_or_distrib]
    exact twos_unique (ex.symm.trans e) ox (or_odd _ _ ob)
end Go.Proofs.YtlepicdpelkmlaaGreatDoor.M
/- ==== LehmerMath ==== -/
namespace Go.Proofs.YtlepicdpelkmlaaGreatDoor.M

/-- Steps of Euclid on X and Y: where they have come to. sg is 1 or -1. -/
structure Sim (X Y x y u1 u2 v1 v2 sg : Int) : Prop where
  hsg : sg = 1 ∨ sg = -1
  hu1 : 0 ≤ u1
  hu2 : 0 ≤ u2
  hv1 : 0 ≤ v1
  hv2 : 1 ≤ v2
  hus : 1 ≤ u1 + u2
  hle2 : u2 ≤ v2
  hles : u1 + u2 ≤ v1 + v2
  hy0 : 0 ≤ y
  hxy : y ≤ x
  hex : x = sg * (u1 * X - v1 * Y)
  hey : y = sg * (v2 * Y - u2 * X)
  hix : x * v2 + y * v1 = X
  hiy : x * u2 + y * u1 = Y
  hdet : u1 * v2 - u2 * v1 = sg

theorem Sim.start {X Y : Int} (hY : 0 ≤ Y) (h : Y ≤ X) : Sim X Y X Y 1 0 0 1 1 :=
  ⟨.inl rfl, by decide, by decide, by decide, by decide, by decide, by decide, by decide, hY, h, by omega, by omega, by omega, by omega, by decide⟩

section
variable {X Y x y u1 u2 v1 v2 sg : Int}

theorem Sim.q_pos (S : Sim X Y x y u1 u2 v1 v2 sg) (h : v2 ≤ y) : 1 ≤ x / y := by
  have := S.hv2
  rw [Int.le_ediv_iff_mul_le (by omega)]
  have := S.hxy
  omega
theorem Sim.next (S : Sim X Y x y u1 u2 v1 v2 sg) (h : v2 ≤ y) : Sim X Y y (x - x / y * y) u2 (u1 + x / y * u2) v2 (v1 + x / y * v2) (-sg) := by
  have hq := S.q_pos h
  have hv2 := S.hv2
  have hy : 0 < y := by omega
  have e1 := Int.mul_ediv_add_emod x y
  have e2 := Int.emod_nonneg x (Int.ne_of_gt hy)
  have e3 := Int.emod_lt_of_pos x hy
  have n1 := Int.mul_nonneg (show 0 ≤ x / y by omega) S.hu2
  have n2 := Int.mul_nonneg (show 0 ≤ x / y by omega) (show 0 ≤ v2 by omega)
  have n3 : u2 ≤ x / y * u2 := by
    have := Int.mul_le_mul_of_nonneg_right hq S.hu2
    omega
  have n4 : v2 ≤ x / y * v2 := by
    have := Int.mul_le_mul_of_nonneg_right hq (show 0 ≤ v2 by omega)
    omega
  have n5 : (x / y - 1) * u2 ≤ (x / y - 1) * v2 := Int.mul_le_mul_of_nonneg_left S.hle2 (by omega)
  rw [Int.mul_comm] at e1
  generalize x / y = q at *
  generalize x % y = r at *
  refine ⟨?_, S.hu2, ?_, by omega, ?_, ?_, ?_, ?_, by omega, by omega, ?_, ?_, ?_, ?_, ?_⟩
  · rcases S.hsg with h | h <;> omega
  · have := S.hu1; omega
  · have := S.hv1; omega
  · have := S.hus; omega
  · have h1 := S.hles; rw [Int.sub_mul, Int.sub_mul] at n5; omega
  · have h1 := S.hles; have h2 := S.hle2; rw [Int.sub_mul, Int.sub_mul] at n5; omega
  · have := S.hey; grind
  · have h1 := S.hex; have h2 := S.hey; grind
  · have := S.hix; grind
  · have := S.hiy; grind
  · have := S.hdet; grind
/-- Nothing runs over in a step. -/
theorem Sim.bounds (S : Sim X Y x y u1 u2 v1 v2 sg) (h : v2 ≤ y) : v1 + v2 ≤ X ∧ 0 ≤ x / y * y ∧ x / y * y ≤ x ∧ 0 ≤ x / y * v2 ∧ v1 + x / y * v2 ≤ X ∧ 0 ≤ x / y * u2 ∧ u1 + x / y * u2 ≤ X ∧ 0 ≤ x / y ∧ x / y ≤ x := by
  have hv2 := S.hv2
  have hq := S.q_pos h
  have N := S.next h
  have i1 := N.hix
  have i2 := N.hiy
  have y0 := N.hy0
  have hy : 1 ≤ y := by omega
  have hyx := S.hxy
  have a1 : v1 + v2 ≤ X := by
    have h1 := S.hix
    have h2 := Int.mul_le_mul_of_nonneg_right (show 1 ≤ x by omega) (show 0 ≤ v2 by omega)
    have h3 := Int.mul_le_mul_of_nonneg_right hy S.hv1
    omega
  have b1 : 0 ≤ x / y * y := Int.mul_nonneg (by omega) (by omega)
  have b2 : x / y * y ≤ x := Int.ediv_mul_le x (by omega)
  have c0 : 0 ≤ x / y * v2 := Int.mul_nonneg (by omega) (by omega)
  have c1 : 0 ≤ x / y * u2 := Int.mul_nonneg (by omega) S.hu2
  have d1 : v1 + x / y * v2 ≤ X := by
    have h1 := Int.mul_le_mul_of_nonneg_right hy (show 0 ≤ v1 + x / y * v2 by have := S.hv1; omega)
    have h2 := Int.mul_nonneg y0 (show 0 ≤ v2 by omega)
    omega
  have d2 : u1 + x / y * u2 ≤ v1 + x / y * v2 := N.hle2
  have d3 : x / y ≤ x := Int.ediv_le_self y (show 0 ≤ x by omega)
  exact ⟨a1, b1, b2, c0, d1, c1, by omega, by omega, d3⟩
/-- Collins: under the condition the whole numbers lie as their tops do. -/
theorem Sim.whole (S : Sim X Y x y u1 u2 v1 v2 sg) {A B P a b : Int} (hP : 0 < P) (hA : A = P * X + a) (hB : B = P * Y + b) (a0 : 0 ≤ a) (a1 : a < P) (b0 : 0 ≤ b) (b1 : b < P) (h1 : v2 ≤ y) (h2 : v1 + v2 ≤ x - y) :
    0 ≤ sg * (v2 * B - u2 * A) ∧ sg * (v2 * B - u2 * A) < sg * (u1 * A - v1 * B) := by
  have eA : sg * (u1 * A - v1 * B) = P * x + sg * (u1 * a - v1 * b) := by rw [hA, hB, S.hex]; grind
  have eB : sg * (v2 * B - u2 * A) = P * y + sg * (v2 * b - u2 * a) := by rw [hA, hB, S.hey]; grind
  have hv2 := S.hv2
  have hv1 := S.hv1
  have k1 : P * v2 ≤ P * y := Int.mul_le_mul_of_nonneg_left h1 (by omega)
  have k2 : P * (v1 + v2) ≤ P * (x - y) := Int.mul_le_mul_of_nonneg_left h2 (by omega)
  have m1 : u2 * a ≤ u2 * P := Int.mul_le_mul_of_nonneg_left (by omega) S.hu2
  have m2 : u2 * P ≤ v2 * P := Int.mul_le_mul_of_nonneg_right S.hle2 (by omega)
  have m3 : 0 ≤ v2 * b := Int.mul_nonneg (by omega) b0
  have m4 : 0 ≤ u2 * a := Int.mul_nonneg S.hu2 a0
  have m5 : v2 * b ≤ v2 * (P - 1) := Int.mul_le_mul_of_nonneg_left (by omega) (by omega)
  have m6 : (v1 + v2) * b ≤ (v1 + v2) * (P - 1) := Int.mul_le_mul_of_nonneg_left (by omega) (by omega)
  have m7 : 0 ≤ (u1 + u2) * a := Int.mul_nonneg (by have := S.hu1; have := S.hu2; omega) a0
  have m8 : (u1 + u2) * a ≤ (u1 + u2) * (P - 1) := Int.mul_le_mul_of_nonneg_left (by omega) (by have := S.hu1; have := S.hu2; omega)
  have m9 : (u1 + u2) * P ≤ (v1 + v2) * P := Int.mul_le_mul_of_nonneg_right S.hles (by omega)
  have m10 : 0 ≤ (v1 + v2) * b := Int.mul_nonneg (by omega) b0
  have us := S.hus
  rw [eA, eB]
  rcases S.hsg with h | h
  · subst h
    constructor
    · grind
    · grind
  · subst h
    constructor
    · grind
    · grind
theorem gcd_of_steps {A B A' B' u0 u1 v0 v1 sg : Int} (hs : sg = 1 ∨ sg = -1) (hA : A' = sg * (u0 * A - v0 * B)) (hB : B' = sg * (v1 * B - u1 * A)) (hd : u0 * v1 - u1 * v0 = sg) : Int.gcd A' B' = Int.gcd A B := by
  have eA : A = v1 * A' + v0 * B' := by rcases hs with h | h <;> subst h <;> grind
  have eB : B = u1 * A' + u0 * B' := by rcases hs with h | h <;> subst h <;> grind
  apply Nat.dvd_antisymm
  · apply Int.dvd_gcd
    · rw [eA]; exact Int.dvd_add (Int.dvd_mul_of_dvd_right (Int.gcd_dvd_left ..)) (Int.dvd_mul_of_dvd_right (Int.gcd_dvd_right ..))
    · rw [eB]; exact Int.dvd_add (Int.dvd_mul_of_dvd_right (Int.gcd_dvd_left ..)) (Int.dvd_mul_of_dvd_right (Int.gcd_dvd_right ..))
  · apply Int.dvd_gcd
    · rw [hA]; exact Int.dvd_mul_of_dvd_right (Int.dvd_sub (Int.dvd_mul_of_dvd_right (Int.gcd_dvd_left ..)) (Int.dvd_mul_of_dvd_right (Int.gcd_dvd_right ..)))
    · rw [hB]; exact Int.dvd_mul_of_dvd_right (Int.dvd_sub (Int.dvd_mul_of_dvd_right (Int.gcd_dvd_right ..)) (Int.dvd_mul_of_dvd_right (Int.gcd_dvd_left ..)))
/-- What the steps that are told come to. -/
structure Good (A B u0 u1 v0 v1 : Int) (ev : Bool) : Prop where
  b0 : 0 ≤ (if ev then v1 * B - u1 * A else u1 * A - v1 * B)
  ba : (if ev then v1 * B - u1 * A else u1 * A - v1 * B) < (if ev then u0 * A - v0 * B else v0 * B - u0 * A)
  ab : v0 ≠ 0 → (if ev then u0 * A - v0 * B else v0 * B - u0 * A) ≤ B
  gcd : Int.gcd (if ev then u0 * A - v0 * B else v0 * B - u0 * A) (if ev then v1 * B - u1 * A else u1 * A - v1 * B) = Int.gcd A B

/-- The sign that goes with the flag at the loop's head. -/
def sgn (ev : Bool) : Int := if ev then -1 else 1
theorem sgn_not (ev : Bool) : sgn (!ev) = -sgn ev := by cases ev <;> rfl

/-- One step more: what the step before it comes to is good. -/
theorem Sim.good {ev : Bool} (S : Sim X Y x y u1 u2 v1 v2 (sgn ev)) {A B P a b : Int} (hP : 0 < P) (hA : A = P * X + a) (hB : B = P * Y + b) (a0 : 0 ≤ a) (a1 : a < P) (b0 : 0 ≤ b) (b1 : b < P) (h1 : v2 ≤ y) (h2 : v1 + v2 ≤ x - y)
    (hcur : v1 ≠ 0 → sgn ev * (u1 * A - v1 * B) ≤ B) : Good A B u1 u2 v1 v2 (!ev) ∧ sgn (!ev) * (u2 * A - v2 * B) ≤ B ∨ (v1 = 0 ∧ ¬ (u1 = 1 ∧ u2 = 0 ∧ v2 = 1)) := by
  obtain ⟨w1, w2⟩ := S.whole hP hA hB a0 a1 b0 b1 h1 h2
  have hd := S.hdet
  have hg : Int.gcd (sgn ev * (u1 * A - v1 * B)) (sgn ev * (v2 * B - u2 * A)) = Int.gcd A B := gcd_of_steps S.hsg rfl rfl hd
  have e : sgn (!ev) * (u2 * A - v2 * B) = sgn ev * (v2 * B - u2 * A) := by rw [sgn_not]; grind
  by_cases hv : v1 = 0
  · by_cases hi : u1 = 1 ∧ u2 = 0 ∧ v2 = 1
    · obtain ⟨rfl, rfl, rfl⟩ := hi
      subst hv
      left
      refine ⟨?_, ?_⟩
      · cases ev
        · simp only [sgn] at w1 w2 hg
          refine ⟨?_, ?_, fun h => absurd rfl h, ?_⟩ <;> simp at * <;> grind
        · exfalso
          have := S.hdet
          simp [sgn] at this
      · rw [e]
        cases ev
        · simp [sgn]
        · exfalso
          have := S.hdet
          simp [sgn] at this
    · exact .inr ⟨hv, hi⟩
  · left
    have hc := hcur hv
    refine ⟨?_, by rw [e]; omega⟩
    cases ev
    · simp only [sgn] at w1 w2 hg hc
      refine ⟨?_, ?_, fun _ => ?_, ?_⟩ <;> simp at * <;> grind
    · simp only [sgn] at w1 w2 hg hc
      have e1 : -1 * (u1 * A - v1 * B) = v1 * B - u1 * A := by grind
      have e2 : -1 * (v2 * B - u2 * A) = u2 * A - v2 * B := by grind
      simp only [if_true, e1, e2] at w1 w2 hg hc
      exact ⟨by simpa using w1, by simpa using w2, fun _ => by simpa using hc, by simpa using hg⟩
end
end Go.Proofs.YtlepicdpelkmlaaGreatDoor.M
/- ==== Dec ==== -/
namespace Go.Proofs.YtlepicdpelkmlaaGreatDoor
namespace M
/-- The number that decimal digits are. -/
def dec (l : List UInt8) : Nat := l.foldl (fun a b => 10 * a + (b.toNat - 48)) 0
/-- Digits alone. -/
def Digs (l : List UInt8) : Prop := ∀ b, b ∈ l → 48 ≤ b.toNat ∧ b.toNat ≤ 57
theorem dec_nil : dec [] = 0 := rfl
theorem dec_foldl (l : List UInt8) (a : Nat) : l.foldl (fun a b => 10 * a + (b.toNat - 48)) a = a * 10 ^ l.length + dec l := by
  induction l generalizing a with
  | nil => simp [dec]
  | cons b l ih =>
    simp only [List.foldl_cons, List.length_cons, dec]
    rw [ih, ih (10 * 0 + (b.toNat - 48)), Nat.pow_succ]
    simp only [Nat.mul_zero, Nat.zero_add, Nat.add_mul]
    rw [Nat.mul_comm 10 a, Nat.mul_assoc, Nat.mul_comm 10, Nat.add_assoc]
theorem dec_append (a b : List UInt8) : dec (a ++ b) = dec a * 10 ^ b.length + dec b := by
  unfold dec
  rw [List.foldl_append, dec_foldl b]
  rfl
theorem dec_cons (b : UInt8) (l : List UInt8) : dec (b :: l) = (b.toNat - 48) * 10 ^ l.length + dec l := by
  rw [show b :: l = [b] ++ l from rfl, dec_append]
  simp [dec]
theorem dec_snoc (l : List UInt8) (b : UInt8) : dec (l ++ [b]) = 10 * dec l + (b.toNat - 48) := by
  rw [dec_append]
  simp [dec]
  omega
theorem Digs.nil : Digs [] := fun b h => by simp at h
theorem Digs.append {a b : List UInt8} (ha : Digs a) (hb : Digs b) : Digs (a ++ b) := fun x h => (List.mem_append.1 h).elim (ha x) (hb x)
theorem Digs.take {l : List UInt8} (h : Digs l) (n : Nat) : Digs (l.take n) := fun x hx => h x (List.mem_of_mem_take hx)
theorem Digs.drop {l : List UInt8} (h : Digs l) (n : Nat) : Digs (l.drop n) := fun x hx => h x (List.mem_of_mem_drop hx)
theorem Digs.tail {b : UInt8} {l : List UInt8} (h : Digs (b :: l)) : Digs l := fun x hx => h x (List.mem_cons_of_mem _ hx)
theorem Digs.left {a b : List UInt8} (h : Digs (a ++ b)) : Digs a := fun x hx => h x (List.mem_append_left _ hx)
theorem dec_lt {l : List UInt8} (h : Digs l) : dec l < 10 ^ l.length := by
  induction l with
  | nil => simp [dec]
  | cons b l ih =>
    have := ih h.tail
    have hb := h b (by simp)
    rw [dec_cons, List.length_cons, Nat.pow_succ]
    have : (b.toNat - 48) * 10 ^ l.length ≤ 9 * 10 ^ l.length := Nat.mul_le_mul_right _ (by omega)
    omega
theorem byte_of {d : Nat} (h : d < 10) : (UInt8.ofNat (48 + d)).toNat = 48 + d := by
  rw [UInt8.toNat_ofNat']
  omega
theorem Digs.decDigits (n : Nat) : Digs (Lib.decDigits n) := by
  induction n using Nat.strongRecOn with
  | _ n ih =>
    rw [Lib.decDigits]
    split
    · intro b hb
      obtain rfl := List.mem_singleton.1 hb
      rw [byte_of (by omega)]
      omega
    · refine (ih _ (by omega)).append ?_
      intro b hb
      obtain rfl := List.mem_singleton.1 hb
      rw [byte_of (Nat.mod_lt _ (by decide))]
      omega
theorem dec_decDigits (n : Nat) : dec (Lib.decDigits n) = n := by
  induction n using Nat.strongRecOn with
  | _ n ih =>
    rw [Lib.decDigits]
    split
    · rename_i h
      rw [show [UInt8.ofNat (48 + n)] = [] ++ [UInt8.ofNat (48 + n)] from rfl, dec_snoc, byte_of h]
      simp [dec]
    · rw [dec_snoc, ih _ (by omega), byte_of (Nat.mod_lt _ (by decide))]
      omega
theorem decDigits_ne (n : Nat) : Lib.decDigits n ≠ [] := by
  rw [Lib.decDigits]
  split <;> simp
/-- The numeral of a number that is not 0 begins with no zero. -/
theorem decDigits_head (n : Nat) (h : n ≠ 0) : ∀ b l, Lib.decDigits n = b :: l → b ≠ 48 := by
  induction n using Nat.strongRecOn with
  | _ n ih =>
    intro b l e
    rw [Lib.decDigits] at e
    split at e
    · rename_i hn
      intro hb
      have := byte_of hn
      rw [(List.cons.inj e).1, hb] at this
      have h48 : (48 : UInt8).toNat = 48 := rfl
      omega
    · obtain ⟨c, l', hc⟩ := List.exists_cons_of_ne_nil (decDigits_ne (n / 10))
      rw [hc] at e
      simp at e
      rw [← e.1]
      exact ih _ (by omega) (by omega) c l' hc
/-- Numerals of as many digits are the same where their numbers are. -/
theorem dec_inj {a b : List UInt8} (ha : Digs a) (hb : Digs b) (hl : a.length = b.length) (h : dec a = dec b) : a = b := by
  induction a generalizing b with
  | nil => simp at hl; exact (List.eq_nil_of_length_eq_zero hl.symm).symm
  | cons x a ih =>
    cases b with
    | nil => simp at hl
    | cons y b =>
      simp at hl
      rw [dec_cons, dec_cons, hl] at h
      have h1 := dec_lt ha.tail
      have h2 := dec_lt hb.tail
      rw [hl] at h1
      have hx := ha x (by simp)
      have hy := hb y (by simp)
      have e1 : x.toNat - 48 = y.toNat - 48 := by
        have q1 := congrArg (· / 10 ^ b.length) h
        have p : 0 < 10 ^ b.length := Nat.pow_pos (by decide)
        rw [Nat.mul_comm, Nat.mul_add_div p, Nat.div_eq_of_lt h1, Nat.mul_comm, Nat.mul_add_div p, Nat.div_eq_of_lt h2] at q1
        omega
      rw [e1] at h
      have e2 : x = y := UInt8.toNat_inj.1 (by omega)
      rw [e2, ih ha.tail hb.tail hl (by omega)]
/-- Digits without a zero ahead have just the length of the numeral. -/
theorem dec_ge {b : UInt8} {l : List UInt8} (h : Digs (b :: l)) (hb : b ≠ 48) : 10 ^ l.length ≤ dec (b :: l) := by
  have := h b (by simp)
  have hne : b.toNat ≠ 48 := fun e => hb (UInt8.toNat_inj.1 (by simpa using e))
  rw [dec_cons]
  have : 1 * 10 ^ l.length ≤ (b.toNat - 48) * 10 ^ l.length := Nat.mul_le_mul_right _ (by omega)
  omega
theorem numeral_unique {a b : List UInt8} (ha : Digs a) (hb : Digs b) (h : dec a = dec b) (ha0 : ∀ x l, a = x :: l → x ≠ 48) (hb0 : ∀ x l, b = x :: l → x ≠ 48) : a = b := by
  have key : ∀ {a b : List UInt8}, Digs a → Digs b → dec a = dec b → (∀ x l, b = x :: l → x ≠ 48) → b.length ≤ a.length := by
    intro a b ha hb h hb0
    cases b with
    | nil => simp
    | cons y b =>
      have h1 := dec_ge hb (hb0 y b rfl)
      have h2 := dec_lt ha
      have h3 : 10 ^ b.length < 10 ^ a.length := by omega
      have := (Nat.pow_lt_pow_iff_right (by decide)).1 h3
      simp
      omega
  exact dec_inj ha hb (Nat.le_antisymm (key hb ha h.symm ha0) (key ha hb h hb0)) h
theorem dropZeros_dec (l : List UInt8) : dec (Lib.trimLeftB l 48) = dec l := by
  induction l with
  | nil => rfl
  | cons b l ih =>
    unfold Lib.trimLeftB at *
    rw [List.dropWhile_cons]
    split
    · rename_i h
      simp at h
      subst h
      rw [ih, dec_cons]
      simp
    · rfl
theorem dropZeros_digs {l : List UInt8} (h : Digs l) : Digs (Lib.trimLeftB l 48) := fun b hb => h b ((List.dropWhile_sublist _).mem hb)
theorem dropZeros_head (l : List UInt8) : ∀ x l', Lib.trimLeftB l 48 = x :: l' → x ≠ 48 := by
  induction l with
  | nil => intro x l' e; simp [Lib.trimLeftB] at e
  | cons b l ih =>
    intro x l' e
    unfold Lib.trimLeftB at *
    rw [List.dropWhile_cons] at e
    split at e
    · exact ih x l' e
    · rename_i h
      simp at e h
      rw [← e.1]
      exact h
theorem dropZeros_len (l : List UInt8) : (Lib.trimLeftB l 48).length ≤ l.length := (List.dropWhile_sublist _).length_le
/-- Digits without their zeros ahead: the numeral (of 0: nothing). -/
theorem dropZeros {l : List UInt8} (h : Digs l) (h0 : dec l ≠ 0) : Lib.trimLeftB l 48 = Lib.decDigits (dec l) :=
  numeral_unique (dropZeros_digs h) (Digs.decDigits _) (by rw [dropZeros_dec, dec_decDigits]) (dropZeros_head l) (decDigits_head _ h0)
/-- A numeral as it should be is the numeral of its number. -/
theorem numeral {l : List UInt8} (h : Digs l) (hne : l ≠ []) (h0 : ∀ x l', l = x :: l' → x = 48 → l' = []) : l = Lib.decDigits (dec l) := by
  cases l with
  | nil => exact absurd rfl hne
  | cons x l =>
    by_cases hx : x = 48
    · subst hx
      rw [h0 48 l rfl rfl]
      decide +kernel
    · refine numeral_unique h (Digs.decDigits _) (by rw [dec_decDigits]) (fun y l' e => by simp at e; rw [← e.1]; exact hx) (decDigits_head _ ?_)
      have := dec_ge h hx
      have : 0 < 10 ^ l.length := Nat.pow_pos (by decide)
      omega
theorem decDigits_len_le {n K : Nat} (h : n < 10 ^ K) (hK : 1 ≤ K) : (Lib.decDigits n).length ≤ K := by
  obtain ⟨b, l, e⟩ := List.exists_cons_of_ne_nil (decDigits_ne n)
  by_cases h0 : n = 0
  · subst h0
    rw [Lib.decDigits]
    simpa using hK
  · have h1 := dec_ge (by rw [← e]; exact Digs.decDigits n) (decDigits_head n h0 b l e)
    rw [← e, dec_decDigits] at h1
    rw [e]
    have := (Nat.pow_lt_pow_iff_right (a := 10) (by decide)).1 (Nat.lt_of_le_of_lt h1 h)
    simp
    omega
end M
end Go.Proofs.YtlepicdpelkmlaaGreatDoor
/- ==== RefMath ==== -/
namespace Go.Proofs.YtlepicdpelkmlaaGreatDoor
namespace M
def NB : Int := 1000000000
theorem NB_eq : NB = 1000000000 := rfl
theorem NB_pos : 0 < NB := by decide
theorem NB_pow (k : Nat) : NB ^ k = ((10 ^ (9 * k) : Nat) : Int) := by
  rw [Nat.pow_mul, Int.natCast_pow]
  rfl
/-- One chunk of nine digits more. -/
theorem natOf_step {l : List UInt8} {xs : List Int} {k : Nat} (hx : xs.length = k) (hk : 9 * k < l.length) (hv : val NB xs = (dec (l.drop (l.length - 9 * k)) : Nat)) :
    val NB (xs ++ [((dec ((l.drop (l.length - 9 * k - 9)).take (l.length - 9 * k - (l.length - 9 * k - 9))) : Nat) : Int)]) = (dec (l.drop (l.length - 9 * (k + 1))) : Nat) := by
  have e0 : l.length - 9 * (k + 1) = l.length - 9 * k - 9 := by omega
  rw [e0]
  generalize he : l.length - 9 * k = e at *
  have e1 : l.drop (e - 9) = (l.drop (e - 9)).take (e - (e - 9)) ++ l.drop e := by
    have h1 := List.take_append_drop (e - (e - 9)) (l.drop (e - 9))
    rw [List.drop_drop] at h1
    have e2 : e - 9 + (e - (e - 9)) = e := by omega
    rw [e2] at h1
    exact h1.symm
  have e3 : (l.drop e).length = 9 * k := by rw [List.length_drop]; omega
  rw [val_append, hx, hv]
  conv => rhs; rw [e1, dec_append, e3]
  rw [NB_pow]
  simp only [val]
  push_cast
  generalize (dec (List.take (e - (e - 9)) (List.drop (e - 9) l)) : Int) = X
  generalize (dec (List.drop e l) : Int) = Y
  generalize ((10 : Int) ^ (9 * k)) = Z
  grind
theorem chunk_lt {l : List UInt8} (h : Digs l) (a b : Nat) (hb : b ≤ 9) : dec ((l.drop a).take b) < 1000000000 := by
  have h1 := dec_lt ((h.drop a).take b)
  have h2 : ((l.drop a).take b).length ≤ 9 := by rw [List.length_take]; omega
  have h3 : 10 ^ ((l.drop a).take b).length ≤ 10 ^ 9 := Nat.pow_le_pow_right (by decide) h2
  have h4 : (10 : Nat) ^ 9 = 1000000000 := by decide
  omega
theorem chunk_snoc (l : List UInt8) (a j : Nat) (h : a + j < l.length) : dec ((l.drop a).take (j + 1)) = 10 * dec ((l.drop a).take j) + ((l.getD (a + j) 0).toNat - 48) := by
  have e : (l.drop a).take (j + 1) = (l.drop a).take j ++ [l.getD (a + j) 0] := by
    rw [List.take_add_one, List.getElem?_drop, List.getElem?_eq_getElem h, List.getD_eq_getElem?_getD, List.getElem?_eq_getElem h]
    rfl
  rw [e, dec_snoc]
/-- The search for the greatest multiple. -/
theorem times_fin {r b lo : Nat} (h1 : lo * b ≤ r) (h2 : r < (lo + 1) * b) : r / b = lo := by
  have hb : 0 < b := by
    rcases Nat.eq_zero_or_pos b with h | h
    · subst h; omega
    · exact h
  exact Nat.div_eq_of_lt_le h1 h2
/-- One limb of a long division. -/
theorem div_step {A Y r b x q : Int} (h : A = Y * b + r) : x + NB * A = (q + NB * Y) * b + (x + NB * r - q * b) := by
  subst h
  generalize NB = B
  grind
theorem div_bound {r b x : Nat} (hr : r < b) (hx : x < 1000000000) : x + 1000000000 * r < 1000000000 * b := by omega
theorem mod_of {r b q : Nat} (h : r / b = q) (hb : 0 < b) : r - q * b < b ∧ q * b ≤ r := by
  subst h
  have h1 := Nat.div_add_mod r b
  have h2 := Nat.mod_lt r hb
  rw [Nat.mul_comm] at h1
  omega
end M
end Go.Proofs.YtlepicdpelkmlaaGreatDoor
