/-
  How symbols and strings are spelled, in plain words: what may stand in a string (wr), a text between bars (bars_yes, bars_no), a string's marks doubled (dbl).
-/
import Derived.Test.YtjbalgjdcdmjjaaDoorScanModel
namespace Go.Proofs.YtjbalgjdcdmjjaaDoor.S
set_option linter.unusedVariables false
/-- Characters that may stand in a string, and nothing else. -/
def wr (l : List UInt8) : Bool :=
  match l with
  | [] => true
  | b :: t =>
    if ctl b then false
    else if h : chr (b :: t) = 0 then false
    else
      have := so_cut b t _ h
      wr ((b :: t).drop (chr (b :: t)))
theorem wr_nil : wr [] = true := by rw [wr]
theorem wr_ctl {b : UInt8} {t : List UInt8} (h : ctl b = true) : wr (b :: t) = false := by rw [wr, if_pos h]
theorem wr_none {b : UInt8} {t : List UInt8} (h : chr (b :: t) = 0) : wr (b :: t) = false := by
  rw [wr]
  by_cases hc : ctl b = true
  · rw [if_pos hc]
  · rw [if_neg hc, dif_pos h]
theorem wr_on {b : UInt8} {t : List UInt8} (hc : ctl b = false) (h : chr (b :: t) ≠ 0) : wr (b :: t) = wr ((b :: t).drop (chr (b :: t))) := by
  rw [wr, if_neg (by rw [hc]; simp), dif_neg h]
/-- Neither a bar nor a backslash. -/
def nobar (l : List UInt8) : Bool := l.all fun b => b != 124 && b != 92
theorem okTail_bar : ∀ (n lo hi : Nat) (t : List UInt8), 128 ≤ lo → okTail n lo hi (t ++ [124]) = okTail n lo hi t
  | 0, _, _, _, _ => rfl
  | n + 1, lo, hi, [], h => by
    rw [List.nil_append, okTail, okTail]
    simp
    intro h1
    omega
  | n + 1, lo, hi, c :: r, h => by
    rw [List.cons_append, okTail, okTail, okTail_bar n 0x80 0xBF r (by decide)]
theorem chr_cons (b : UInt8) (t : List UInt8) : chr (b :: t) = if b.toNat < 128 then 1 else if (follow b).1 = 0 then 0 else if okTail (follow b).1 (follow b).2.1 (follow b).2.2 t then (follow b).1 + 1 else 0 := rfl
theorem chr_bar (b : UInt8) (t : List UInt8) : chr (b :: (t ++ [124])) = chr (b :: t) := by
  rw [chr_cons, chr_cons]
  by_cases h1 : b.toNat < 128
  · rw [if_pos h1, if_pos h1]
  · rw [if_neg h1, if_neg h1]
    by_cases h2 : (follow b).1 = 0
    · rw [if_pos h2, if_pos h2]
    · rw [if_neg h2, if_neg h2, okTail_bar _ _ _ _ (follow_low b h2)]
theorem okTail_all : ∀ (n lo hi : Nat) (t : List UInt8), 128 ≤ lo → okTail n lo hi t = true → ∀ x, x ∈ t.take n → 128 ≤ x.toNat
  | 0, _, _, _, _, _ => by simp
  | n + 1, lo, hi, [], h, e => by simp [okTail] at e
  | n + 1, lo, hi, c :: r, h, e => by
    rw [okTail, Bool.and_eq_true] at e
    intro x hx
    rw [List.take_succ_cons] at hx
    rcases List.mem_cons.1 hx with rfl | hx
    · have := of_decide_eq_true e.1
      omega
    · exact okTail_all n 0x80 0xBF r (by decide) e.2 x hx
/-- A character's bytes: one below 128, or all from 128 on. -/
theorem chr_bytes (b : UInt8) (t : List UInt8) (h : chr (b :: t) ≠ 0) : (chr (b :: t) = 1 ∧ b.toNat < 128) ∨ ∀ x, x ∈ (b :: t).take (chr (b :: t)) → 128 ≤ x.toNat := by
  rw [chr_cons] at *
  by_cases h1 : b.toNat < 128
  · rw [if_pos h1]
    exact .inl ⟨rfl, h1⟩
  · rw [if_neg h1] at *
    by_cases h2 : (follow b).1 = 0
    · rw [if_pos h2] at h
      exact absurd rfl h
    · rw [if_neg h2] at *
      by_cases h3 : okTail (follow b).1 (follow b).2.1 (follow b).2.2 t = true
      · rw [if_pos h3]
        refine .inr fun x hx => ?_
        rw [List.take_succ_cons] at hx
        rcases List.mem_cons.1 hx with rfl | hx
        · omega
        · exact okTail_all _ _ _ _ (follow_low b h2) h3 x hx
      · rw [if_neg h3] at h
        exact absurd rfl h
theorem nobar_char (b : UInt8) (t : List UInt8) (h : chr (b :: t) ≠ 0) (h1 : b ≠ 124) (h2 : b ≠ 92) : nobar (b :: t) = nobar ((b :: t).drop (chr (b :: t))) := by
  have e : nobar (b :: t) = (nobar ((b :: t).take (chr (b :: t))) && nobar ((b :: t).drop (chr (b :: t)))) := by
    conv => lhs; rw [← List.take_append_drop (chr (b :: t)) (b :: t)]
    unfold nobar
    rw [List.all_append]
  have q : nobar ((b :: t).take (chr (b :: t))) = true := by
    unfold nobar
    rw [List.all_eq_true]
    intro x hx
    rcases chr_bytes b t h with ⟨a, c⟩ | a
    · rw [a] at hx
      simp at hx
      subst hx
      simp [h1, h2]
    · have := a x hx
      have n1 : x ≠ 124 := by rintro rfl; revert this; decide
      have n2 : x ≠ 92 := by rintro rfl; revert this; decide
      simp [n1, n2]
  rw [e, q, Bool.true_and]
theorem ctl_bar : ctl 124 = false := by decide
theorem ctl_slash : ctl 92 = false := by decide
theorem dBars_on (g : Nat) (a : List UInt8) {b : UInt8} {t : List UInt8} (i : Nat) (n1 : b ≠ 124) (n2 : b ≠ 92) (hc : ctl b = false) (h : chr (b :: t) ≠ 0) : dBars g a (b :: t) i = dBars g (a ++ (b :: t).take (chr (b :: t))) ((b :: t).drop (chr (b :: t))) (i + chr (b :: t)) := by
  rw [dBars, if_neg n1, if_neg n2, if_neg (by rw [hc]; simp), dif_neg h]
theorem bars_yes (g : Nat) (a l : List UInt8) (i : Nat) (h : wr l = true) (hn : nobar l = true) : dBars g a (l ++ [124]) i = .tok ⟨3, g, i + l.length + 1, a ++ l⟩ [] := by
  induction hm : l.length using Nat.strongRecOn generalizing a l i with
  | _ n ih =>
    cases l with
    | nil =>
      rw [List.nil_append, dBars, if_pos rfl]
      subst hm
      simp
    | cons b t =>
      have n1 : b ≠ 124 := by rintro rfl; simp [nobar] at hn
      have n2 : b ≠ 92 := by rintro rfl; simp [nobar] at hn
      have hc : ctl b = false := by
        cases hc : ctl b
        · rfl
        · rw [wr_ctl hc] at h
          exact absurd h (by simp)
      have h0 : chr (b :: t) ≠ 0 := by
        intro e
        rw [wr_none e] at h
        exact absurd h (by simp)
      have hle := chr_le (b :: t)
      rw [wr_on hc h0] at h
      rw [nobar_char b t h0 n1 n2] at hn
      rw [List.cons_append, dBars_on g a i n1 n2 hc (by rw [chr_bar]; exact h0)]
      rw [chr_bar, ← List.cons_append, List.take_append_of_le_length hle, List.drop_append_of_le_length hle]
      rw [ih ((b :: t).drop (chr (b :: t))).length (by rw [List.length_drop]; simp at *; omega) _ _ _ h hn rfl, List.append_assoc, List.take_append_drop]
      subst hm
      congr 3
      rw [List.length_drop]
      omega
theorem bars_no (g : Nat) (a l : List UInt8) (i : Nat) (h : ¬ (wr l = true ∧ nobar l = true)) : (∃ e p, dBars g a (l ++ [124]) i = .err e p ∧ e ≠ 0) ∨ ∃ tk r, dBars g a (l ++ [124]) i = .tok tk r ∧ tk.fin ≤ i + l.length := by
  induction hm : l.length using Nat.strongRecOn generalizing a l i with
  | _ n ih =>
    cases l with
    | nil => exact absurd ⟨wr_nil, rfl⟩ h
    | cons b t =>
      rw [List.cons_append]
      by_cases n1 : b = 124
      · rw [dBars, if_pos n1]
        refine .inr ⟨_, _, rfl, ?_⟩
        subst hm
        simp
      · by_cases n2 : b = 92
        · rw [dBars, if_neg n1, if_pos n2]
          exact .inl ⟨_, _, rfl, by decide⟩
        · by_cases hc : ctl b = true
          · rw [dBars, if_neg n1, if_neg n2, if_pos hc]
            exact .inl ⟨_, _, rfl, by decide⟩
          · by_cases h0 : chr (b :: t) = 0
            · rw [dBars, if_neg n1, if_neg n2, if_neg hc, dif_pos (by rw [chr_bar]; exact h0)]
              exact .inl ⟨_, _, rfl, by decide⟩
            · have hle := chr_le (b :: t)
              have hc' : ctl b = false := by simpa using hc
              rw [dBars_on g a i n1 n2 hc' (by rw [chr_bar]; exact h0), chr_bar, ← List.cons_append, List.take_append_of_le_length hle, List.drop_append_of_le_length hle]
              rw [wr_on hc' h0, nobar_char b t h0 n1 n2] at h
              rcases ih ((b :: t).drop (chr (b :: t))).length (by rw [List.length_drop]; simp at *; omega) (a ++ (b :: t).take (chr (b :: t))) _ (i + chr (b :: t)) h rfl with q | ⟨tk, r, q1, q2⟩
              · exact .inl q
              · refine .inr ⟨tk, r, q1, ?_⟩
                rw [List.length_drop] at q2
                omega
/-- A string's marks doubled. -/
def dbl (l : List UInt8) : List UInt8 := l.flatMap fun b => if b = 34 then [34, 34] else [b]
theorem dbl_nil : dbl [] = [] := rfl
theorem dbl_cons (b : UInt8) (t : List UInt8) : dbl (b :: t) = (if b = 34 then [34, 34] else [b]) ++ dbl t := rfl
theorem dbl_append (a b : List UInt8) : dbl (a ++ b) = dbl a ++ dbl b := by simp [dbl]
theorem dbl_len (l : List UInt8) : (dbl l).length ≤ 2 * l.length := by
  induction l with
  | nil => simp [dbl]
  | cons b t ih =>
    rw [dbl_cons, List.length_append, List.length_cons]
    by_cases h : b = 34
    · rw [if_pos h]; simp; omega
    · rw [if_neg h]; simp; omega
theorem dbl_plain (l : List UInt8) (h : ∀ x, x ∈ l → x ≠ 34) : dbl l = l := by
  induction l with
  | nil => rfl
  | cons b t ih =>
    rw [dbl_cons, if_neg (h b List.mem_cons_self), ih (fun x hx => h x (List.mem_cons_of_mem _ hx))]
    rfl
/-- A character's bytes, a mark doubled. -/
theorem dbl_char (b : UInt8) (t : List UInt8) (h : chr (b :: t) ≠ 0) : dbl ((b :: t).take (chr (b :: t))) = (if b = 34 then [34] else []) ++ (b :: t).take (chr (b :: t)) := by
  rcases chr_bytes b t h with ⟨a, c⟩ | a
  · rw [a]
    by_cases h34 : b = 34
    · subst h34
      rfl
    · rw [if_neg h34]
      exact dbl_plain _ (by intro x hx; simp at hx; subst hx; exact h34)
  · have hb : b ≠ 34 := by
      have := a b (by
        obtain ⟨n, hn⟩ : ∃ n, chr (b :: t) = n + 1 := ⟨chr (b :: t) - 1, by omega⟩
        rw [hn, List.take_succ_cons]
        exact List.mem_cons_self)
      rintro rfl
      revert this
      decide
    rw [if_neg hb]
    refine dbl_plain _ fun x hx => ?_
    have := a x hx
    rintro rfl
    revert this
    decide
/-- Could it stand as a symbol without bars? -/
def smp (l : List UInt8) : Bool := match l with | [] => false | b :: t => !dig b && (b :: t).all sym
/-- A symbol's spelling; none: it has none. -/
def quo (res : List UInt8 → Bool) (l : List UInt8) : Option (List UInt8) := if smp l && !res l then some l else if wr l && nobar l then some (124 :: (l ++ [124])) else none
/-- A string's spelling. -/
def lit (l : List UInt8) : Option (List UInt8) := if wr l then some (34 :: (dbl l ++ [34])) else none
end Go.Proofs.YtjbalgjdcdmjjaaDoor.S
