/-
  Texts of words with white between them, in plain words: where the next word stands (skip, we), the words of a text (ws), numbers, literals, clauses, a whole text of clauses (readW).
-/
namespace Go.Proofs.Ytkdalejceclanaa.RD
set_option linter.unusedVariables false
def brk (b : UInt8) : Bool := b == 10 || b == 13
def white (b : UInt8) : Bool := brk b || (b == 9 || b == 32)
def begins (t : List UInt8) (i : Nat) : Bool := i == 0 || brk (t.getD (i - 1) 0)
/-- Does a comment begin at i? -/
def com (t : List UInt8) (i : Nat) : Bool := t.getD i 0 == 99 && begins t i
/-- Where the white that stands at i ends; c: within a comment. -/
def skipF (t : List UInt8) : Nat → Nat → Bool → Nat
  | 0, i, _ => i
  | f + 1, i, c => if brk (t.getD i 0) then skipF t f (i + 1) false else if com t i then skipF t f (i + 1) true else if !c && !white (t.getD i 0) then i else skipF t f (i + 1) c
def skip (t : List UInt8) (i : Nat) : Nat := skipF t (t.length - i) i false
/-- Where the word that stands at i ends. -/
def weF (t : List UInt8) : Nat → Nat → Nat
  | 0, i => i
  | f + 1, i => if white (t.getD i 0) then i else weF t f (i + 1)
def we (t : List UInt8) (i : Nat) : Nat := weF t (t.length - i) i
/-- Where the line that i stands in ends. -/
def leF (t : List UInt8) : Nat → Nat → Nat
  | 0, i => i
  | f + 1, i => if brk (t.getD i 0) then i else leF t f (i + 1)
def le (t : List UInt8) (i : Nat) : Nat := leF t (t.length - i) i
theorem skipF_le (t : List UInt8) : ∀ (f i : Nat) (c : Bool), i ≤ skipF t f i c ∧ skipF t f i c ≤ i + f
  | 0, i, c => by unfold skipF; omega
  | f + 1, i, c => by
    unfold skipF
    have h1 := skipF_le t f (i + 1) false
    have h2 := skipF_le t f (i + 1) true
    have h3 := skipF_le t f (i + 1) c
    split
    · omega
    · split
      · omega
      · split <;> omega
theorem weF_le (t : List UInt8) : ∀ (f i : Nat), i ≤ weF t f i ∧ weF t f i ≤ i + f
  | 0, i => by unfold weF; omega
  | f + 1, i => by
    unfold weF
    have h1 := weF_le t f (i + 1)
    split <;> omega
theorem leF_le (t : List UInt8) : ∀ (f i : Nat), i ≤ leF t f i ∧ leF t f i ≤ i + f
  | 0, i => by unfold leF; omega
  | f + 1, i => by
    unfold leF
    have h1 := leF_le t f (i + 1)
    split <;> omega
theorem skip_ge (t : List UInt8) (i : Nat) : i ≤ skip t i := (skipF_le t _ i false).1
theorem skip_le (t : List UInt8) {i : Nat} (h : i ≤ t.length) : skip t i ≤ t.length := by have := (skipF_le t (t.length - i) i false).2; unfold skip; omega
theorem we_ge (t : List UInt8) (i : Nat) : i ≤ we t i := (weF_le t _ i).1
theorem we_le (t : List UInt8) {i : Nat} (h : i ≤ t.length) : we t i ≤ t.length := by have := (weF_le t (t.length - i) i).2; unfold we; omega
theorem le_ge (t : List UInt8) (i : Nat) : i ≤ le t i := (leF_le t _ i).1
theorem le_le (t : List UInt8) {i : Nat} (h : i ≤ t.length) : le t i ≤ t.length := by have := (leF_le t (t.length - i) i).2; unfold le; omega
/-- One step of skip within the text. -/
theorem skipF_at (t : List UInt8) {i : Nat} (c : Bool) (h : i < t.length) :
    skipF t (t.length - i) i c = if brk (t.getD i 0) then skipF t (t.length - (i + 1)) (i + 1) false else if com t i then skipF t (t.length - (i + 1)) (i + 1) true else if !c && !white (t.getD i 0) then i else skipF t (t.length - (i + 1)) (i + 1) c := by
  rw [show t.length - i = (t.length - (i + 1)) + 1 by omega]
  rfl
theorem skipF_end (t : List UInt8) {i : Nat} (c : Bool) (h : t.length ≤ i) : skipF t (t.length - i) i c = i := by
  rw [show t.length - i = 0 by omega]
  rfl
theorem weF_at (t : List UInt8) {i : Nat} (h : i < t.length) : we t i = if white (t.getD i 0) then i else we t (i + 1) := by
  unfold we
  rw [show t.length - i = (t.length - (i + 1)) + 1 by omega]
  rfl
theorem we_end (t : List UInt8) {i : Nat} (h : t.length ≤ i) : we t i = i := by
  unfold we
  rw [show t.length - i = 0 by omega]
  rfl
theorem le_at (t : List UInt8) {i : Nat} (h : i < t.length) : le t i = if brk (t.getD i 0) then i else le t (i + 1) := by
  unfold le
  rw [show t.length - i = (t.length - (i + 1)) + 1 by omega]
  rfl
theorem le_end (t : List UInt8) {i : Nat} (h : t.length ≤ i) : le t i = i := by
  unfold le
  rw [show t.length - i = 0 by omega]
  rfl
theorem skip_end (t : List UInt8) {i : Nat} (h : t.length ≤ i) : skip t i = i := skipF_end t false h
theorem com_not_white {t : List UInt8} {i : Nat} (h : com t i = true) : white (t.getD i 0) = false := by
  unfold com at h
  simp only [Bool.and_eq_true, beq_iff_eq] at h
  rw [h.1]
  rfl
theorem white_not_com {t : List UInt8} {i : Nat} (h : white (t.getD i 0) = true) : com t i = false := by
  cases hc : com t i
  · rfl
  · rw [com_not_white hc] at h; cases h
/-- White is passed over. -/
theorem skip_white {t : List UInt8} {i : Nat} (h : i < t.length) (hw : white (t.getD i 0) = true) : skip t i = skip t (i + 1) := by
  unfold skip
  rw [skipF_at t false h, white_not_com hw, hw]
  split <;> simp
/-- A word stands where it stands. -/
theorem skip_word {t : List UInt8} {i : Nat} (h : i < t.length) (hw : white (t.getD i 0) = false) (hc : com t i = false) : skip t i = i := by
  unfold skip
  have hb : brk (t.getD i 0) = false := by
    unfold white at hw
    simp only [Bool.or_eq_false_iff] at hw
    exact hw.1
  rw [skipF_at t false h, hb, hc, hw]
  rfl
/-- Within a comment all is passed over up to the line's end. -/
theorem skip_in (t : List UInt8) : ∀ (n i : Nat), t.length - i = n → (begins t i = true → t.getD i 0 = 99 ∨ brk (t.getD i 0) = true ∨ t.length ≤ i) → i ≤ t.length → skipF t (t.length - i) i true = skip t (le t i)
  | 0, i, hn, hb, hi => by
    rw [skipF_end t true (by omega), le_end t (by omega), skip_end t (by omega)]
  | n + 1, i, hn, hb, hi => by
    have h : i < t.length := by omega
    rw [skipF_at t true h, le_at t h]
    by_cases b : brk (t.getD i 0) = true
    · rw [if_pos b, if_pos b]
      unfold skip
      rw [skipF_at t false h, if_pos b]
    · rw [if_neg b, if_neg b]
      have ih := skip_in t n (i + 1) (by omega) (by
        intro hb'
        unfold begins at hb'
        simp only [Nat.add_sub_cancel, Bool.or_eq_true, beq_iff_eq] at hb'
        rcases hb' with c | c
        · omega
        · exact absurd c b) (by omega)
      split
      · exact ih
      · simp only [Bool.not_true, Bool.false_and, Bool.false_eq_true, if_false]
        exact ih
theorem skip_com {t : List UInt8} {i : Nat} (h : i < t.length) (hc : com t i = true) : skip t i = skip t (le t i) := by
  have hw := com_not_white hc
  have hb : brk (t.getD i 0) = false := by
    unfold white at hw
    simp only [Bool.or_eq_false_iff] at hw
    exact hw.1
  have e := skip_in t _ i rfl (fun _ => .inl (by unfold com at hc; simp only [Bool.and_eq_true, beq_iff_eq] at hc; exact hc.1)) (Nat.le_of_lt h)
  rw [← e, skipF_at t true h]
  unfold skip
  rw [skipF_at t false h, hb, hc]
  rfl
theorem le_gt {t : List UInt8} {i : Nat} (h : i < t.length) (hc : com t i = true) : i < le t i := by
  have hw := com_not_white hc
  have hb : brk (t.getD i 0) = false := by
    unfold white at hw
    simp only [Bool.or_eq_false_iff] at hw
    exact hw.1
  rw [le_at t h, hb]
  have := le_ge t (i + 1)
  simp only [Bool.false_eq_true, if_false]
  omega
/-- A word is not empty. -/
theorem skip_stop {t : List UInt8} : ∀ (n i : Nat) (c : Bool), t.length - i = n → skipF t n i c < t.length → white (t.getD (skipF t n i c) 0) = false
  | 0, i, c, hn, h => by
    unfold skipF at h
    omega
  | n + 1, i, c, hn, h => by
    unfold skipF at h ⊢
    by_cases hb : brk (t.getD i 0) = true
    · rw [if_pos hb] at h ⊢
      exact skip_stop n (i + 1) false (by omega) h
    · rw [if_neg hb] at h ⊢
      by_cases hc : com t i = true
      · rw [if_pos hc] at h ⊢
        exact skip_stop n (i + 1) true (by omega) h
      · rw [if_neg hc] at h ⊢
        by_cases hx : (!c && !white (t.getD i 0)) = true
        · rw [if_pos hx]
          simp only [Bool.and_eq_true, Bool.not_eq_true'] at hx
          exact hx.2
        · rw [if_neg hx] at h ⊢
          exact skip_stop n (i + 1) c (by omega) h
theorem we_gt {t : List UInt8} {i : Nat} (h : skip t i < t.length) : skip t i < we t (skip t i) := by
  have hw := skip_stop (t := t) _ i false rfl h
  rw [weF_at t h]
  have := we_ge t (skip t i + 1)
  rw [show skipF t (t.length - i) i false = skip t i from rfl] at hw
  rw [hw]
  simp only [Bool.false_eq_true, if_false]
  omega
/-- The words from i on: where each begins, where it ends. -/
def wsF (t : List UInt8) : Nat → Nat → List (Nat × Nat)
  | 0, _ => []
  | f + 1, i => if skip t i < t.length then (skip t i, we t (skip t i)) :: wsF t f (we t (skip t i)) else []
theorem wsF_fuel (t : List UInt8) : ∀ (f g i : Nat), t.length < i + f → t.length < i + g → wsF t f i = wsF t g i
  | 0, g, i, h1, h2 => by
    have := skip_ge t i
    cases g with
    | zero => rfl
    | succ g => unfold wsF; rw [if_neg (by omega)]
  | f + 1, 0, i, h1, h2 => by
    have := skip_ge t i
    unfold wsF
    rw [if_neg (by omega)]
  | f + 1, g + 1, i, h1, h2 => by
    unfold wsF
    split
    · next h =>
      have := we_gt h
      have := skip_ge t i
      rw [wsF_fuel t f g _ (by omega) (by omega)]
    · rfl
def ws (t : List UInt8) (i : Nat) : List (Nat × Nat) := wsF t (t.length + 1) i
theorem ws_nil {t : List UInt8} {i : Nat} (h : ¬ skip t i < t.length) : ws t i = [] := by
  unfold ws wsF
  rw [if_neg h]
theorem ws_cons {t : List UInt8} {i : Nat} (h : skip t i < t.length) : ws t i = (skip t i, we t (skip t i)) :: ws t (we t (skip t i)) := by
  unfold ws
  rw [show wsF t (t.length + 1) i = if skip t i < t.length then (skip t i, we t (skip t i)) :: wsF t t.length (we t (skip t i)) else [] from rfl, if_pos h]
  have := we_gt h
  rw [wsF_fuel t t.length (t.length + 1) _ (by omega) (by omega)]
theorem ws_same {t : List UInt8} {i j : Nat} (h : skip t i = skip t j) : ws t i = ws t j := by
  unfold ws wsF
  rw [h]
theorem ws_end {t : List UInt8} {i : Nat} (h : t.length ≤ i) : ws t i = [] := ws_nil (by have := skip_ge t i; omega)
/-- The piece of t from a to b. -/
def piece (t : List UInt8) (x : Nat × Nat) : List UInt8 := (t.take x.2).drop x.1
/-- Numbers. -/
def dig (b : UInt8) : Bool := decide (48 ≤ b.toNat ∧ b.toNat ≤ 57)
def num (w : List UInt8) : Bool := !w.isEmpty && !(w.getD 0 0 == 48 && decide (1 < w.length)) && w.all dig
def val (w : List UInt8) : Nat := w.foldl (fun n b => 10 * n + (b.toNat - 48)) 0
def top : Nat := 9223372036854775807
theorem val_next {w : List UInt8} {i : Nat} (h : i < w.length) : val (w.take (i + 1)) = 10 * val (w.take i) + ((w.getD i 0).toNat - 48) := by
  unfold val
  rw [List.take_add_one, List.getElem?_eq_getElem h, Option.toList_some, List.foldl_append, List.getD_eq_getElem?_getD, List.getElem?_eq_getElem h]
  rfl
theorem sat_step (v d : Nat) (hd : d ≤ 9) : min (10 * v + d) top = if (top - d) / 10 < min v top then top else 10 * min v top + d := by
  unfold top
  split <;> omega
theorem foldl_ge (w : List UInt8) : ∀ n, n * 10 ^ w.length ≤ w.foldl (fun n b => 10 * n + (b.toNat - 48)) n := by
  induction w with
  | nil => intro n; simp
  | cons b w ih =>
    intro n
    rw [List.foldl_cons, List.length_cons]
    refine Nat.le_trans ?_ (ih (10 * n + (b.toNat - 48)))
    rw [Nat.pow_succ, Nat.mul_comm (10 ^ w.length) 10, ← Nat.mul_assoc, Nat.mul_comm n 10]
    exact Nat.mul_le_mul_right _ (Nat.le_add_right _ _)
theorem foldl_lt (w : List UInt8) (hd : ∀ b ∈ w, dig b = true) : ∀ n, w.foldl (fun n b => 10 * n + (b.toNat - 48)) n < (n + 1) * 10 ^ w.length := by
  induction w with
  | nil => intro n; simp
  | cons b w ih =>
    intro n
    rw [List.foldl_cons, List.length_cons]
    refine Nat.lt_of_lt_of_le (ih (fun c hc => hd c (List.mem_cons_of_mem _ hc)) (10 * n + (b.toNat - 48))) ?_
    have := of_decide_eq_true (hd b (List.mem_cons_self ..))
    rw [Nat.pow_succ, Nat.mul_comm (10 ^ w.length) 10, ← Nat.mul_assoc]
    exact Nat.mul_le_mul_right _ (by omega)
theorem val_lt {w : List UInt8} (hd : ∀ b ∈ w, dig b = true) : val w < 10 ^ w.length := by
  have := foldl_lt w hd 0
  simpa [val] using this
theorem val_big {w : List UInt8} (h : num w = true) (hl : 1 < w.length) : 10 ^ (w.length - 1) ≤ val w := by
  unfold num at h
  simp only [Bool.and_eq_true, Bool.not_eq_true', List.all_eq_true] at h
  obtain ⟨⟨h0, h1⟩, h2⟩ := h
  cases w with
  | nil => simp at hl
  | cons b w =>
    have hb := of_decide_eq_true (h2 b (List.mem_cons_self ..))
    have hn : b ≠ 48 := by
      intro e
      rw [decide_eq_true hl] at h1
      simp [e] at h1
    have : b.toNat ≠ 48 := fun e => hn (by
      have : b.toNat = (48 : UInt8).toNat := e
      exact UInt8.toNat_inj.1 this)
    unfold val
    rw [List.foldl_cons, List.length_cons, Nat.add_sub_cancel]
    refine Nat.le_trans ?_ (foldl_ge w _)
    have h1 : 1 ≤ 10 * 0 + (b.toNat - 48) := by omega
    calc 10 ^ w.length = 1 * 10 ^ w.length := (Nat.one_mul _).symm
      _ ≤ _ := Nat.mul_le_mul_right _ h1
/-- A number at most lid, below 10^18. -/
def valueOf (w : List UInt8) (lid : Nat) : Int := if num w = true ∧ val w ≤ lid then (val w : Int) else -1
theorem value_long {w : List UInt8} {lid : Nat} (h : num w = true) (hl : 18 < w.length) (hlid : lid < 10 ^ 18) : valueOf w lid = -1 := by
  unfold valueOf
  have := val_big h (by omega)
  have h2 : 10 ^ 18 ≤ 10 ^ (w.length - 1) := Nat.pow_le_pow_right (by decide) (by omega)
  rw [if_neg (by omega)]
/-- What a word says as a literal: none: it cannot stand; 0: the end. -/
def lit (w : List UInt8) (vars : Nat) : Option Int :=
  if w.getD 0 0 = 45 then (if num w.tail = true ∧ val w.tail ≤ vars ∧ val w.tail ≠ 0 then some (-(val w.tail : Int)) else none)
  else if num w = true ∧ val w ≤ vars then some (val w : Int) else none
theorem val_zero {w : List UInt8} (h : num w = true) (hv : val w = 0) : w = [48] := by
  by_cases hl : 1 < w.length
  · have := val_big h hl
    have := Nat.one_le_pow (w.length - 1) 10 (by decide)
    omega
  · unfold num at h
    simp only [Bool.and_eq_true, Bool.not_eq_true', List.all_eq_true] at h
    obtain ⟨⟨h0, h1⟩, h2⟩ := h
    match w, hl with
    | [], _ => simp at h0
    | [b], _ =>
      have hb := of_decide_eq_true (h2 b (List.mem_cons_self ..))
      have : b.toNat = 48 := by
        unfold val at hv
        simp at hv
        omega
      have : b = 48 := UInt8.toNat_inj.1 this
      rw [this]
    | _ :: _ :: _, hl => simp at hl
/-- Literals up to the end: whether they stand, they, what is left (from the word on that cannot stand). -/
def litsW (P : Nat × Nat → Option Int) : List (Nat × Nat) → Bool × List Int × List (Nat × Nat)
  | [] => (false, [], [])
  | x :: r => match P x with
    | none => (false, [], x :: r)
    | some z => if z = 0 then (true, [], r) else ((litsW P r).1, z :: (litsW P r).2.1, (litsW P r).2.2)
theorem litsW_len (P : Nat × Nat → Option Int) : ∀ l, (litsW P l).2.2.length ≤ l.length ∧ ((litsW P l).1 = true → (litsW P l).2.2.length < l.length)
  | [] => by simp [litsW]
  | x :: r => by
    have ih := litsW_len P r
    unfold litsW
    cases P x with
    | none => simp
    | some z =>
      simp only
      split
      · simp
      · simp only [List.length_cons]
        constructor
        · omega
        · intro h
          have := ih.2 h
          omega
/-- Clauses, one behind the other. -/
def clsW (P : Nat × Nat → Option Int) : Nat → List (Nat × Nat) → Bool × List (List Int) × List (Nat × Nat)
  | 0, l => (true, [], l)
  | k + 1, l => if (litsW P l).1 = true then ((clsW P k (litsW P l).2.2).1, (litsW P l).2.1 :: (clsW P k (litsW P l).2.2).2.1, (clsW P k (litsW P l).2.2).2.2) else (false, [], (litsW P l).2.2)
/-- More clauses than words: whatever their number, they don't stand, and it is the same word that cannot stand. -/
theorem clsW_over (P : Nat × Nat → Option Int) : ∀ (j k : Nat) (l : List (Nat × Nat)), l.length < j → l.length < k → (clsW P j l).1 = false ∧ (clsW P k l).1 = false ∧ (clsW P j l).2.2 = (clsW P k l).2.2
  | 0, k, l, h1, h2 => by omega
  | j + 1, 0, l, h1, h2 => by omega
  | j + 1, k + 1, l, h1, h2 => by
    unfold clsW
    have hl := litsW_len P l
    by_cases h : (litsW P l).1 = true
    · rw [if_pos h, if_pos h]
      have := hl.2 h
      exact clsW_over P j k _ (by omega) (by omega)
    · rw [if_neg h, if_neg h]
      exact ⟨rfl, rfl, rfl⟩
/-- What stands behind the header: whether it stands, the clauses, the last line's literals, the rest from the word on that cannot stand. -/
def tailW (t : List UInt8) (P : Nat × Nat → Option Int) (l : List (Nat × Nat)) : Bool × List Int × List (Nat × Nat) :=
  match l with
  | [] => (true, [], [])
  | x :: r => if piece t x = [97] then (if (litsW P r).1 = true then (decide ((litsW P r).2.2 = []), (litsW P r).2.1, (litsW P r).2.2) else (false, [], (litsW P r).2.2)) else (false, [], x :: r)
/-- Where a list of words begins. -/
def headAt (t : List UInt8) : List (Nat × Nat) → Nat
  | [] => t.length
  | x :: _ => x.1
end Go.Proofs.Ytkdalejceclanaa.RD
