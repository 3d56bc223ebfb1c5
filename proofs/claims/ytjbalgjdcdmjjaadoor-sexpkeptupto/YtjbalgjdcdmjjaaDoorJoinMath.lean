/-
  What tokens are (their kinds, their texts' lengths), how they are spelled one behind the other, and that what is written is read back, in plain words.
-/
import Derived.Test.YtjbalgjdcdmjjaaDoorQuoteMath
namespace Go.Proofs.YtjbalgjdcdmjjaaDoor.S
set_option linter.unusedVariables false
/-- What holds of each token. -/
def Tk (t : Tok) : Prop := (t.kind ≠ 3 → t.kind ≠ 9 → t.kind ≠ 10 → t.beg + t.text.length = t.fin) ∧ 1 ≤ t.kind ∧ t.kind ≤ 10 ∧ (t.kind = 1 → t.text = [40]) ∧ (t.kind = 2 → t.text = [41])
def InvL (i : Nat) : St → Prop
  | .inr (.inl (k, g, a)) => (k = 3 ∧ g + a.length = i) ∨ k = 10
  | .inr (.inr (.inr (.inl (g, a)))) => g + a.length = i
  | .inr (.inr (.inr (.inr (.inl (g, a))))) => g + a.length = i
  | .inr (.inr (.inr (.inr (.inr (.inl g))))) => g + 1 = i
  | .inr (.inr (.inr (.inr (.inr (.inr (.inl (k, _, g, a))))))) => 6 ≤ k ∧ k ≤ 8 ∧ g + a.length = i
  | .inr (.inr (.inr (.inr (.inr (.inr (.inr (.inl (k, _, g, a)))))))) => 6 ≤ k ∧ k ≤ 8 ∧ g + a.length = i
  | _ => True
def Res.okL (i : Nat) : Res → Prop
  | .inl (ts, q) => InvL (i + 1) q ∧ ∀ t, t ∈ ts → Tk t
  | .inr (ts, _, _) => ∀ t, t ∈ ts → Tk t
theorem okL_pre (i : Nat) (ts : List Tok) (r : Res) (h : ∀ t, t ∈ ts → Tk t) (hr : r.okL i) : (r.pre ts).okL i := by
  rcases r with ⟨a, q⟩ | ⟨a, e, p⟩
  · refine ⟨hr.1, ?_⟩
    intro t ht
    rcases List.mem_append.mp ht with ht | ht
    · exact h t ht
    · exact hr.2 t ht
  · intro t ht
    rcases List.mem_append.mp ht with ht | ht
    · exact h t ht
    · exact hr t ht
theorem okL_go {i : Nat} {q : St} (h : InvL (i + 1) q) : Res.okL i (.go [] q) := ⟨h, by intro t ht; simp at ht⟩
theorem okL_err {i e p : Nat} : Res.okL i (.err [] e p) := by intro t ht; simp at ht
variable (res : List UInt8 → Bool)
theorem tk_name {k g i : Nat} {a : List UInt8} (h : (k = 3 ∧ g + a.length = i) ∨ k = 10) : ∀ t, t ∈ [tok res k g i a] → Tk t := by
  intro t ht
  rw [List.mem_singleton] at ht
  subst ht
  unfold tok word Tk
  simp only
  rcases h with ⟨rfl, h⟩ | rfl
  · by_cases hr : res a = true
    · rw [if_pos ⟨rfl, hr⟩]
      exact ⟨fun _ _ _ => h, by simp, by simp, by simp, by simp⟩
    · rw [if_neg (by simp [hr])]
      exact ⟨fun c => absurd rfl c, by simp, by simp, by simp, by simp⟩
  · rw [if_neg (by simp)]
    exact ⟨fun _ _ c => absurd rfl c, by simp, by simp, by simp, by simp⟩
theorem tk_num {k g i : Nat} {a : List UInt8} (h1 : 5 ≤ k) (h2 : k ≤ 8) (h : g + a.length = i) : ∀ t, t ∈ [tok res k g i a] → Tk t := by
  intro t ht
  rw [List.mem_singleton] at ht
  subst ht
  unfold tok word Tk
  simp only
  rw [if_neg (by omega)]
  exact ⟨fun _ _ _ => h, by omega, by omega, by omega, by omega⟩
theorem tk_str {g i : Nat} {a : List UInt8} : ∀ t, t ∈ [tok res 9 g i a] → Tk t := by
  intro t ht
  rw [List.mem_singleton] at ht
  subst ht
  unfold tok word Tk
  simp only
  rw [if_neg (by simp)]
  exact ⟨fun _ c => absurd rfl c, by simp, by simp, by simp, by simp⟩
theorem stepIdle_okL (b : UInt8) (i : Nat) : (stepIdle b i).okL i := by
  unfold stepIdle
  repeat' split
  all_goals first
    | exact okL_err
    | exact okL_go (by simp [InvL])
    | (refine ⟨trivial, ?_⟩; intro t ht; rw [List.mem_singleton] at ht; subst ht; unfold Tk; simp)
theorem behindNumber_okL (k g : Nat) (a : List UInt8) (b : UInt8) (i : Nat) (h1 : 5 ≤ k) (h2 : k ≤ 8) (h : g + a.length = i) : (behindNumber res k g a b i).okL i := by
  unfold behindNumber
  split
  · exact okL_err
  · exact okL_pre _ _ _ (tk_num res h1 h2 h) (stepIdle_okL b i)
theorem stepZero_okL (g : Nat) (a : List UInt8) (b : UInt8) (i : Nat) (h : g + a.length = i) : (stepZero res g a b i).okL i := by
  unfold stepZero
  split
  · refine okL_go ?_
    show 6 ≤ 6 ∧ 6 ≤ 8 ∧ g + (a ++ [b]).length = i + 1
    simp
    omega
  · exact behindNumber_okL res 5 g a b i (by decide) (by decide) h
theorem content_okL (c : Cont) (b : UInt8) (i : Nat) : (content c b i).okL i := by
  unfold content
  repeat' split
  all_goals first
    | exact okL_err
    | exact okL_go trivial
theorem step_okL (q : St) (b : UInt8) (i : Nat) (h : InvL i q) : (step res q b i).okL i := by
  rcases q with _ | ⟨k, g, a⟩ | g | ⟨g, a⟩ | ⟨g, a⟩ | g | ⟨k, m, g, a⟩ | ⟨k, m, g, a⟩ | ⟨g, a⟩ | c | ⟨c, p, n, lo, hi⟩
  · exact stepIdle_okL b i
  · show Res.okL i (if sym b then _ else _)
    split
    · refine okL_go ?_
      rcases h with ⟨h1, h2⟩ | h
      · exact .inl ⟨h1, by simp; omega⟩
      · exact .inr h
    · exact okL_pre _ _ _ (tk_name res h) (stepIdle_okL b i)
  · show Res.okL i (if _ then _ else _)
    split
    · exact okL_go (.inr rfl)
    · exact okL_err
  · have h : g + a.length = i := h
    show Res.okL i (if dig b then _ else _)
    split
    · refine okL_go ?_
      show g + (a ++ [b]).length = i + 1
      simp
      omega
    · exact stepZero_okL res g a b i h
  · exact stepZero_okL res g a b i h
  · have h : g + 1 = i := h
    show Res.okL i (if b = 120 then _ else if b = 98 then _ else _)
    repeat' split
    · exact okL_go ⟨by decide, by decide, by simp; omega⟩
    · exact okL_go ⟨by decide, by decide, by simp; omega⟩
    · exact okL_err
  · obtain ⟨h1, h2, h3⟩ := h
    show Res.okL i (if inMost m b then _ else _)
    split
    · exact okL_go ⟨h1, h2, by simp; omega⟩
    · exact okL_err
  · obtain ⟨h1, h2, h3⟩ := h
    show Res.okL i (if inMost m b then _ else _)
    split
    · exact okL_go ⟨h1, h2, by simp; omega⟩
    · exact behindNumber_okL res k g a b i (by omega) h2 h3
  · show Res.okL i (if b = 34 then _ else _)
    split
    · exact okL_go trivial
    · exact okL_pre _ _ _ (tk_str res) (stepIdle_okL b i)
  · rcases c with _ | ⟨g, a⟩ | ⟨g, a⟩
    · show Res.okL i (if _ then _ else _)
      split
      · exact okL_go trivial
      · exact content_okL _ b i
    · show Res.okL i (if _ then _ else _)
      split
      · exact okL_go trivial
      · exact content_okL (.str g a) b i
    · show Res.okL i (if b = 124 then _ else if b = 92 then _ else _)
      repeat' split
      · refine ⟨trivial, ?_⟩
        intro t ht
        rw [List.mem_singleton] at ht
        subst ht
        exact ⟨fun c => absurd rfl c, by simp, by simp, by simp, by simp⟩
      · exact okL_err
      · exact content_okL (.bars g a) b i
  · show Res.okL i (if _ then _ else if n = 1 then _ else _)
    repeat' split
    · exact okL_err
    · exact okL_go trivial
    · exact okL_go trivial
theorem stop_okL (q : St) (i : Nat) (h : InvL i q) : ∀ t, t ∈ (stop res q i).1 → Tk t := by
  rcases q with _ | ⟨k, g, a⟩ | g | ⟨g, a⟩ | ⟨g, a⟩ | g | ⟨k, m, g, a⟩ | ⟨k, m, g, a⟩ | ⟨g, a⟩ | (_ | ⟨g, a⟩ | ⟨g, a⟩) | ⟨c, p, n, lo, hi⟩
  · intro t ht; simp [stop] at ht
  · exact tk_name res h
  · intro t ht; simp [stop] at ht
  · exact tk_num res (by decide) (by decide) h
  · exact tk_num res (by decide) (by decide) h
  · intro t ht; simp [stop] at ht
  · intro t ht; simp [stop] at ht
  · exact tk_num res (by have := h.1; omega) h.2.1 h.2.2
  · exact tk_str res
  all_goals (intro t ht; simp [stop] at ht)
theorem run_okL : ∀ (l : List UInt8) (q : St) (i : Nat), InvL i q → ∀ t, t ∈ (run res q l i).1 → Tk t
  | [], q, i, h => stop_okL res q i h
  | b :: l, q, i, h => by
    have hf := step_okL res q b i h
    rcases hs : step res q b i with ⟨ts, q'⟩ | ⟨ts, e, p⟩
    · rw [hs] at hf
      rw [run_go res hs]
      intro t ht
      rcases List.mem_append.mp ht with ht | ht
      · exact hf.2 t ht
      · exact run_okL l q' (i + 1) hf.1 t ht
    · rw [hs] at hf
      rw [run_err res hs]
      exact hf
/-- A blank or a closing parenthesis behind a token that may end there. -/
def Dl (r : List UInt8) : Prop := r = [] ∨ ∃ t, r = 32 :: t ∨ r = 41 :: t
theorem sym32 : sym 32 = false := by decide
theorem sym41 : sym 41 = false := by decide
theorem inMost_dl (m : Nat) (c : UInt8) (hc : c = 32 ∨ c = 41) : inMost m c = false := by
  unfold inMost
  rcases hc with rfl | rfl
  · by_cases h0 : m = 0
    · rw [if_pos h0]; decide
    · rw [if_neg h0]
      by_cases h1 : m = 1
      · rw [if_pos h1]; decide
      · rw [if_neg h1]; decide
  · by_cases h0 : m = 0
    · rw [if_pos h0]; decide
    · rw [if_neg h0]
      by_cases h1 : m = 1
      · rw [if_pos h1]; decide
      · rw [if_neg h1]; decide
/-- A delimiter ends what may end. -/
theorem step_dl (q : St) (c : UInt8) (i : Nat) (hc : c = 32 ∨ c = 41) (h : (stop res q i).2.1 = 0) (hne : (stop res q i).1 ≠ []) : step res q c i = (stepIdle c i).pre (stop res q i).1 := by
  have hs : sym c = false := by rcases hc with rfl | rfl <;> decide
  have hd : dig c = false := by rcases hc with rfl | rfl <;> decide
  have h46 : c ≠ 46 := by rcases hc with rfl | rfl <;> decide
  have h34 : c ≠ 34 := by rcases hc with rfl | rfl <;> decide
  rcases q with _ | ⟨k, g, a⟩ | g | ⟨g, a⟩ | ⟨g, a⟩ | g | ⟨k, m, g, a⟩ | ⟨k, m, g, a⟩ | ⟨g, a⟩ | (_ | ⟨g, a⟩ | ⟨g, a⟩) | ⟨c', p, n, lo, hi⟩
  · exact absurd rfl hne
  · show (if sym c then _ else _) = _
    rw [if_neg (by rw [hs]; simp)]
    rfl
  · exact absurd rfl hne
  · show (if dig c then _ else stepZero res g a c i) = _
    rw [if_neg (by rw [hd]; simp)]
    unfold stepZero behindNumber
    rw [if_neg h46, if_neg (by rw [hs]; simp)]
    rfl
  · show stepZero res g a c i = _
    unfold stepZero behindNumber
    rw [if_neg h46, if_neg (by rw [hs]; simp)]
    rfl
  · exact absurd rfl hne
  · exact absurd rfl hne
  · show (if inMost m c then _ else behindNumber res k g a c i) = _
    rw [if_neg (by rw [inMost_dl m c hc]; simp)]
    unfold behindNumber
    rw [if_neg (by rw [hs]; simp)]
    rfl
  · show (if c = 34 then _ else _) = _
    rw [if_neg h34]
    rfl
  · exact absurd rfl hne
  · exact absurd rfl hne
  · exact absurd rfl hne
  · exact absurd rfl hne
theorem run_dl (q : St) (r : List UInt8) (i : Nat) (hr : Dl r) (h : (stop res q i).2.1 = 0) (hne : (stop res q i).1 ≠ []) : run res q r i = pre (stop res q i).1 (run res .idle r i) := by
  rcases hr with rfl | ⟨t, rfl | rfl⟩
  · show stop res q i = pre (stop res q i).1 (stop res .idle i)
    have hp := run_place res [] q i h
    have : stop res q i = ((stop res q i).1, 0, 0) := by
      have h2 : (stop res q i).2.2 = 0 := hp
      generalize stop res q i = o at h h2 ⊢
      obtain ⟨a, b, c⟩ := o
      simp only at h h2
      rw [h, h2]
    conv => lhs; rw [this]
    show _ = (_ ++ [], 0, 0)
    rw [List.append_nil]
  · exact run_pass res (step_dl res q 32 i (.inl rfl) h hne)
  · exact run_pass res (step_dl res q 41 i (.inr rfl) h hne)
/-- A token whose bytes stand alone, told at the end: with a delimiter behind it it is read as it is. -/
theorem run_alone (x r : List UInt8) (t : Tok) (p : Nat) (i : Nat) (h : run res .idle x 0 = ([t], 0, p)) (hf : t.fin = x.length) (hn : ¬ now x t) (hr : Dl r) :
    run res .idle (x ++ r) i = pre [shT i t] (run res .idle r (i + x.length)) := by
  have ha := run_append res [] x .idle 0
  rw [List.append_nil, h] at ha
  obtain ⟨g1, g2⟩ := feed_fits res x x [] .idle 0 (by simp) trivial
  rw [Nat.zero_add] at g1
  have hq : ∃ q', (feed res .idle x 0).2 = .inl q' ∧ (feed res .idle x 0).1 = [] ∧ stop res q' x.length = ([t], 0, p) := by
    rcases hq : (feed res .idle x 0).2 with q' | ⟨e, p'⟩
    · rw [hq] at ha
      simp only [Nat.zero_add] at ha
      have ha1 : (feed res .idle x 0).1 ++ (stop res q' x.length).1 = [t] := (Prod.mk.inj ha).1.symm
      have ha2 : (stop res q' x.length).2 = (0, p) := (Prod.mk.inj ha).2.symm
      have hno : (feed res .idle x 0).1 = [] := by
        cases hl : (feed res .idle x 0).1 with
        | nil => rfl
        | cons y ys =>
          rw [hl] at ha1
          have hy : y = t := (List.cons.inj ha1).1
          rcases g1 y (by rw [hl]; exact List.mem_cons_self) with h | h
          · rw [hy] at h
            omega
          · rw [hy] at h
            exact absurd h.2 hn
      refine ⟨q', rfl, hno, ?_⟩
      rw [hno, List.nil_append] at ha1
      exact Prod.ext ha1 ha2
    · rw [hq] at ha
      simp only at ha
      have ha1 : (feed res .idle x 0).1 = [t] := (Prod.mk.inj ha).1.symm
      rcases g1 t (by rw [ha1]; exact List.mem_cons_self) with h | h
      · omega
      · exact absurd h.2 hn
  obtain ⟨q', e1, e2, e3⟩ := hq
  have hb := run_append res r x .idle 0
  rw [e1, e2] at hb
  simp only [Nat.zero_add] at hb
  rw [pre_nil, run_dl res q' r x.length hr (by rw [e3]) (by rw [e3]; simp), e3] at hb
  have hs := run_sh res i (x ++ r) .idle 0
  have hs' := run_sh res i r .idle x.length
  have hidle : sh i .idle = .idle := rfl
  rw [hidle, Nat.zero_add] at hs
  rw [hidle] at hs'
  rw [hs, hb, shO_pre, Nat.add_comm i, hs']
  rfl
/-- Is the text just one token, of that kind and of that very text? -/
def oneOf (k : Int) (x : List UInt8) : Bool := match (run res .idle x 0).1, (run res .idle x 0).2.1 with
  | [t], 0 => decide ((t.kind : Int) = k) && (t.text == x)
  | _, _ => false
/-- A token's spelling; none: it has none. -/
def spl (k : Int) (x : List UInt8) : Option (List UInt8) := if k = 3 then quo res x else if k = 9 then lit x else if k = 10 then (if smp x then some (58 :: x) else none) else if oneOf res k x then some x else none
/-- What stands ahead of a token of kind k behind one of kind p. -/
def sep (p : Option Int) (k : Int) : List UInt8 := match p with | none => [] | some q => if q ≠ 1 ∧ k ≠ 2 then [32] else []
/-- Tokens one behind the other. -/
def jn : Option Int → List (Int × List UInt8) → Option (List UInt8)
  | _, [] => some []
  | p, (k, x) :: r =>
    match spl res k x with
    | none => none
    | some s => match jn (some k) r with
      | none => none
      | some t => some (sep p k ++ s ++ t)
end Go.Proofs.YtjbalgjdcdmjjaaDoor.S
