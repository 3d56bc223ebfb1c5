/- Laid together of: JoinedMath, TokMath. -/
import Derived.Test.YtackibimlpkcmaaDoorq2
/- ==== JoinedMath ==== -/
namespace Go.Proofs.YtackibimlpkcmaaDoor.S
set_option linter.unusedVariables false
section
variable (res : List UInt8 → Bool)
def Res.ten : Res → Prop
  | .inl _ => True
  | .inr (_, e, _) => 10 ≤ e ∧ e ≤ 17
theorem ten_pre (ts : List Tok) (r : Res) (h : r.ten) : (r.pre ts).ten := by
  rcases r with ⟨a, q⟩ | ⟨a, e, p⟩
  · trivial
  · exact h
theorem stepIdle_ten (b : UInt8) (i : Nat) : (stepIdle b i).ten := by
  unfold stepIdle
  repeat' split
  all_goals simp [Res.ten]
theorem behindNumber_ten (k g : Nat) (a : List UInt8) (b : UInt8) (i : Nat) : (behindNumber res k g a b i).ten := by
  unfold behindNumber
  split
  · simp [Res.ten]
  · exact ten_pre _ _ (stepIdle_ten b i)
theorem stepZero_ten (g : Nat) (a : List UInt8) (b : UInt8) (i : Nat) : (stepZero res g a b i).ten := by
  unfold stepZero
  split
  · trivial
  · exact behindNumber_ten res _ _ _ _ _
theorem content_ten (c : Cont) (b : UInt8) (i : Nat) : (content c b i).ten := by
  unfold content
  repeat' split
  all_goals simp [Res.ten]
theorem step_ten (q : St) (b : UInt8) (i : Nat) : (step res q b i).ten := by
  rcases q with _ | ⟨k, g, a⟩ | g | ⟨g, a⟩ | ⟨g, a⟩ | g | ⟨k, m, g, a⟩ | ⟨k, m, g, a⟩ | ⟨g, a⟩ | c | ⟨c, s, n, lo, hi⟩
  · exact stepIdle_ten b i
  · show Res.ten (if _ then _ else _)
    split
    · trivial
    · exact ten_pre _ _ (stepIdle_ten b i)
  · show Res.ten (if _ then _ else _)
    split <;> simp [Res.ten]
  · show Res.ten (if _ then _ else _)
    split
    · trivial
    · exact stepZero_ten res _ _ _ _
  · exact stepZero_ten res _ _ _ _
  · show Res.ten (if _ then _ else if _ then _ else _)
    repeat' split
    all_goals simp [Res.ten]
  · show Res.ten (if _ then _ else _)
    split <;> simp [Res.ten]
  · show Res.ten (if _ then _ else _)
    split
    · trivial
    · exact behindNumber_ten res _ _ _ _ _
  · show Res.ten (if _ then _ else _)
    split
    · trivial
    · exact ten_pre _ _ (stepIdle_ten b i)
  · rcases c with _ | ⟨g, a⟩ | ⟨g, a⟩
    · show Res.ten (if _ then _ else _)
      split
      · trivial
      · exact content_ten _ _ _
    · show Res.ten (if _ then _ else _)
      split
      · trivial
      · exact content_ten _ _ _
    · show Res.ten (if _ then _ else if _ then _ else _)
      repeat' split
      · trivial
      · simp [Res.ten]
      · exact content_ten _ _ _
  · show Res.ten (if _ then _ else if _ then _ else _)
    repeat' split
    all_goals simp [Res.ten]
theorem stop_ten (q : St) (i : Nat) : (stop res q i).2.1 = 0 ∨ (10 ≤ (stop res q i).2.1 ∧ (stop res q i).2.1 ≤ 17) := by
  rcases q with _ | ⟨k, g, a⟩ | g | ⟨g, a⟩ | ⟨g, a⟩ | g | ⟨k, m, g, a⟩ | ⟨k, m, g, a⟩ | ⟨g, a⟩ | (_ | ⟨g, a⟩ | ⟨g, a⟩) | ⟨c, s, k, lo, hi⟩ <;> first | exact .inl rfl | (right; simp [stop])
theorem run_ten : ∀ (l : List UInt8) (q : St) (i : Nat), (run res q l i).2.1 = 0 ∨ (10 ≤ (run res q l i).2.1 ∧ (run res q l i).2.1 ≤ 17)
  | [], q, i => stop_ten res q i
  | b :: t, q, i => by
    have hg := step_ten res q b i
    rcases hs : step res q b i with ⟨ts, q'⟩ | ⟨ts, e, p⟩
    · rw [run_go res hs]
      exact run_ten t q' (i + 1)
    · rw [run_err res hs]
      rw [hs] at hg
      exact .inr hg
theorem stop_nil (q : St) (i : Nat) (h : (stop res q i).2.1 ≠ 0) : (stop res q i).1 = [] := by
  rcases q with _ | ⟨k, g, a⟩ | g | ⟨g, a⟩ | ⟨g, a⟩ | g | ⟨k, m, g, a⟩ | ⟨k, m, g, a⟩ | ⟨g, a⟩ | (_ | ⟨g, a⟩ | ⟨g, a⟩) | ⟨c, s, k, lo, hi⟩ <;> first | rfl | exact absurd rfl h
/-- The tokens ahead of an error are told, whatever comes behind. -/
theorem run_pref (x : List UInt8) : ∀ (l : List UInt8) (q : St) (i : Nat), (run res q l i).2.1 ≠ 0 → ∃ r, (run res q (l ++ x) i).1 = (run res q l i).1 ++ r
  | [], q, i, h => ⟨_, by rw [show (run res q [] i).1 = [] from stop_nil res q i h]; rfl⟩
  | b :: t, q, i, h => by
    rcases hs : step res q b i with ⟨ts, q'⟩ | ⟨ts, e, p⟩
    · rw [run_go res hs] at h
      obtain ⟨r, hr⟩ := run_pref x t q' (i + 1) h
      refine ⟨r, ?_⟩
      rw [List.cons_append, run_go res hs, run_go res hs]
      show ts ++ _ = ts ++ _ ++ r
      rw [hr, List.append_assoc]
    · refine ⟨[], ?_⟩
      rw [List.cons_append, run_err res hs, run_err res hs, List.append_nil]
end
end Go.Proofs.YtackibimlpkcmaaDoor.S
namespace Go.Proofs.YtackibimlpkcmaaDoor.X
open Go.Proofs.YtackibimlpkcmaaDoor.S
set_option linter.unusedVariables false
/-- A node's places moved by d; a list that is not closed has no end yet. -/
def mvN (d : Nat) (n : N) : N := ⟨n.kind, n.beg + d, n.fin + d, n.size, n.text⟩
def swN (d : Nat) (n : N) : N := if n.size = 0 then ⟨n.kind, n.beg + d, n.fin, n.size, n.text⟩ else mvN d n
theorem swN_beg (d : Nat) (n : N) : (swN d n).beg = n.beg + d := by unfold swN; split <;> rfl
theorem swN_kind (d : Nat) (n : N) : (swN d n).kind = n.kind := by unfold swN; split <;> rfl
theorem swN_text (d : Nat) (n : N) : (swN d n).text = n.text := by unfold swN; split <;> rfl
theorem map_getD {α : Type} (f : α → α) (l : List α) (j : Nat) (x : α) (h : j < l.length) : (l.map f).getD j x = f (l.getD j x) := by
  rw [List.getD_eq_getElem?_getD, List.getD_eq_getElem?_getD, List.getElem?_map, List.getElem?_eq_getElem h]
  rfl
theorem getD_right {α : Type} (a b : List α) (j : Nat) (x : α) : (a ++ b).getD (a.length + j) x = b.getD j x := by
  rw [List.getD_eq_getElem?_getD, List.getD_eq_getElem?_getD, List.getElem?_append_right (by omega), Nat.add_sub_cancel_left]
/-- The machine behind closed nodes f, its tokens moved by d. -/
theorem pr_move (f : List N) (d : Nat) : ∀ (r : List Tok) (ns : List N) (st : List Nat), (∀ g ∈ st, g < ns.length) →
    pr (r.map (shT d)) (f ++ ns.map (swN d)) (st.map (f.length + ·)) = match pr r ns st with
      | .inl (ns', st') => .inl (f ++ ns'.map (swN d), st'.map (f.length + ·))
      | .inr (ns', b) => .inr (f ++ ns'.map (swN d), b + d)
  | [], ns, st, h => rfl
  | t :: r, ns, st, h => by
    rw [List.map_cons, pr_cons, pr_cons]
    have hk : (shT d t).kind = t.kind := rfl
    rw [hk]
    by_cases h1 : t.kind = 1
    · rw [if_pos h1, if_pos h1]
      have := pr_move f d r (ns ++ [newL t]) (ns.length :: st) (by
        intro g hg
        rw [List.length_append, List.length_cons, List.length_nil]
        rcases List.mem_cons.1 hg with rfl | hg
        · omega
        · have := h g hg; omega)
      rw [← this]
      congr 1
      · rw [List.map_append, ← List.append_assoc]
        rfl
      · rw [List.map_cons, List.length_append, List.length_map]
    · rw [if_neg h1, if_neg h1]
      by_cases h2 : t.kind = 2
      · rw [if_pos h2, if_pos h2]
        cases st with
        | nil => rfl
        | cons g st' =>
          have hg := h g List.mem_cons_self
          have := pr_move f d r (shutL ns g t.fin) st' (by
            intro k hk
            unfold shutL
            rw [List.length_set]
            exact h k (List.mem_cons_of_mem _ hk))
          rw [List.map_cons]
          show pr _ (shutL (f ++ ns.map (swN d)) (f.length + g) (t.fin + d)) _ = _
          rw [← this]
          congr 1
          unfold shutL
          rw [getD_right, map_getD _ _ _ _ hg, List.set_append_right _ _ (by omega), Nat.add_sub_cancel_left, List.length_append, List.length_map, List.map_set]
          congr 2
          rw [swN_kind, swN_beg, swN_text, show f.length + ns.length - (f.length + g) = ns.length - g by omega]
          unfold swN
          rw [if_neg (by simp only; omega)]
          rfl
      · rw [if_neg h2, if_neg h2]
        have := pr_move f d r (ns ++ [atom t]) st (by intro g hg; rw [List.length_append]; have := h g hg; omega)
        rw [← this]
        congr 1
        rw [List.map_append, ← List.append_assoc]
        rfl
/-- Only lists that are open have no size. -/
def Shut (ns : List N) (st : List Nat) : Prop := ∀ j, j < ns.length → (ns.getD j n0).size = 0 → j ∈ st
theorem pr_shut : ∀ (r : List Tok) (ns : List N) (st : List Nat), (∀ g ∈ st, g < ns.length) → Shut ns st →
    (∀ ns' st', pr r ns st = .inl (ns', st') → Shut ns' st') ∧ ∀ ns' b, pr r ns st = .inr (ns', b) → Shut ns' []
  | [], ns, st, hg, h => ⟨fun ns' st' e => (by cases e; exact h), fun ns' b e => (by cases e)⟩
  | t :: r, ns, st, hg, h => by
    rw [pr_cons]
    by_cases h1 : t.kind = 1
    · rw [if_pos h1]
      refine pr_shut r _ _ (fun g hg' => ?_) (fun j hj hz => ?_)
      · rw [List.length_append, List.length_cons, List.length_nil]
        rcases List.mem_cons.1 hg' with rfl | hg'
        · omega
        · have := hg g hg'; omega
      · rw [List.length_append, List.length_cons, List.length_nil] at hj
        by_cases e : j = ns.length
        · subst e; exact List.mem_cons_self
        · rw [getD_old _ _ _ (by omega)] at hz
          exact List.mem_cons_of_mem _ (h j (by omega) hz)
    · rw [if_neg h1]
      by_cases h2 : t.kind = 2
      · rw [if_pos h2]
        cases st with
        | nil => exact ⟨fun ns' st' e => (by cases e), fun ns' b e => (by cases e; exact h)⟩
        | cons g st' =>
          have hgl := hg g List.mem_cons_self
          refine pr_shut r _ _ (fun k hk => ?_) (fun j hj hz => ?_)
          · unfold shutL
            rw [List.length_set]
            exact hg k (List.mem_cons_of_mem _ hk)
          · unfold shutL at hj hz
            rw [List.length_set] at hj
            by_cases e : g = j
            · subst e
              rw [getD_set _ _ _ hgl] at hz
              simp only at hz
              omega
            · rw [getD_set_ne _ _ _ e] at hz
              rcases List.mem_cons.1 (h j hj hz) with rfl | hm
              · exact absurd rfl e
              · exact hm
      · rw [if_neg h2]
        refine pr_shut r _ _ (fun g hg' => ?_) (fun j hj hz => ?_)
        · rw [List.length_append]
          have := hg g hg'; omega
        · rw [List.length_append, List.length_cons, List.length_nil] at hj
          by_cases e : j = ns.length
          · subst e
            rw [getD_new] at hz
            cases hz
          · rw [getD_old _ _ _ (by omega)] at hz
            exact h j (by omega) hz
theorem map_sw {d : Nat} {ns : List N} (h : ∀ j, j < ns.length → (ns.getD j n0).size ≠ 0) : ns.map (swN d) = ns.map (mvN d) := by
  apply List.map_congr_left
  intro x hx
  obtain ⟨j, hj, rfl⟩ := List.mem_iff_getElem.1 hx
  have := h j hj
  rw [List.getD_eq_getElem?_getD, List.getElem?_eq_getElem hj] at this
  have this : ns[j].size ≠ 0 := this
  unfold swN
  rw [if_neg this]
theorem last_map (c : Nat) : ∀ (st : List Nat) (x : Nat), (st.map (c + ·)).getLastD (c + x) = c + st.getLastD x
  | [], x => rfl
  | a :: st, x => by
    rw [List.map_cons, List.getLastD_cons, List.getLastD_cons]
    exact last_map c st a
/-- What is told has no list that is open. -/
theorem out_shut (l : List Tok) (e p : Nat) : ∀ j, j < (out l e p).1.length → ((out l e p).1.getD j n0).size ≠ 0 := by
  have hs := pr_shut l [] [] (by simp) (by intro j hj; simp at hj)
  have hb := pr_blocks (fun _ => True) l [] [] [] jb_zero (fun _ _ _ => trivial)
  unfold out
  rcases hp : pr l [] [] with ⟨ns, st⟩ | ⟨ns, b⟩
  · have h1 := hs.1 ns st hp
    cases st with
    | nil => intro j hj hz; exact absurd (h1 j hj hz) (by simp)
    | cons g st =>
      intro j hj hz
      simp only at hj hz
      rw [List.length_take] at hj
      rw [List.getD_eq_getElem?_getD, List.getElem?_take_of_lt (by omega), ← List.getD_eq_getElem?_getD] at hz
      have hm := h1 j (by omega) hz
      rcases hb with ⟨ns', st', new, e1, hj', _⟩ | ⟨ns', p', new, e1, hj', _⟩
      · rw [hp] at e1
        cases e1
        have := last_least hj'.2.2.2.2.2.1 j hm
        omega
      · rw [hp] at e1
        cases e1
  · intro j hj hz
    exact absurd (hs.2 ns b hp j hj hz) (by simp)
/-- Two texts, a line's end between. -/
theorem out_joined (ta tb : List Tok) (eb pb d : Nat) (f : List N) (hf : pr ta [] [] = .inl (f, [])) (hp : eb = 0 → pb = 0) :
    out (ta ++ tb.map (shT d)) eb (if eb = 0 then pb else pb + d) =
      (f ++ (out tb eb pb).1.map (mvN d), (out tb eb pb).2.1, if (out tb eb pb).2.1 = 0 then 0 else (out tb eb pb).2.2 + d) := by
  have hm := pr_move f d tb [] [] (by simp)
  have hsh := out_shut tb eb pb
  have hblk := pr_blocks (fun _ => True) tb [] [] [] jb_zero (fun _ _ _ => trivial)
  have hap := pr_append ta (tb.map (shT d)) [] []
  rw [hf] at hap
  simp only at hap
  simp only [List.map_nil, List.append_nil] at hm
  rw [hm] at hap
  rw [← map_sw hsh]
  unfold out at hsh ⊢
  rw [hap]
  rcases hq : pr tb [] [] with ⟨ns, st⟩ | ⟨ns, b⟩
  · cases st with
    | nil =>
      simp only [List.map_nil]
      by_cases he : eb = 0
      · rw [if_pos he, if_pos he, hp he]
      · rw [if_neg he, if_neg he]
    | cons g st =>
      have hlt : (g :: st).getLastD 0 < ns.length := by
        rcases hblk with ⟨ns', st', new, e1, hj', _⟩ | ⟨ns', p', new, e1, hj', _⟩
        · rw [hq] at e1
          cases e1
          exact (hj'.2.2.2.2.2.2 _ (last_mem (g :: st) (by simp))).1
        · rw [hq] at e1
          cases e1
      have hl : ((g :: st).map (f.length + ·)).getLastD 0 = f.length + (g :: st).getLastD 0 := by
        rw [List.map_cons, List.getLastD_cons, List.getLastD_cons]
        exact last_map f.length st g
      simp only [List.map_cons] at hl ⊢
      rw [hl, List.take_append, List.take_of_length_le (show f.length ≤ _ by omega), Nat.add_sub_cancel_left, List.map_take, getD_right, map_getD _ _ _ _ hlt, swN_beg]
      by_cases he : eb = 0
      · rw [if_pos he, if_pos he, if_pos he]
        rfl
      · simp only [if_neg he]
  · rfl
/-- Its places are at most M. -/
def Bd (M : Nat) (n : N) : Prop := n.beg ≤ M ∧ n.fin ≤ M
theorem getD_bd {M : Nat} {ns : List N} (h : ∀ n ∈ ns, Bd M n) (g : Nat) : Bd M (ns.getD g n0) := by
  rw [List.getD_eq_getElem?_getD]
  cases e : ns[g]? with
  | none => exact ⟨Nat.zero_le _, Nat.zero_le _⟩
  | some x => exact h x (List.mem_of_getElem? e)
theorem pr_bd (M : Nat) : ∀ (r : List Tok) (ns : List N) (st : List Nat), (∀ t ∈ r, t.beg ≤ M ∧ t.fin ≤ M) → (∀ n ∈ ns, Bd M n) →
    (∀ ns' st', pr r ns st = .inl (ns', st') → ∀ n ∈ ns', Bd M n) ∧ ∀ ns' b, pr r ns st = .inr (ns', b) → (∀ n ∈ ns', Bd M n) ∧ b ≤ M
  | [], ns, st, ht, h => ⟨fun ns' st' e => (by cases e; exact h), fun ns' b e => (by cases e)⟩
  | t :: r, ns, st, ht, h => by
    have h0 := ht t List.mem_cons_self
    have hr : ∀ t ∈ r, t.beg ≤ M ∧ t.fin ≤ M := fun x hx => ht x (List.mem_cons_of_mem _ hx)
    rw [pr_cons]
    by_cases h1 : t.kind = 1
    · rw [if_pos h1]
      refine pr_bd M r _ _ hr (fun n hn => ?_)
      rcases List.mem_append.1 hn with hn | hn
      · exact h n hn
      · rw [List.mem_singleton.1 hn]; exact ⟨h0.1, Nat.zero_le _⟩
    · rw [if_neg h1]
      by_cases h2 : t.kind = 2
      · rw [if_pos h2]
        cases st with
        | nil => exact ⟨fun ns' st' e => (by cases e), fun ns' b e => (by cases e; exact ⟨h, h0.1⟩)⟩
        | cons g st' =>
          refine pr_bd M r _ _ hr (fun n hn => ?_)
          unfold shutL at hn
          rcases List.mem_or_eq_of_mem_set hn with hn | rfl
          · exact h n hn
          · exact ⟨(getD_bd h g).1, h0.2⟩
      · rw [if_neg h2]
        refine pr_bd M r _ _ hr (fun n hn => ?_)
        rcases List.mem_append.1 hn with hn | hn
        · exact h n hn
        · rw [List.mem_singleton.1 hn]; exact h0
theorem out_bd (M : Nat) (l : List Tok) (e p : Nat) (ht : ∀ t ∈ l, t.beg ≤ M ∧ t.fin ≤ M) (hp : p ≤ M) : (∀ n ∈ (out l e p).1, Bd M n) ∧ (out l e p).2.2 ≤ M := by
  have hb := pr_bd M l [] [] ht (by simp)
  unfold out
  rcases hq : pr l [] [] with ⟨ns, st⟩ | ⟨ns, b⟩
  · have h1 := hb.1 ns st hq
    cases st with
    | nil => exact ⟨h1, hp⟩
    | cons g st =>
      refine ⟨fun n hn => h1 n (List.mem_of_mem_take hn), ?_⟩
      simp only
      split
      · exact (getD_bd h1 _).1
      · exact hp
  · exact hb.2 ns b hq
/-- The error of a reading. -/
theorem out_err (l : List Tok) (e p : Nat) (he : e = 0 ∨ (10 ≤ e ∧ e ≤ 17)) : ((out l e p).2.1 = 20 → ∃ ns b, pr l [] [] = .inr (ns, b) ∧ out l e p = (ns, 20, b)) ∧ ((out l e p).2.1 = 0 → e = 0 ∧ ∃ ns, pr l [] [] = .inl (ns, []) ∧ out l e p = (ns, e, p)) := by
  unfold out
  rcases hq : pr l [] [] with ⟨ns, st⟩ | ⟨ns, b⟩
  · cases st with
    | nil =>
      refine ⟨fun h => ?_, fun h => ⟨h, ns, rfl, rfl⟩⟩
      simp only at h
      omega
    | cons g st =>
      refine ⟨fun h => ?_, fun h => ?_⟩ <;> (simp only at h; split at h <;> omega)
  · exact ⟨fun _ => ⟨ns, b, rfl, rfl⟩, fun h => by simp only at h; omega⟩
/-- A closing parenthesis too many stays the first error. -/
theorem out_close {l r : List Tok} {ns : List N} {b : Nat} (h : pr l [] [] = .inr (ns, b)) (e p : Nat) : out (l ++ r) e p = (ns, 20, b) := by
  unfold out
  rw [pr_append, h]
end Go.Proofs.YtackibimlpkcmaaDoor.X
/- ==== TokMath ==== -/
namespace Go.Proofs.YtackibimlpkcmaaDoor.X
open Go.Proofs.YtackibimlpkcmaaDoor.S
set_option linter.unusedVariables false
def op1 (l : List Tok) (i : Nat) : Nat := (l.take i).countP fun t => t.kind == 1
def cl2 (l : List Tok) (i : Nat) : Nat := (l.take i).countP fun t => t.kind == 2
theorem take_tok {l : List Tok} {i : Nat} (h : i < l.length) : l.take (i + 1) = l.take i ++ [l.getD i t0] := by
  rw [List.getD_eq_getElem?_getD, List.getElem?_eq_getElem h]
  simp
theorem op1_succ {l : List Tok} {i : Nat} (h : i < l.length) : op1 l (i + 1) = op1 l i + if (l.getD i t0).kind = 1 then 1 else 0 := by
  unfold op1
  rw [take_tok h, List.countP_append, List.countP_cons, List.countP_nil]
  by_cases c : (l.getD i t0).kind = 1
  · rw [if_pos c, if_pos (by simpa using c)]
  · rw [if_neg c, if_neg (by simpa using c)]
theorem cl2_succ {l : List Tok} {i : Nat} (h : i < l.length) : cl2 l (i + 1) = cl2 l i + if (l.getD i t0).kind = 2 then 1 else 0 := by
  unfold cl2
  rw [take_tok h, List.countP_append, List.countP_cons, List.countP_nil]
  by_cases c : (l.getD i t0).kind = 2
  · rw [if_pos c, if_pos (by simpa using c)]
  · rw [if_neg c, if_neg (by simpa using c)]
theorem op1_zero (l : List Tok) : op1 l 0 = 0 := by simp [op1]
theorem cl2_zero (l : List Tok) : cl2 l 0 = 0 := by simp [cl2]
theorem nb_cl2 {l : List Tok} : ∀ {i : Nat}, i ≤ l.length → nb l i + cl2 l i = i
  | 0, _ => by rw [nb_zero, cl2_zero]
  | i + 1, h => by
    have ih := nb_cl2 (l := l) (i := i) (by omega)
    rw [nb_succ l i (by omega), cl2_succ (by omega)]
    split <;> omega
/-- What is closed is closed at the parenthesis that matches. -/
def Bal (l : List Tok) (i : Nat) (tz : List Int) (op : List Nat) : Prop :=
  tz.length = i ∧ (∀ p, p < op.length → op.getD p 0 < i ∧ op1 l i + cl2 l (op.getD p 0) = cl2 l i + op1 l (op.getD p 0) + (p + 1)) ∧ op1 l i = cl2 l i + op.length ∧
  ∀ j, j < i → (l.getD j t0).kind = 1 → j ∈ op ∨ ∃ c : Nat, tz.getD j 0 = (c : Int) ∧ j < c ∧ c < i ∧ (l.getD c t0).kind = 2 ∧ op1 l (c + 1) + cl2 l j = cl2 l (c + 1) + op1 l j
theorem bal_zero (l : List Tok) : Bal l 0 [] [] := ⟨rfl, fun p hp => by simp at hp, by simp [op1_zero, cl2_zero], fun j hj => by omega⟩
theorem bal_open {l : List Tok} {i : Nat} {tz : List Int} {op : List Nat} (h : Bal l i tz op) (hi : i < l.length) (hk : (l.getD i t0).kind = 1) : Bal l (i + 1) (tz ++ [-1]) (i :: op) := by
  obtain ⟨h1, h2, h3, h4⟩ := h
  have e1 := op1_succ hi
  have e2 := cl2_succ hi
  rw [if_pos hk] at e1
  rw [if_neg (by omega)] at e2
  refine ⟨by simp [h1], fun p hp => ?_, by rw [e1, e2, List.length_cons]; omega, fun j hj hkj => ?_⟩
  · cases p with
    | zero =>
      rw [List.getD_cons_zero]
      exact ⟨by omega, by omega⟩
    | succ p =>
      rw [List.getD_cons_succ]
      have := h2 p (by simpa using hp)
      exact ⟨by omega, by omega⟩
  · by_cases c : j = i
    · subst c
      exact .inl (by simp)
    · rcases h4 j (by omega) hkj with q | ⟨c', q1, q2, q3, q4, q5⟩
      · exact .inl (List.mem_cons_of_mem _ q)
      · exact .inr ⟨c', by rw [getD_old _ _ _ (by omega)]; exact q1, q2, by omega, q4, q5⟩
theorem bal_atom {l : List Tok} {i : Nat} {tz : List Int} {op : List Nat} (h : Bal l i tz op) (hi : i < l.length) (hk : (l.getD i t0).kind ≠ 1) (hk2 : (l.getD i t0).kind ≠ 2) : Bal l (i + 1) (tz ++ [(i : Int)]) op := by
  obtain ⟨h1, h2, h3, h4⟩ := h
  have e1 := op1_succ hi
  have e2 := cl2_succ hi
  rw [if_neg hk] at e1
  rw [if_neg hk2] at e2
  refine ⟨by simp [h1], fun p hp => ?_, by rw [e1, e2]; omega, fun j hj hkj => ?_⟩
  · have := h2 p hp
    exact ⟨by omega, by omega⟩
  · by_cases c : j = i
    · subst c
      exact absurd hkj hk
    · rcases h4 j (by omega) hkj with q | ⟨c', q1, q2, q3, q4, q5⟩
      · exact .inl q
      · exact .inr ⟨c', by rw [getD_old _ _ _ (by omega)]; exact q1, q2, by omega, q4, q5⟩
theorem bal_close {l : List Tok} {i g : Nat} {tz : List Int} {op : List Nat} (h : Bal l i tz (g :: op)) (hi : i < l.length) (hk : (l.getD i t0).kind = 2) : Bal l (i + 1) ((tz ++ [(i : Int)]).set g i) op := by
  obtain ⟨h1, h2, h3, h4⟩ := h
  have e1 := op1_succ hi
  have e2 := cl2_succ hi
  rw [if_neg (by omega)] at e1
  rw [if_pos hk] at e2
  have hg := h2 0 (by simp)
  rw [List.getD_cons_zero] at hg
  refine ⟨by simp [h1], fun p hp => ?_, by rw [List.length_cons] at h3; omega, fun j hj hkj => ?_⟩
  · have := h2 (p + 1) (by simpa using hp)
    rw [List.getD_cons_succ] at this
    exact ⟨by omega, by omega⟩
  · by_cases c : j = g
    · subst c
      exact .inr ⟨i, getD_set _ _ _ (by simp; omega), hg.1, by omega, hk, by omega⟩
    · by_cases c2 : j = i
      · subst c2
        omega
      · rcases h4 j (by omega) hkj with q | ⟨c', q1, q2, q3, q4, q5⟩
        · rcases List.mem_cons.1 q with q | q
          · exact absurd q c
          · exact .inl q
        · exact .inr ⟨c', by rw [getD_set_ne _ _ _ (Ne.symm c), getD_old _ _ _ (by omega)]; exact q1, q2, by omega, q4, q5⟩
theorem bal_step (l : List Tok) : ∀ (r : List Tok) (i : Nat) (tz : List Int) (op : List Nat), l.drop i = r → i ≤ l.length → Bal l i tz op → ∀ tz' op', cl r i tz op = .inl (tz', op') → Bal l l.length tz' op'
  | [], i, tz, op, hr, hle, h, tz', op', e => by
    have hl : l.length ≤ i := by
      have := congrArg List.length hr
      simp at this
      omega
    unfold cl at e
    cases e
    obtain rfl : i = l.length := by omega
    exact h
  | t :: r, i, tz, op, hr, hle, h, tz', op', e => by
    have hi : i < l.length := by
      have := congrArg List.length hr
      simp at this
      omega
    have hd := drop_tok l i hi
    rw [hr] at hd
    obtain ⟨rfl, hr2⟩ := List.cons.inj hd
    unfold cl at e
    by_cases h1 : (l.getD i t0).kind = 1
    · rw [if_pos h1] at e
      exact bal_step l r (i + 1) _ _ hr2.symm (by omega) (bal_open h hi h1) _ _ e
    · rw [if_neg h1] at e
      by_cases h2 : (l.getD i t0).kind = 2
      · rw [if_pos h2] at e
        cases op with
        | nil => cases e
        | cons g op' => exact bal_step l r (i + 1) _ _ hr2.symm (by omega) (bal_close h hi h2) _ _ e
      · rw [if_neg h2] at e
        exact bal_step l r (i + 1) _ _ hr2.symm (by omega) (bal_atom h hi h1 h2) _ _ e
/-- What is known of the nodes of tokens that are read without an error. -/
theorem toks_nodes {l : List Tok} {ns : List N} (h : pr l [] [] = .inl (ns, [])) :
    ns.length = nb l l.length ∧ op1 l l.length = cl2 l l.length ∧
    (∀ j, j < l.length → (l.getD j t0).kind ≠ 2 → (l.getD j t0).kind ≠ 1 → ns.getD (nb l j) n0 = atom (l.getD j t0)) ∧
    (∀ j, j < l.length → (l.getD j t0).kind = 1 → ∃ c : Nat, j < c ∧ c < l.length ∧ (l.getD c t0).kind = 2 ∧ op1 l (c + 1) + cl2 l j = cl2 l (c + 1) + op1 l j ∧ ns.getD (nb l j) n0 = ⟨1, (l.getD j t0).beg, (l.getD c t0).fin, nb l (c + 1) - nb l j, []⟩) := by
  rcases in_step l l 0 [] [] [] [] rfl (inv_zero l) with ⟨ns', st', tz, op, e1, e2, hI⟩ | ⟨ns', b, tz, e1, e2, hb, hk, hI⟩
  · rw [h] at e1
    cases e1
    have hB := bal_step l l 0 [] [] rfl (Nat.zero_le _) (bal_zero l) _ _ e2
    obtain ⟨h1, h2, h3, h4, h5, h6, h7, h8, h9⟩ := hI
    have hop : op = [] := by
      cases op with
      | nil => rfl
      | cons a b => simp at h4
    subst hop
    obtain ⟨b1, b2, b3, b4⟩ := hB
    have nn : ∀ j, j < l.length → tz.getD j 0 ≠ -1 := fun j hj c => absurd (h7 j hj c) (by simp)
    refine ⟨h3, by simpa using b3, fun j hj k2 k1 => ?_, fun j hj k1 => ?_⟩
    · rw [h5 j hj k2 (nn j hj)]
      unfold nd
      rw [if_neg k1]
    · rcases b4 j hj k1 with q | ⟨c, q1, q2, q3, q4, q5⟩
      · cases q
      · refine ⟨c, q2, q3, q4, q5, ?_⟩
        rw [h5 j hj (by omega) (nn j hj)]
        unfold nd
        rw [if_pos k1, q1, Int.toNat_natCast]
  · rw [h] at e1
    cases e1
theorem stands_rise (res : List UInt8 → Bool) : ∀ (ts : List Tok) (l : List UInt8) (i e p : Nat), Stands res ts l i e p → (∀ t ∈ ts, i < t.fin) ∧ ts.Pairwise (fun a b => a.fin < b.fin)
  | [], l, i, e, p, h => ⟨fun t ht => by simp at ht, List.Pairwise.nil⟩
  | t :: ts, l, i, e, p, h => by
    obtain ⟨n, m, h1, h2, h3, h4, h5, h6, h7⟩ := h
    obtain ⟨q1, q2⟩ := stands_rise res ts _ _ e p h7
    refine ⟨fun x hx => ?_, List.pairwise_cons.2 ⟨fun x hx => ?_, q2⟩⟩
    · rcases List.mem_cons.1 hx with rfl | hx
      · omega
      · have := q1 x hx
        omega
    · have := q1 x hx
      omega
theorem rise_at {ts : List Tok} (h : ts.Pairwise (fun a b => a.fin < b.fin)) {j k : Nat} (hjk : j < k) (hk : k < ts.length) : (ts.getD j t0).fin < (ts.getD k t0).fin := by
  have := List.pairwise_iff_getElem.1 h j k (by omega) hk hjk
  rw [List.getD_eq_getElem?_getD, List.getElem?_eq_getElem (by omega : j < ts.length), List.getD_eq_getElem?_getD, List.getElem?_eq_getElem hk]
  exact this
/-- Which errors there are. -/
theorem out_told (l : List Tok) (e p : Nat) (he : e = 0 ∨ (10 ≤ e ∧ e ≤ 17)) : (out l e p).2.1 = 0 ∨ (10 ≤ (out l e p).2.1 ∧ (out l e p).2.1 ≤ 21 ∧ (20 ≤ (out l e p).2.1 ∨ ((out l e p).2.1 = e ∧ (out l e p).2.2 = p))) := by
  unfold out
  rcases pr l [] [] with ⟨ns, st⟩ | ⟨ns, b⟩
  · cases st with
    | nil =>
      show e = 0 ∨ _
      rcases he with he | he
      · exact .inl he
      · exact .inr ⟨he.1, by show e ≤ 21; omega, .inr ⟨rfl, rfl⟩⟩
    | cons g st =>
      show (if e = 0 then 21 else e) = 0 ∨ 10 ≤ (if e = 0 then 21 else e) ∧ (if e = 0 then 21 else e) ≤ 21 ∧ (20 ≤ (if e = 0 then 21 else e) ∨ (if e = 0 then 21 else e) = e ∧ (if e = 0 then _ else p) = p)
      by_cases c : e = 0
      · rw [if_pos c]
        exact .inr ⟨by omega, by omega, .inl (by omega)⟩
      · rw [if_neg c, if_neg c]
        exact .inr ⟨by omega, by omega, .inr ⟨rfl, rfl⟩⟩
  · exact .inr ⟨by show 10 ≤ 20; omega, by show 20 ≤ 21; omega, .inl (Nat.le_refl _)⟩
end Go.Proofs.YtackibimlpkcmaaDoor.X
