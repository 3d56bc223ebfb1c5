/- Laid together of: CutMath, JoinedMath, TokMath, PartMath. -/
import Derived.Test.YtjbalgjdcdmjjaaDoorSexpMath
/- ==== CutMath ==== -/
namespace Go.Proofs.YtjbalgjdcdmjjaaDoor.X
open Go.Proofs.YtjbalgjdcdmjjaaDoor.S
set_option linter.unusedVariables false
/-- An outermost expression: its first node counts all its nodes; what is no list is one node. -/
def Blk (b : List N) : Prop := b ≠ [] ∧ (b.headD n0).size = b.length ∧ ((b.headD n0).kind ≠ 1 → b.length = 1)
/-- The blocks that are closed, and the list that is open behind them. -/
def Jb (ns : List N) (st : List Nat) (bs : List (List N)) : Prop :=
  (∀ b ∈ bs, Blk b) ∧ bs.flatten.length ≤ ns.length ∧ ns.take bs.flatten.length = bs.flatten ∧ (st = [] → ns.length = bs.flatten.length) ∧
  (st ≠ [] → st.getLastD 0 = bs.flatten.length) ∧ st.Pairwise (· > ·) ∧ (∀ g ∈ st, g < ns.length ∧ (ns.getD g n0).kind = 1)
theorem last_mem : ∀ (st : List Nat), st ≠ [] → st.getLastD 0 ∈ st
  | [], h => absurd rfl h
  | [g], _ => by simp [-List.length_flatten]
  | g :: k :: st, _ => by
    have := last_mem (k :: st) (by simp [-List.length_flatten])
    simp only [List.getLastD_cons] at this ⊢
    exact List.mem_cons_of_mem _ this
theorem last_least {st : List Nat} (h : st.Pairwise (· > ·)) : ∀ g ∈ st, st.getLastD 0 ≤ g := by
  intro g hg
  rcases List.eq_nil_or_concat st with rfl | ⟨ini, k, rfl⟩
  · simp [-List.length_flatten] at hg
  · rw [List.concat_eq_append] at *
    have hk : (ini ++ [k]).getLastD 0 = k := by simp [-List.length_flatten]
    rw [hk]
    rcases List.mem_append.1 hg with hg | hg
    · have := (List.pairwise_append.1 h).2.2 g hg k (by simp [-List.length_flatten])
      omega
    · simp [-List.length_flatten] at hg
      omega
theorem getD_app {a b : List N} {j : Nat} (h : j < a.length) : (a ++ b).getD j n0 = a.getD j n0 := by
  rw [List.getD_eq_getElem?_getD, List.getD_eq_getElem?_getD, List.getElem?_append_left h]
theorem jb_open {ns : List N} {st : List Nat} {bs : List (List N)} (t : Tok) (h : Jb ns st bs) : Jb (ns ++ [newL t]) (ns.length :: st) bs := by
  obtain ⟨h1, h2, h3, h4, h5, h6, h7⟩ := h
  refine ⟨h1, by simp [-List.length_flatten]; omega, by rw [List.take_append_of_le_length h2, h3], by simp [-List.length_flatten], ?_, ?_, ?_⟩
  · intro _
    by_cases hs : st = []
    · subst hs
      simp [-List.length_flatten, h4 rfl]
    · rw [List.getLastD_cons]
      cases st with
      | nil => exact absurd rfl hs
      | cons a st =>
        rw [← h5 hs, List.getLastD_cons, List.getLastD_cons]
  · exact List.Pairwise.cons (fun j hj => (h7 j hj).1) h6
  · intro g hg
    rcases List.mem_cons.1 hg with rfl | hg
    · refine ⟨by simp [-List.length_flatten], ?_⟩
      rw [getD_new]
      rfl
    · obtain ⟨a, b⟩ := h7 g hg
      exact ⟨by simp [-List.length_flatten]; omega, by rw [getD_app a]; exact b⟩
theorem jb_atom {ns : List N} {st : List Nat} {bs : List (List N)} (t : Tok) (h : Jb ns st bs) (hk : t.kind ≠ 1) : ∃ new, Jb (ns ++ [atom t]) st (bs ++ new) ∧ ∀ b ∈ new, (b.headD n0).kind ≠ 1 := by
  obtain ⟨h1, h2, h3, h4, h5, h6, h7⟩ := h
  have h7' : ∀ g ∈ st, g < (ns ++ [atom t]).length ∧ ((ns ++ [atom t]).getD g n0).kind = 1 := by
    intro g hg
    obtain ⟨a, b⟩ := h7 g hg
    exact ⟨by simp [-List.length_flatten]; omega, by rw [getD_app a]; exact b⟩
  by_cases hs : st = []
  · subst hs
    have hl := h4 rfl
    have hns : ns = bs.flatten := by rw [← h3, ← hl, List.take_length]
    refine ⟨[[atom t]], ⟨?_, ?_, ?_, ?_, by simp [-List.length_flatten], h6, h7'⟩, ?_⟩
    · intro b hb
      rcases List.mem_append.1 hb with hb | hb
      · exact h1 b hb
      · simp [-List.length_flatten] at hb
        subst hb
        exact ⟨by simp [-List.length_flatten], by simp [-List.length_flatten, atom], by simp [-List.length_flatten]⟩
    · rw [← List.concat_eq_append, ← List.concat_eq_append]
      simp [-List.length_flatten, hl]
    · subst hns
      rw [show (bs ++ [[atom t]]).flatten = bs.flatten ++ [atom t] from by simp, List.take_length]
    · subst hns
      simp [-List.length_flatten]
    · intro b hb
      simp [-List.length_flatten] at hb
      subst hb
      simpa [-List.length_flatten, atom] using hk
  · refine ⟨[], ⟨by simpa [-List.length_flatten] using h1, by simp [-List.length_flatten]; omega, ?_, fun e => absurd e hs, by simpa [-List.length_flatten] using h5, h6, h7'⟩, by simp [-List.length_flatten]⟩
    rw [List.append_nil, List.take_append_of_le_length h2, h3]
theorem drop_shut {ns : List N} {g f : Nat} (h : g < ns.length) : (shutL ns g f).drop g = ⟨(ns.getD g n0).kind, (ns.getD g n0).beg, f, ns.length - g, (ns.getD g n0).text⟩ :: ns.drop (g + 1) := by
  unfold shutL
  rw [List.drop_set]
  simp only [Nat.lt_irrefl, if_false, Nat.sub_self]
  rw [List.drop_eq_getElem_cons h]
  rfl
theorem take_shut (ns : List N) (g f k : Nat) (h : k ≤ g) : (shutL ns g f).take k = ns.take k := by
  unfold shutL
  rw [List.take_set]
  exact List.set_eq_of_length_le (by rw [List.length_take]; omega)
theorem jb_close {ns : List N} {st : List Nat} {g : Nat} {bs : List (List N)} (f : Nat) (h : Jb ns (g :: st) bs) : ∃ new, Jb (shutL ns g f) st (bs ++ new) ∧ ∀ b ∈ new, (b.headD n0).fin = f := by
  obtain ⟨h1, h2, h3, h4, h5, h6, h7⟩ := h
  obtain ⟨g1, g2⟩ := h7 g List.mem_cons_self
  obtain ⟨p1, p2⟩ := List.pairwise_cons.1 h6
  have hlen : (shutL ns g f).length = ns.length := by simp [-List.length_flatten, shutL]
  have h7' : ∀ k ∈ st, k < (shutL ns g f).length ∧ ((shutL ns g f).getD k n0).kind = 1 := by
    intro k hk
    obtain ⟨a, b⟩ := h7 k (List.mem_cons_of_mem _ hk)
    have : k < g := p1 k hk
    exact ⟨by omega, by unfold shutL; rw [getD_set_ne _ _ _ (by omega)]; exact b⟩
  by_cases hs : st = []
  · subst hs
    have hg : g = bs.flatten.length := by
      have := h5 (by simp [-List.length_flatten])
      simpa [-List.length_flatten] using this
    have hd := drop_shut (ns := ns) (g := g) (f := f) g1
    refine ⟨[(shutL ns g f).drop g], ⟨?_, ?_, ?_, ?_, by simp [-List.length_flatten], p2, h7'⟩, ?_⟩
    · intro b hb
      rcases List.mem_append.1 hb with hb | hb
      · exact h1 b hb
      · simp only [List.mem_singleton] at hb
        subst hb
        rw [hd]
        refine ⟨by simp [-List.length_flatten], ?_, ?_⟩
        · simp [-List.length_flatten]
          omega
        · intro e
          exact absurd g2 e
    · simp [-List.length_flatten, hlen]
      omega
    · have e : (bs ++ [(shutL ns g f).drop g]).flatten = bs.flatten ++ (shutL ns g f).drop g := by simp [-List.length_flatten]
      rw [e]
      have e2 : (bs.flatten ++ (shutL ns g f).drop g).length = (shutL ns g f).length := by
        rw [List.length_append, List.length_drop]
        omega
      rw [e2, List.take_length]
      conv => lhs; rw [← List.take_append_drop g (shutL ns g f)]
      rw [take_shut ns g f g (Nat.le_refl _), hg, h3]
    · intro _
      simp [-List.length_flatten, hlen]
      omega
    · intro b hb
      simp only [List.mem_singleton] at hb
      subst hb
      rw [hd]
      rfl
  · refine ⟨[], ⟨by simpa [-List.length_flatten] using h1, by simp [-List.length_flatten, hlen]; omega, ?_, fun e => absurd e hs, ?_, p2, h7'⟩, by simp [-List.length_flatten]⟩
    · have hle : bs.flatten.length ≤ g := by
        have a := h5 (by simp [-List.length_flatten])
        have b := last_least h6 g List.mem_cons_self
        omega
      rw [List.append_nil, take_shut ns g f _ hle, h3]
    · intro _
      have a := h5 (by simp [-List.length_flatten])
      cases st with
      | nil => exact absurd rfl hs
      | cons k st =>
        rw [List.append_nil, ← a, List.getLastD_cons, List.getLastD_cons, List.getLastD_cons]
/-- What the rest closes: blocks that are no lists, or lists whose closing parenthesis is in the rest. -/
theorem pr_blocks (P : Nat → Prop) : ∀ (r : List Tok) (ns : List N) (st : List Nat) (bs : List (List N)), Jb ns st bs → (∀ t ∈ r, t.kind = 2 → P t.fin) →
    (∃ ns' st' new, pr r ns st = .inl (ns', st') ∧ Jb ns' st' (bs ++ new) ∧ ∀ b ∈ new, (b.headD n0).kind = 1 → P (b.headD n0).fin) ∨
    (∃ ns' p new, pr r ns st = .inr (ns', p) ∧ Jb ns' [] (bs ++ new) ∧ ∀ b ∈ new, (b.headD n0).kind = 1 → P (b.headD n0).fin)
  | [], ns, st, bs, h, _ => .inl ⟨ns, st, [], rfl, by simpa [-List.length_flatten] using h, by simp [-List.length_flatten]⟩
  | t :: r, ns, st, bs, h, hP => by
    have hP' : ∀ t ∈ r, t.kind = 2 → P t.fin := fun t ht => hP t (List.mem_cons_of_mem _ ht)
    have glue : ∀ (ns1 : List N) (st1 : List Nat) (n1 : List (List N)), Jb ns1 st1 (bs ++ n1) → (∀ b ∈ n1, (b.headD n0).kind = 1 → P (b.headD n0).fin) →
      (∃ ns' st' new, pr r ns1 st1 = .inl (ns', st') ∧ Jb ns' st' (bs ++ new) ∧ ∀ b ∈ new, (b.headD n0).kind = 1 → P (b.headD n0).fin) ∨
      (∃ ns' p new, pr r ns1 st1 = .inr (ns', p) ∧ Jb ns' [] (bs ++ new) ∧ ∀ b ∈ new, (b.headD n0).kind = 1 → P (b.headD n0).fin) := by
      intro ns1 st1 n1 hj hn
      have all : ∀ n2 : List (List N), (∀ b ∈ n2, (b.headD n0).kind = 1 → P (b.headD n0).fin) → ∀ b ∈ n1 ++ n2, (b.headD n0).kind = 1 → P (b.headD n0).fin := by
        intro n2 h2 b hb
        rcases List.mem_append.1 hb with hb | hb
        · exact hn b hb
        · exact h2 b hb
      rcases pr_blocks P r ns1 st1 (bs ++ n1) hj hP' with ⟨ns', st', n2, e, j, q⟩ | ⟨ns', p, n2, e, j, q⟩
      · exact .inl ⟨ns', st', n1 ++ n2, e, by rw [← List.append_assoc]; exact j, all n2 q⟩
      · exact .inr ⟨ns', p, n1 ++ n2, e, by rw [← List.append_assoc]; exact j, all n2 q⟩
    unfold pr
    by_cases h1 : t.kind = 1
    · rw [if_pos h1]
      exact glue _ _ [] (by simpa [-List.length_flatten] using jb_open t h) (by simp [-List.length_flatten])
    · rw [if_neg h1]
      by_cases h2 : t.kind = 2
      · rw [if_pos h2]
        cases st with
        | nil => exact .inr ⟨ns, t.beg, [], rfl, by simpa [-List.length_flatten] using h, by simp [-List.length_flatten]⟩
        | cons g st' =>
          obtain ⟨new, j, q⟩ := jb_close t.fin h
          refine glue _ _ new j ?_
          intro b hb _
          rw [q b hb]
          exact hP t List.mem_cons_self h2
      · rw [if_neg h2]
        obtain ⟨new, j, q⟩ := jb_atom t h h1
        exact glue _ _ new j (fun b hb e => absurd e (q b hb))
theorem jb_zero : Jb [] [] [] := ⟨by simp [-List.length_flatten], by simp [-List.length_flatten], by simp [-List.length_flatten], by simp [-List.length_flatten], by simp [-List.length_flatten], List.Pairwise.nil, by simp [-List.length_flatten]⟩
theorem pr_cons (t : Tok) (r : List Tok) (ns : List N) (st : List Nat) : pr (t :: r) ns st = if t.kind = 1 then pr r (ns ++ [newL t]) (ns.length :: st) else if t.kind = 2 then
      match st with
      | [] => .inr (ns, t.beg)
      | g :: st' => pr r (shutL ns g t.fin) st'
    else pr r (ns ++ [atom t]) st := rfl
theorem pr_append : ∀ (a b : List Tok) (ns : List N) (st : List Nat), pr (a ++ b) ns st = match pr a ns st with
    | .inl (ns', st') => pr b ns' st'
    | .inr x => .inr x
  | [], b, ns, st => rfl
  | t :: a, b, ns, st => by
    rw [List.cons_append, pr_cons, pr_cons]
    by_cases h1 : t.kind = 1
    · rw [if_pos h1, if_pos h1]
      exact pr_append a b _ _
    · rw [if_neg h1, if_neg h1]
      by_cases h2 : t.kind = 2
      · rw [if_pos h2, if_pos h2]
        cases st with
        | nil => rfl
        | cons g st' => exact pr_append a b _ _
      · rw [if_neg h2, if_neg h2]
        exact pr_append a b _ _
theorem pr_len : ∀ (r : List Tok) (ns : List N) (st : List Nat), (∀ ns' st', pr r ns st = .inl (ns', st') → ns'.length ≤ ns.length + r.length) ∧ ∀ ns' b, pr r ns st = .inr (ns', b) → ns'.length ≤ ns.length + r.length
  | [], ns, st => by
    refine ⟨fun ns' st' e => ?_, fun ns' b e => ?_⟩
    · unfold pr at e
      simp only [Sum.inl.injEq, Prod.mk.injEq] at e
      rw [e.1]
      simp
    · unfold pr at e
      simp at e
  | t :: r, ns, st => by
    have glue : ∀ (ns1 : List N) (st1 : List Nat), ns1.length ≤ ns.length + 1 → (∀ ns' st', pr r ns1 st1 = .inl (ns', st') → ns'.length ≤ ns.length + (t :: r).length) ∧ ∀ ns' b, pr r ns1 st1 = .inr (ns', b) → ns'.length ≤ ns.length + (t :: r).length := by
      intro ns1 st1 h
      obtain ⟨h1, h2⟩ := pr_len r ns1 st1
      refine ⟨fun ns' st' e => ?_, fun ns' b e => ?_⟩
      · have := h1 ns' st' e
        rw [List.length_cons]
        omega
      · have := h2 ns' b e
        rw [List.length_cons]
        omega
    rw [pr_cons]
    by_cases h1 : t.kind = 1
    · rw [if_pos h1]
      exact glue _ _ (by simp)
    · rw [if_neg h1]
      by_cases h2 : t.kind = 2
      · rw [if_pos h2]
        cases st with
        | nil =>
          refine ⟨fun ns' st' e => by simp at e, fun ns' b e => ?_⟩
          simp only [Sum.inr.injEq, Prod.mk.injEq] at e
          rw [← e.1]
          omega
        | cons g st' => exact glue _ _ (by simp [shutL])
      · rw [if_neg h2]
        exact glue _ _ (by simp)
theorem out_len (l : List Tok) (e p : Nat) : (out l e p).1.length ≤ l.length := by
  obtain ⟨h1, h2⟩ := pr_len l [] []
  rw [List.length_nil, Nat.zero_add] at h1 h2
  unfold out
  rcases hq : pr l [] [] with ⟨ns, st⟩ | ⟨ns, b⟩
  · have := h1 ns st hq
    cases st with
    | nil => exact this
    | cons g st =>
      simp only
      rw [List.length_take]
      omega
  · exact h2 ns b hq
theorem out_inl {l : List Tok} {ns : List N} {st : List Nat} {bs : List (List N)} (e p : Nat) (h : pr l [] [] = .inl (ns, st)) (hj : Jb ns st bs) : (out l e p).1 = bs.flatten := by
  obtain ⟨h1, h2, h3, h4, h5, h6, h7⟩ := hj
  unfold out
  rw [h]
  cases st with
  | nil =>
    simp only
    rw [← h3, ← h4 rfl, List.take_length]
  | cons g st =>
    simp only
    rw [h5 (by simp [-List.length_flatten]), h3]
theorem out_inr {l : List Tok} {ns : List N} {b : Nat} {bs : List (List N)} (e p : Nat) (h : pr l [] [] = .inr (ns, b)) (hj : Jb ns [] bs) : (out l e p).1 = bs.flatten := by
  obtain ⟨h1, h2, h3, h4, h5, h6, h7⟩ := hj
  unfold out
  rw [h]
  simp only
  rw [← h3, ← h4 rfl, List.take_length]
/-- Behind the last list. -/
def endOf : List (List N) → Nat → Nat → Nat
  | [], _, e => e
  | b :: bs, i, e => endOf bs (i + b.length) (if (b.headD n0).kind = 1 then i + b.length else e)
theorem endOf_atoms : ∀ (bs : List (List N)) (i e : Nat), (∀ b ∈ bs, (b.headD n0).kind ≠ 1) → endOf bs i e = e
  | [], i, e, _ => rfl
  | b :: bs, i, e, h => by
    unfold endOf
    rw [if_neg (h b List.mem_cons_self)]
    exact endOf_atoms bs _ _ (fun b hb => h b (List.mem_cons_of_mem _ hb))
theorem endOf_cons (b : List N) (bs : List (List N)) (i e : Nat) : endOf (b :: bs) i e = endOf bs (i + b.length) (if (b.headD n0).kind = 1 then i + b.length else e) := rfl
theorem flat_cons (b : List N) (bs : List (List N)) : (b :: bs).flatten.length = b.length + bs.flatten.length := by rw [List.flatten_cons, List.length_append]
theorem endOf_append : ∀ (a b : List (List N)) (i e : Nat), endOf (a ++ b) i e = endOf b (i + a.flatten.length) (endOf a i e)
  | [], b, i, e => by rw [List.nil_append, List.flatten_nil]; rfl
  | x :: a, b, i, e => by
    rw [List.cons_append, endOf_cons, endOf_append a b, flat_cons, endOf_cons, Nat.add_assoc]
theorem endOf_le : ∀ (a : List (List N)) (i e : Nat), e ≤ i → endOf a i e ≤ i + a.flatten.length
  | [], i, e, h => by simpa [endOf] using h
  | x :: a, i, e, h => by
    have := endOf_le a (i + x.length) (if (x.headD n0).kind = 1 then i + x.length else e) (by split <;> omega)
    rw [endOf_cons, flat_cons]
    omega
theorem endOf_ge : ∀ (a : List (List N)) (i e : Nat), e ≤ i → e ≤ endOf a i e
  | [], i, e, h => Nat.le_refl _
  | x :: a, i, e, h => by
    have := endOf_ge a (i + x.length) (if (x.headD n0).kind = 1 then i + x.length else e) (by split <;> omega)
    rw [endOf_cons]
    by_cases h' : (x.headD n0).kind = 1
    · rw [if_pos h'] at this ⊢
      omega
    · rw [if_neg h'] at this ⊢
      exact this
/-- A list among blocks ends ahead of the end of the last one. -/
theorem endOf_list : ∀ (a b : List (List N)) (x : List N) (i e : Nat), e ≤ i → (x.headD n0).kind = 1 → i + a.flatten.length + x.length ≤ endOf (a ++ x :: b) i e
  | [], b, x, i, e, h, hk => by
    rw [List.nil_append, endOf_cons, if_pos hk]
    have := endOf_ge b (i + x.length) (i + x.length) (Nat.le_refl _)
    rw [List.flatten_nil, List.length_nil]
    omega
  | y :: a, b, x, i, e, h, hk => by
    have := endOf_list a b x (i + y.length) (if (y.headD n0).kind = 1 then i + y.length else e) (by split <;> omega) hk
    rw [List.cons_append, endOf_cons, flat_cons]
    omega
/-- The front of a text and the whole: blocks that both have, then atoms alone in the front, and in the whole lists that end behind the cut. -/
theorem cut_blocks (res : List UInt8 → Bool) (s : List UInt8) (n : Nat) (hn : n ≤ s.length) (e p e' p' : Nat) :
    ∃ bs f a : List (List N), (∀ b ∈ bs ++ f, Blk b) ∧ (∀ b ∈ bs ++ a, Blk b) ∧ (out (run res .idle (s.take n) 0).1 e' p').1 = (bs ++ f).flatten ∧ (out (run res .idle s 0).1 e p).1 = (bs ++ a).flatten ∧
      (∀ b ∈ f, (b.headD n0).kind ≠ 1) ∧ (∀ b ∈ a, (b.headD n0).kind = 1 → n < (b.headD n0).fin) := by
  obtain ⟨R, h1, h2, h3⟩ := feed_certain res s n hn
  obtain ⟨S, k1, k2⟩ : ∃ S, (run res .idle (s.take n) 0).1 = (feed res .idle (s.take n) 0).1 ++ S ∧ ∀ t ∈ S, t.kind ≠ 1 ∧ t.kind ≠ 2 := by
    have ha := run_append res [] (s.take n) .idle 0
    rw [List.append_nil] at ha
    obtain ⟨g1, g2⟩ := feed_fits res s (s.take n) (s.drop n) .idle 0 (by simp [-List.length_flatten]) trivial
    rcases hq : (feed res .idle (s.take n) 0).2 with q' | ⟨e, p⟩
    · rw [hq] at ha
      simp only at ha
      refine ⟨(stop res q' (0 + (s.take n).length)).1, by rw [ha]; rfl, ?_⟩
      intro t ht
      have := (stop_fits res s q' _ (g2 q' hq) t ht).2
      exact ⟨fun e => this (.inl e), fun e => this (.inr (.inl e))⟩
    · rw [hq] at ha
      exact ⟨[], by rw [ha, List.append_nil], by simp [-List.length_flatten]⟩
  have hR : ∀ t ∈ R, t.kind = 2 → n < t.fin := by
    intro t ht hk
    rcases h3 t ht with h | h
    · exact h
    · exact absurd (.inr (.inl hk)) h.2
  rw [h1, k1]
  generalize (feed res .idle (s.take n) 0).1 = C at *
  rcases pr_blocks (fun _ => True) C [] [] [] jb_zero (fun _ _ _ => trivial) with ⟨ns, st, bs, e1, j, _⟩ | ⟨ns, q, bs, e1, j, _⟩
  · rw [List.nil_append] at j
    have hf : ∃ f, (∀ b ∈ bs ++ f, Blk b) ∧ (out (C ++ S) e' p').1 = (bs ++ f).flatten ∧ ∀ b ∈ f, (b.headD n0).kind ≠ 1 := by
      have ea := pr_append C S [] []
      rw [e1] at ea
      simp only at ea
      rcases pr_blocks (fun _ => False) S ns st bs j (fun t ht e => absurd e (k2 t ht).2) with ⟨ns', st', f, e2, j2, q2⟩ | ⟨ns', q, f, e2, j2, q2⟩
      · rw [e2] at ea
        exact ⟨f, j2.1, out_inl e' p' ea j2, q2⟩
      · rw [e2] at ea
        exact ⟨f, j2.1, out_inr e' p' ea j2, q2⟩
    have hA : ∃ a, (∀ b ∈ bs ++ a, Blk b) ∧ (out (C ++ R) e p).1 = (bs ++ a).flatten ∧ ∀ b ∈ a, (b.headD n0).kind = 1 → n < (b.headD n0).fin := by
      have ea := pr_append C R [] []
      rw [e1] at ea
      simp only at ea
      rcases pr_blocks (fun z => n < z) R ns st bs j hR with ⟨ns', st', f, e2, j2, q2⟩ | ⟨ns', q, f, e2, j2, q2⟩
      · rw [e2] at ea
        exact ⟨f, j2.1, out_inl e p ea j2, q2⟩
      · rw [e2] at ea
        exact ⟨f, j2.1, out_inr e p ea j2, q2⟩
    obtain ⟨f, f1, f2, f3⟩ := hf
    obtain ⟨a, a1, a2, a3⟩ := hA
    exact ⟨bs, f, a, f1, a1, f2, a2, f3, a3⟩
  · rw [List.nil_append] at j
    have e3 : ∀ x, pr (C ++ x) [] [] = .inr (ns, q) := by
      intro x
      rw [pr_append C x [] [], e1]
    exact ⟨bs, [], [], by simpa [-List.length_flatten] using j.1, by simpa [-List.length_flatten] using j.1, by simpa [-List.length_flatten] using out_inr e' p' (e3 S) j, by simpa [-List.length_flatten] using out_inr e p (e3 R) j, by simp [-List.length_flatten], by simp [-List.length_flatten]⟩
/-- Where a block begins. -/
theorem starts {bs : List (List N)} {k : Nat} (hk : k < bs.length) (hB : ∀ b ∈ bs, Blk b) :
    (bs.take k).flatten.length < bs.flatten.length ∧ bs.flatten.getD (bs.take k).flatten.length n0 = (bs.getD k []).headD n0 ∧ ((bs.getD k []).headD n0).size = (bs.getD k []).length ∧ 0 < (bs.getD k []).length ∧ (bs.take (k + 1)).flatten.length = (bs.take k).flatten.length + (bs.getD k []).length ∧ (bs.take (k + 1)).flatten.length ≤ bs.flatten.length := by
  obtain ⟨x, hx⟩ : ∃ x, bs[k] = x := ⟨_, rfl⟩
  have hb := hB _ (List.getElem_mem hk)
  rw [hx] at hb
  have hg : bs.getD k [] = x := by rw [List.getD_eq_getElem?_getD, List.getElem?_eq_getElem hk, hx]; rfl
  have e : bs.flatten = (bs.take k).flatten ++ (x ++ (bs.drop (k + 1)).flatten) := by
    conv => lhs; rw [← List.take_append_drop k bs, List.drop_eq_getElem_cons hk, hx]
    simp [-List.length_flatten]
  have e1 : (bs.take (k + 1)).flatten.length = (bs.take k).flatten.length + x.length := by
    rw [List.take_succ_eq_append_getElem hk, hx]
    simp [-List.length_flatten]
  have hp : 0 < x.length := List.length_pos_iff.2 hb.1
  rw [hg]
  have el := congrArg List.length e
  rw [List.length_append, List.length_append] at el
  refine ⟨by omega, ?_, hb.2.1, hp, e1, by omega⟩
  conv => lhs; arg 1; rw [e]
  rw [List.getD_eq_getElem?_getD, List.getElem?_append_right (Nat.le_refl _), Nat.sub_self]
  cases x with
  | nil => exact absurd rfl hb.1
  | cons y ys => rfl
theorem endOf_take {bs : List (List N)} {k : Nat} (hk : k < bs.length) : endOf (bs.take (k + 1)) 0 0 = if ((bs.getD k []).headD n0).kind = 1 then (bs.take k).flatten.length + (bs.getD k []).length else endOf (bs.take k) 0 0 := by
  have hg : bs.getD k [] = bs[k] := by rw [List.getD_eq_getElem?_getD, List.getElem?_eq_getElem hk]; rfl
  rw [List.take_succ_eq_append_getElem hk, endOf_append, hg]
  rw [endOf_cons, Nat.zero_add]
  rfl
/-- What TopCut looks at behind the end: no list that stands outermost ends within the front. -/
theorem cut_behind {bs a : List (List N)} {n k : Nat} (hA : ∀ b ∈ a, (b.headD n0).kind = 1 → n < (b.headD n0).fin) (hk : k < (bs ++ a).length)
    (he : endOf bs 0 0 ≤ ((bs ++ a).take k).flatten.length) (h1 : (((bs ++ a).getD k []).headD n0).kind = 1) (hB : ∀ b ∈ bs ++ a, Blk b) : n < (((bs ++ a).getD k []).headD n0).fin := by
  have hg : (bs ++ a).getD k [] = (bs ++ a)[k] := by rw [List.getD_eq_getElem?_getD, List.getElem?_eq_getElem hk]; rfl
  rw [hg] at h1 ⊢
  by_cases hkb : k < bs.length
  · exfalso
    have hx : (bs ++ a)[k] = bs[k] := List.getElem_append_left hkb
    rw [hx] at h1
    have h2 := endOf_list (bs.take k) (bs.drop (k + 1)) bs[k] 0 0 (Nat.le_refl _) h1
    rw [← List.drop_eq_getElem_cons hkb, List.take_append_drop] at h2
    rw [List.take_append_of_le_length (by omega)] at he
    have := hB bs[k] (List.mem_append_left _ (List.getElem_mem hkb))
    have := List.length_pos_iff.2 this.1
    omega
  · have hx : (bs ++ a)[k] = a[k - bs.length]'(by rw [List.length_append] at hk; omega) := List.getElem_append_right (by omega)
    rw [hx] at h1 ⊢
    exact hA _ (List.getElem_mem _) h1
end Go.Proofs.YtjbalgjdcdmjjaaDoor.X
/- ==== JoinedMath ==== -/
namespace Go.Proofs.YtjbalgjdcdmjjaaDoor.S
set_option linter.unusedVariables false
section
variable (res : List UInt8 → Bool)
def Res.ten : Res → Prop
  | .inl _ => True
  | .inr (_, e, _) => 10 ≤ e ∧ e ≤ 17
theorem ten_pre (ts : List Tok) (r : Res) (h : r.ten) : (r.pre ts).ten := by
  rcases r with ⟨a, q⟩ | ⟨a, e, p⟩
  · trivial
  · exact h
theorem stepIdle_ten (b : UInt8) (i : Nat) : (stepIdle b i).ten := by
  unfold stepIdle
  repeat' split
  all_goals simp [Res.ten]
theorem behindNumber_ten (k g : Nat) (a : List UInt8) (b : UInt8) (i : Nat) : (behindNumber res k g a b i).ten := by
  unfold behindNumber
  split
  · simp [Res.ten]
  · exact ten_pre _ _ (stepIdle_ten b i)
theorem stepZero_ten (g : Nat) (a : List UInt8) (b : UInt8) (i : Nat) : (stepZero res g a b i).ten := by
  unfold stepZero
  split
  · trivial
  · exact behindNumber_ten res _ _ _ _ _
theorem content_ten (c : Cont) (b : UInt8) (i : Nat) : (content c b i).ten := by
  unfold content
  repeat' split
  all_goals simp [Res.ten]
theorem step_ten (q : St) (b : UInt8) (i : Nat) : (step res q b i).ten := by
  rcases q with _ | ⟨k, g, a⟩ | g | ⟨g, a⟩ | ⟨g, a⟩ | g | ⟨k, m, g, a⟩ | ⟨k, m, g, a⟩ | ⟨g, a⟩ | c | ⟨c, s, n, lo, hi⟩
  · exact stepIdle_ten b i
  · show Res.ten (if _ then _ else _)
    split
    · trivial
    · exact ten_pre _ _ (stepIdle_ten b i)
  · show Res.ten (if _ then _ else _)
    split <;> simp [Res.ten]
  · show Res.ten (if _ then _ else _)
    split
    · trivial
    · exact stepZero_ten res _ _ _ _
  · exact stepZero_ten res _ _ _ _
  · show Res.ten (if _ then _ else if _ then _ else _)
    repeat' split
    all_goals simp [Res.ten]
  · show Res.ten (if _ then _ else _)
    split <;> simp [Res.ten]
  · show Res.ten (if _ then _ else _)
    split
    · trivial
    · exact behindNumber_ten res _ _ _ _ _
  · show Res.ten (if _ then _ else _)
    split
    · trivial
    · exact ten_pre _ _ (stepIdle_ten b i)
  · rcases c with _ | ⟨g, a⟩ | ⟨g, a⟩
    · show Res.ten (if _ then _ else _)
      split
      · trivial
      · exact content_ten _ _ _
    · show Res.ten (if _ then _ else _)
      split
      · trivial
      · exact content_ten _ _ _
    · show Res.ten (if _ then _ else if _ then _ else _)
      repeat' split
      · trivial
      · simp [Res.ten]
      · exact content_ten _ _ _
  · show Res.ten (if _ then _ else if _ then _ else _)
    repeat' split
    all_goals simp [Res.ten]
theorem stop_ten (q : St) (i : Nat) : (stop res q i).2.1 = 0 ∨ (10 ≤ (stop res q i).2.1 ∧ (stop res q i).2.1 ≤ 17) := by
  rcases q with _ | ⟨k, g, a⟩ | g | ⟨g, a⟩ | ⟨g, a⟩ | g | ⟨k, m, g, a⟩ | ⟨k, m, g, a⟩ | ⟨g, a⟩ | (_ | ⟨g, a⟩ | ⟨g, a⟩) | ⟨c, s, k, lo, hi⟩ <;> first | exact .inl rfl | (right; simp [stop])
theorem run_ten : ∀ (l : List UInt8) (q : St) (i : Nat), (run res q l i).2.1 = 0 ∨ (10 ≤ (run res q l i).2.1 ∧ (run res q l i).2.1 ≤ 17)
  | [], q, i => stop_ten res q i
  | b :: t, q, i => by
    have hg := step_ten res q b i
    rcases hs : step res q b i with ⟨ts, q'⟩ | ⟨ts, e, p⟩
    · rw [run_go res hs]
      exact run_ten t q' (i + 1)
    · rw [run_err res hs]
      rw [hs] at hg
      exact .inr hg
theorem stop_nil (q : St) (i : Nat) (h : (stop res q i).2.1 ≠ 0) : (stop res q i).1 = [] := by
  rcases q with _ | ⟨k, g, a⟩ | g | ⟨g, a⟩ | ⟨g, a⟩ | g | ⟨k, m, g, a⟩ | ⟨k, m, g, a⟩ | ⟨g, a⟩ | (_ | ⟨g, a⟩ | ⟨g, a⟩) | ⟨c, s, k, lo, hi⟩ <;> first | rfl | exact absurd rfl h
/-- The tokens ahead of an error are told, whatever comes behind. -/
theorem run_pref (x : List UInt8) : ∀ (l : List UInt8) (q : St) (i : Nat), (run res q l i).2.1 ≠ 0 → ∃ r, (run res q (l ++ x) i).1 = (run res q l i).1 ++ r
  | [], q, i, h => ⟨_, by rw [show (run res q [] i).1 = [] from stop_nil res q i h]; rfl⟩
  | b :: t, q, i, h => by
    rcases hs : step res q b i with ⟨ts, q'⟩ | ⟨ts, e, p⟩
    · rw [run_go res hs] at h
      obtain ⟨r, hr⟩ := run_pref x t q' (i + 1) h
      refine ⟨r, ?_⟩
      rw [List.cons_append, run_go res hs, run_go res hs]
      show ts ++ _ = ts ++ _ ++ r
      rw [hr, List.append_assoc]
    · refine ⟨[], ?_⟩
      rw [List.cons_append, run_err res hs, run_err res hs, List.append_nil]
end
end Go.Proofs.YtjbalgjdcdmjjaaDoor.S
namespace Go.Proofs.YtjbalgjdcdmjjaaDoor.X
open Go.Proofs.YtjbalgjdcdmjjaaDoor.S
set_option linter.unusedVariables false
/-- A node's places moved by d; a list that is not closed has no end yet. -/
def mvN (d : Nat) (n : N) : N := ⟨n.kind, n.beg + d, n.fin + d, n.size, n.text⟩
def swN (d : Nat) (n : N) : N := if n.size = 0 then ⟨n.kind, n.beg + d, n.fin, n.size, n.text⟩ else mvN d n
theorem swN_beg (d : Nat) (n : N) : (swN d n).beg = n.beg + d := by unfold swN; split <;> rfl
theorem swN_kind (d : Nat) (n : N) : (swN d n).kind = n.kind := by unfold swN; split <;> rfl
theorem swN_text (d : Nat) (n : N) : (swN d n).text = n.text := by unfold swN; split <;> rfl
theorem map_getD {α : Type} (f : α → α) (l : List α) (j : Nat) (x : α) (h : j < l.length) : (l.map f).getD j x = f (l.getD j x) := by
  rw [List.getD_eq_getElem?_getD, List.getD_eq_getElem?_getD, List.getElem?_map, List.getElem?_eq_getElem h]
  rfl
theorem getD_right {α : Type} (a b : List α) (j : Nat) (x : α) : (a ++ b).getD (a.length + j) x = b.getD j x := by
  rw [List.getD_eq_getElem?_getD, List.getD_eq_getElem?_getD, List.getElem?_append_right (by omega), Nat.add_sub_cancel_left]
/-- The machine behind closed nodes f, its tokens moved by d. -/
theorem pr_move (f : List N) (d : Nat) : ∀ (r : List Tok) (ns : List N) (st : List Nat), (∀ g ∈ st, g < ns.length) →
    pr (r.map (shT d)) (f ++ ns.map (swN d)) (st.map (f.length + ·)) = match pr r ns st with
      | .inl (ns', st') => .inl (f ++ ns'.map (swN d), st'.map (f.length + ·))
      | .inr (ns', b) => .inr (f ++ ns'.map (swN d), b + d)
  | [], ns, st, h => rfl
  | t :: r, ns, st, h => by
    rw [List.map_cons, pr_cons, pr_cons]
    have hk : (shT d t).kind = t.kind := rfl
    rw [hk]
    by_cases h1 : t.kind = 1
    · rw [if_pos h1, if_pos h1]
      have := pr_move f d r (ns ++ [newL t]) (ns.length :: st) (by
        intro g hg
        rw [List.length_append, List.length_cons, List.length_nil]
        rcases List.mem_cons.1 hg with rfl | hg
        · omega
        · have := h g hg; omega)
      rw [← this]
      congr 1
      · rw [List.map_append, ← List.append_assoc]
        rfl
      · rw [List.map_cons, List.length_append, List.length_map]
    · rw [if_neg h1, if_neg h1]
      by_cases h2 : t.kind = 2
      · rw [if_pos h2, if_pos h2]
        cases st with
        | nil => rfl
        | cons g st' =>
          have hg := h g List.mem_cons_self
          have := pr_move f d r (shutL ns g t.fin) st' (by
            intro k hk
            unfold shutL
            rw [List.length_set]
            exact h k (List.mem_cons_of_mem _ hk))
          rw [List.map_cons]
          show pr _ (shutL (f ++ ns.map (swN d)) (f.length + g) (t.fin + d)) _ = _
          rw [← this]
          congr 1
          unfold shutL
          rw [getD_right, map_getD _ _ _ _ hg, List.set_append_right _ _ (by omega), Nat.add_sub_cancel_left, List.length_append, List.length_map, List.map_set]
          congr 2
          rw [swN_kind, swN_beg, swN_text, show f.length + ns.length - (f.length + g) = ns.length - g by omega]
          unfold swN
          rw [if_neg (by simp only; omega)]
          rfl
      · rw [if_neg h2, if_neg h2]
        have := pr_move f d r (ns ++ [atom t]) st (by intro g hg; rw [List.length_append]; have := h g hg; omega)
        rw [← this]
        congr 1
        rw [List.map_append, ← List.append_assoc]
        rfl
/-- Only lists that are open have no size. -/
def Shut (ns : List N) (st : List Nat) : Prop := ∀ j, j < ns.length → (ns.getD j n0).size = 0 → j ∈ st
theorem pr_shut : ∀ (r : List Tok) (ns : List N) (st : List Nat), (∀ g ∈ st, g < ns.length) → Shut ns st →
    (∀ ns' st', pr r ns st = .inl (ns', st') → Shut ns' st') ∧ ∀ ns' b, pr r ns st = .inr (ns', b) → Shut ns' []
  | [], ns, st, hg, h => ⟨fun ns' st' e => (by cases e; exact h), fun ns' b e => (by cases e)⟩
  | t :: r, ns, st, hg, h => by
    rw [pr_cons]
    by_cases h1 : t.kind = 1
    · rw [if_pos h1]
      refine pr_shut r _ _ (fun g hg' => ?_) (fun j hj hz => ?_)
      · rw [List.length_append, List.length_cons, List.length_nil]
        rcases List.mem_cons.1 hg' with rfl | hg'
        · omega
        · have := hg g hg'; omega
      · rw [List.length_append, List.length_cons, List.length_nil] at hj
        by_cases e : j = ns.length
        · subst e; exact List.mem_cons_self
        · rw [getD_old _ _ _ (by omega)] at hz
          exact List.mem_cons_of_mem _ (h j (by omega) hz)
    · rw [if_neg h1]
      by_cases h2 : t.kind = 2
      · rw [if_pos h2]
        cases st with
        | nil => exact ⟨fun ns' st' e => (by cases e), fun ns' b e => (by cases e; exact h)⟩
        | cons g st' =>
          have hgl := hg g List.mem_cons_self
          refine pr_shut r _ _ (fun k hk => ?_) (fun j hj hz => ?_)
          · unfold shutL
            rw [List.length_set]
            exact hg k (List.mem_cons_of_mem _ hk)
          · unfold shutL at hj hz
            rw [List.length_set] at hj
            by_cases e : g = j
            · subst e
              rw [getD_set _ _ _ hgl] at hz
              simp only at hz
              omega
            · rw [getD_set_ne _ _ _ e] at hz
              rcases List.mem_cons.1 (h j hj hz) with rfl | hm
              · exact absurd rfl e
              · exact hm
      · rw [if_neg h2]
        refine pr_shut r _ _ (fun g hg' => ?_) (fun j hj hz => ?_)
        · rw [List.length_append]
          have := hg g hg'; omega
        · rw [List.length_append, List.length_cons, List.length_nil] at hj
          by_cases e : j = ns.length
          · subst e
            rw [getD_new] at hz
            cases hz
          · rw [getD_old _ _ _ (by omega)] at hz
            exact h j (by omega) hz
theorem map_sw {d : Nat} {ns : List N} (h : ∀ j, j < ns.length → (ns.getD j n0).size ≠ 0) : ns.map (swN d) = ns.map (mvN d) := by
  apply List.map_congr_left
  intro x hx
  obtain ⟨j, hj, rfl⟩ := List.mem_iff_getElem.1 hx
  have := h j hj
  rw [List.getD_eq_getElem?_getD, List.getElem?_eq_getElem hj] at this
  have this : ns[j].size ≠ 0 := this
  unfold swN
  rw [if_neg this]
theorem last_map (c : Nat) : ∀ (st : List Nat) (x : Nat), (st.map (c + ·)).getLastD (c + x) = c + st.getLastD x
  | [], x => rfl
  | a :: st, x => by
    rw [List.map_cons, List.getLastD_cons, List.getLastD_cons]
    exact last_map c st a
/-- What is told has no list that is open. -/
theorem out_shut (l : List Tok) (e p : Nat) : ∀ j, j < (out l e p).1.length → ((out l e p).1.getD j n0).size ≠ 0 := by
  have hs := pr_shut l [] [] (by simp) (by intro j hj; simp at hj)
  have hb := pr_blocks (fun _ => True) l [] [] [] jb_zero (fun _ _ _ => trivial)
  unfold out
  rcases hp : pr l [] [] with ⟨ns, st⟩ | ⟨ns, b⟩
  · have h1 := hs.1 ns st hp
    cases st with
    | nil => intro j hj hz; exact absurd (h1 j hj hz) (by simp)
    | cons g st =>
      intro j hj hz
      simp only at hj hz
      rw [List.length_take] at hj
      rw [List.getD_eq_getElem?_getD, List.getElem?_take_of_lt (by omega), ← List.getD_eq_getElem?_getD] at hz
      have hm := h1 j (by omega) hz
      rcases hb with ⟨ns', st', new, e1, hj', _⟩ | ⟨ns', p', new, e1, hj', _⟩
      · rw [hp] at e1
        cases e1
        have := last_least hj'.2.2.2.2.2.1 j hm
        omega
      · rw [hp] at e1
        cases e1
  · intro j hj hz
    exact absurd (hs.2 ns b hp j hj hz) (by simp)
/-- Two texts, a line's end between. -/
theorem out_joined (ta tb : List Tok) (eb pb d : Nat) (f : List N) (hf : pr ta [] [] = .inl (f, [])) (hp : eb = 0 → pb = 0) :
    out (ta ++ tb.map (shT d)) eb (if eb = 0 then pb else pb + d) =
      (f ++ (out tb eb pb).1.map (mvN d), (out tb eb pb).2.1, if (out tb eb pb).2.1 = 0 then 0 else (out tb eb pb).2.2 + d) := by
  have hm := pr_move f d tb [] [] (by simp)
  have hsh := out_shut tb eb pb
  have hblk := pr_blocks (fun _ => True) tb [] [] [] jb_zero (fun _ _ _ => trivial)
  have hap := pr_append ta (tb.map (shT d)) [] []
  rw [hf] at hap
  simp only at hap
  simp only [List.map_nil, List.append_nil] at hm
  rw [hm] at hap
  rw [← map_sw hsh]
  unfold out at hsh ⊢
  rw [hap]
  rcases hq : pr tb [] [] with ⟨ns, st⟩ | ⟨ns, b⟩
  · cases st with
    | nil =>
      simp only [List.map_nil]
      by_cases he : eb = 0
      · rw [if_pos he, if_pos he, hp he]
      · rw [if_neg he, if_neg he]
    | cons g st =>
      have hlt : (g :: st).getLastD 0 < ns.length := by
        rcases hblk with ⟨ns', st', new, e1, hj', _⟩ | ⟨ns', p', new, e1, hj', _⟩
        · rw [hq] at e1
          cases e1
          exact (hj'.2.2.2.2.2.2 _ (last_mem (g :: st) (by simp))).1
        · rw [hq] at e1
          cases e1
      have hl : ((g :: st).map (f.length + ·)).getLastD 0 = f.length + (g :: st).getLastD 0 := by
        rw [List.map_cons, List.getLastD_cons, List.getLastD_cons]
        exact last_map f.length st g
      simp only [List.map_cons] at hl ⊢
      rw [hl, List.take_append, List.take_of_length_le (show f.length ≤ _ by omega), Nat.add_sub_cancel_left, List.map_take, getD_right, map_getD _ _ _ _ hlt, swN_beg]
      by_cases he : eb = 0
      · rw [if_pos he, if_pos he, if_pos he]
        rfl
      · simp only [if_neg he]
  · rfl
/-- Its places are at most M. -/
def Bd (M : Nat) (n : N) : Prop := n.beg ≤ M ∧ n.fin ≤ M
theorem getD_bd {M : Nat} {ns : List N} (h : ∀ n ∈ ns, Bd M n) (g : Nat) : Bd M (ns.getD g n0) := by
  rw [List.getD_eq_getElem?_getD]
  cases e : ns[g]? with
  | none => exact ⟨Nat.zero_le _, Nat.zero_le _⟩
  | some x => exact h x (List.mem_of_getElem? e)
theorem pr_bd (M : Nat) : ∀ (r : List Tok) (ns : List N) (st : List Nat), (∀ t ∈ r, t.beg ≤ M ∧ t.fin ≤ M) → (∀ n ∈ ns, Bd M n) →
    (∀ ns' st', pr r ns st = .inl (ns', st') → ∀ n ∈ ns', Bd M n) ∧ ∀ ns' b, pr r ns st = .inr (ns', b) → (∀ n ∈ ns', Bd M n) ∧ b ≤ M
  | [], ns, st, ht, h => ⟨fun ns' st' e => (by cases e; exact h), fun ns' b e => (by cases e)⟩
  | t :: r, ns, st, ht, h => by
    have h0 := ht t List.mem_cons_self
    have hr : ∀ t ∈ r, t.beg ≤ M ∧ t.fin ≤ M := fun x hx => ht x (List.mem_cons_of_mem _ hx)
    rw [pr_cons]
    by_cases h1 : t.kind = 1
    · rw [if_pos h1]
      refine pr_bd M r _ _ hr (fun n hn => ?_)
      rcases List.mem_append.1 hn with hn | hn
      · exact h n hn
      · rw [List.mem_singleton.1 hn]; exact ⟨h0.1, Nat.zero_le _⟩
    · rw [if_neg h1]
      by_cases h2 : t.kind = 2
      · rw [if_pos h2]
        cases st with
        | nil => exact ⟨fun ns' st' e => (by cases e), fun ns' b e => (by cases e; exact ⟨h, h0.1⟩)⟩
        | cons g st' =>
          refine pr_bd M r _ _ hr (fun n hn => ?_)
          unfold shutL at hn
          rcases List.mem_or_eq_of_mem_set hn with hn | rfl
          · exact h n hn
          · exact ⟨(getD_bd h g).1, h0.2⟩
      · rw [if_neg h2]
        refine pr_bd M r _ _ hr (fun n hn => ?_)
        rcases List.mem_append.1 hn with hn | hn
        · exact h n hn
        · rw [List.mem_singleton.1 hn]; exact h0
theorem out_bd (M : Nat) (l : List Tok) (e p : Nat) (ht : ∀ t ∈ l, t.beg ≤ M ∧ t.fin ≤ M) (hp : p ≤ M) : (∀ n ∈ (out l e p).1, Bd M n) ∧ (out l e p).2.2 ≤ M := by
  have hb := pr_bd M l [] [] ht (by simp)
  unfold out
  rcases hq : pr l [] [] with ⟨ns, st⟩ | ⟨ns, b⟩
  · have h1 := hb.1 ns st hq
    cases st with
    | nil => exact ⟨h1, hp⟩
    | cons g st =>
      refine ⟨fun n hn => h1 n (List.mem_of_mem_take hn), ?_⟩
      simp only
      split
      · exact (getD_bd h1 _).1
      · exact hp
  · exact hb.2 ns b hq
/-- The error of a reading. -/
theorem out_err (l : List Tok) (e p : Nat) (he : e = 0 ∨ (10 ≤ e ∧ e ≤ 17)) : ((out l e p).2.1 = 20 → ∃ ns b, pr l [] [] = .inr (ns, b) ∧ out l e p = (ns, 20, b)) ∧ ((out l e p).2.1 = 0 → e = 0 ∧ ∃ ns, pr l [] [] = .inl (ns, []) ∧ out l e p = (ns, e, p)) := by
  unfold out
  rcases hq : pr l [] [] with ⟨ns, st⟩ | ⟨ns, b⟩
  · cases st with
    | nil =>
      refine ⟨fun h => ?_, fun h => ⟨h, ns, rfl, rfl⟩⟩
      simp only at h
      omega
    | cons g st =>
      refine ⟨fun h => ?_, fun h => ?_⟩ <;> (simp only at h; split at h <;> omega)
  · exact ⟨fun _ => ⟨ns, b, rfl, rfl⟩, fun h => by simp only at h; omega⟩
/-- A closing parenthesis too many stays the first error. -/
theorem out_close {l r : List Tok} {ns : List N} {b : Nat} (h : pr l [] [] = .inr (ns, b)) (e p : Nat) : out (l ++ r) e p = (ns, 20, b) := by
  unfold out
  rw [pr_append, h]
end Go.Proofs.YtjbalgjdcdmjjaaDoor.X
/- ==== TokMath ==== -/
namespace Go.Proofs.YtjbalgjdcdmjjaaDoor.X
open Go.Proofs.YtjbalgjdcdmjjaaDoor.S
set_option linter.unusedVariables false
def op1 (l : List Tok) (i : Nat) : Nat := (l.take i).countP fun t => t.kind == 1
def cl2 (l : List Tok) (i : Nat) : Nat := (l.take i).countP fun t => t.kind == 2
theorem take_tok {l : List Tok} {i : Nat} (h : i < l.length) : l.take (i + 1) = l.take i ++ [l.getD i t0] := by
  rw [List.getD_eq_getElem?_getD, List.getElem?_eq_getElem h]
  simp
theorem op1_succ {l : List Tok} {i : Nat} (h : i < l.length) : op1 l (i + 1) = op1 l i + if (l.getD i t0).kind = 1 then 1 else 0 := by
  unfold op1
  rw [take_tok h, List.countP_append, List.countP_cons, List.countP_nil]
  by_cases c : (l.getD i t0).kind = 1
  · rw [if_pos c, if_pos (by simpa using c)]
  · rw [if_neg c, if_neg (by simpa using c)]
theorem cl2_succ {l : List Tok} {i : Nat} (h : i < l.length) : cl2 l (i + 1) = cl2 l i + if (l.getD i t0).kind = 2 then 1 else 0 := by
  unfold cl2
  rw [take_tok h, List.countP_append, List.countP_cons, List.countP_nil]
  by_cases c : (l.getD i t0).kind = 2
  · rw [if_pos c, if_pos (by simpa using c)]
  · rw [if_neg c, if_neg (by simpa using c)]
theorem op1_zero (l : List Tok) : op1 l 0 = 0 := by simp [op1]
theorem cl2_zero (l : List Tok) : cl2 l 0 = 0 := by simp [cl2]
theorem nb_cl2 {l : List Tok} : ∀ {i : Nat}, i ≤ l.length → nb l i + cl2 l i = i
  | 0, _ => by rw [nb_zero, cl2_zero]
  | i + 1, h => by
    have ih := nb_cl2 (l := l) (i := i) (by omega)
    rw [nb_succ l i (by omega), cl2_succ (by omega)]
    split <;> omega
/-- What is closed is closed at the parenthesis that matches. -/
def Bal (l : List Tok) (i : Nat) (tz : List Int) (op : List Nat) : Prop :=
  tz.length = i ∧ (∀ p, p < op.length → op.getD p 0 < i ∧ op1 l i + cl2 l (op.getD p 0) = cl2 l i + op1 l (op.getD p 0) + (p + 1)) ∧ op1 l i = cl2 l i + op.length ∧
  ∀ j, j < i → (l.getD j t0).kind = 1 → j ∈ op ∨ ∃ c : Nat, tz.getD j 0 = (c : Int) ∧ j < c ∧ c < i ∧ (l.getD c t0).kind = 2 ∧ op1 l (c + 1) + cl2 l j = cl2 l (c + 1) + op1 l j
theorem bal_zero (l : List Tok) : Bal l 0 [] [] := ⟨rfl, fun p hp => by simp at hp, by simp [op1_zero, cl2_zero], fun j hj => by omega⟩
theorem bal_open {l : List Tok} {i : Nat} {tz : List Int} {op : List Nat} (h : Bal l i tz op) (hi : i < l.length) (hk : (l.getD i t0).kind = 1) : Bal l (i + 1) (tz ++ [-1]) (i :: op) := by
  obtain ⟨h1, h2, h3, h4⟩ := h
  have e1 := op1_succ hi
  have e2 := cl2_succ hi
  rw [if_pos hk] at e1
  rw [if_neg (by omega)] at e2
  refine ⟨by simp [h1], fun p hp => ?_, by rw [e1, e2, List.length_cons]; omega, fun j hj hkj => ?_⟩
  · cases p with
    | zero =>
      rw [List.getD_cons_zero]
      exact ⟨by omega, by omega⟩
    | succ p =>
      rw [List.getD_cons_succ]
      have := h2 p (by simpa using hp)
      exact ⟨by omega, by omega⟩
  · by_cases c : j = i
    · subst c
      exact .inl (by simp)
    · rcases h4 j (by omega) hkj with q | ⟨c', q1, q2, q3, q4, q5⟩
      · exact .inl (List.mem_cons_of_mem _ q)
      · exact .inr ⟨c', by rw [getD_old _ _ _ (by omega)]; exact q1, q2, by omega, q4, q5⟩
theorem bal_atom {l : List Tok} {i : Nat} {tz : List Int} {op : List Nat} (h : Bal l i tz op) (hi : i < l.length) (hk : (l.getD i t0).kind ≠ 1) (hk2 : (l.getD i t0).kind ≠ 2) : Bal l (i + 1) (tz ++ [(i : Int)]) op := by
  obtain ⟨h1, h2, h3, h4⟩ := h
  have e1 := op1_succ hi
  have e2 := cl2_succ hi
  rw [if_neg hk] at e1
  rw [if_neg hk2] at e2
  refine ⟨by simp [h1], fun p hp => ?_, by rw [e1, e2]; omega, fun j hj hkj => ?_⟩
  · have := h2 p hp
    exact ⟨by omega, by omega⟩
  · by_cases c : j = i
    · subst c
      exact absurd hkj hk
    · rcases h4 j (by omega) hkj with q | ⟨c', q1, q2, q3, q4, q5⟩
      · exact .inl q
      · exact .inr ⟨c', by rw [getD_old _ _ _ (by omega)]; exact q1, q2, by omega, q4, q5⟩
theorem bal_close {l : List Tok} {i g : Nat} {tz : List Int} {op : List Nat} (h : Bal l i tz (g :: op)) (hi : i < l.length) (hk : (l.getD i t0).kind = 2) : Bal l (i + 1) ((tz ++ [(i : Int)]).set g i) op := by
  obtain ⟨h1, h2, h3, h4⟩ := h
  have e1 := op1_succ hi
  have e2 := cl2_succ hi
  rw [if_neg (by omega)] at e1
  rw [if_pos hk] at e2
  have hg := h2 0 (by simp)
  rw [List.getD_cons_zero] at hg
  refine ⟨by simp [h1], fun p hp => ?_, by rw [List.length_cons] at h3; omega, fun j hj hkj => ?_⟩
  · have := h2 (p + 1) (by simpa using hp)
    rw [List.getD_cons_succ] at this
    exact ⟨by omega, by omega⟩
  · by_cases c : j = g
    · subst c
      exact .inr ⟨i, getD_set _ _ _ (by simp; omega), hg.1, by omega, hk, by omega⟩
    · by_cases c2 : j = i
      · subst c2
        omega
      · rcases h4 j (by omega) hkj with q | ⟨c', q1, q2, q3, q4, q5⟩
        · rcases List.mem_cons.1 q with q | q
          · exact absurd q c
          · exact .inl q
        · exact .inr ⟨c', by rw [getD_set_ne _ _ _ (Ne.symm c), getD_old _ _ _ (by omega)]; exact q1, q2, by omega, q4, q5⟩
theorem bal_step (l : List Tok) : ∀ (r : List Tok) (i : Nat) (tz : List Int) (op : List Nat), l.drop i = r → i ≤ l.length → Bal l i tz op → ∀ tz' op', cl r i tz op = .inl (tz', op') → Bal l l.length tz' op'
  | [], i, tz, op, hr, hle, h, tz', op', e => by
    have hl : l.length ≤ i := by
      have := congrArg List.length hr
      simp at this
      omega
    unfold cl at e
    cases e
    obtain rfl : i = l.length := by omega
    exact h
  | t :: r, i, tz, op, hr, hle, h, tz', op', e => by
    have hi : i < l.length := by
      have := congrArg List.length hr
      simp at this
      omega
    have hd := drop_tok l i hi
    rw [hr] at hd
    obtain ⟨rfl, hr2⟩ := List.cons.inj hd
    unfold cl at e
    by_cases h1 : (l.getD i t0).kind = 1
    · rw [if_pos h1] at e
      exact bal_step l r (i + 1) _ _ hr2.symm (by omega) (bal_open h hi h1) _ _ e
    · rw [if_neg h1] at e
      by_cases h2 : (l.getD i t0).kind = 2
      · rw [if_pos h2] at e
        cases op with
        | nil => cases e
        | cons g op' => exact bal_step l r (i + 1) _ _ hr2.symm (by omega) (bal_close h hi h2) _ _ e
      · rw [if_neg h2] at e
        exact bal_step l r (i + 1) _ _ hr2.symm (by omega) (bal_atom h hi h1 h2) _ _ e
/-- What is known of the nodes of tokens that are read without an error. -/
theorem toks_nodes {l : List Tok} {ns : List N} (h : pr l [] [] = .inl (ns, [])) :
    ns.length = nb l l.length ∧ op1 l l.length = cl2 l l.length ∧
    (∀ j, j < l.length → (l.getD j t0).kind ≠ 2 → (l.getD j t0).kind ≠ 1 → ns.getD (nb l j) n0 = atom (l.getD j t0)) ∧
    (∀ j, j < l.length → (l.getD j t0).kind = 1 → ∃ c : Nat, j < c ∧ c < l.length ∧ (l.getD c t0).kind = 2 ∧ op1 l (c + 1) + cl2 l j = cl2 l (c + 1) + op1 l j ∧ ns.getD (nb l j) n0 = ⟨1, (l.getD j t0).beg, (l.getD c t0).fin, nb l (c + 1) - nb l j, []⟩) := by
  rcases in_step l l 0 [] [] [] [] rfl (inv_zero l) with ⟨ns', st', tz, op, e1, e2, hI⟩ | ⟨ns', b, tz, e1, e2, hb, hk, hI⟩
  · rw [h] at e1
    cases e1
    have hB := bal_step l l 0 [] [] rfl (Nat.zero_le _) (bal_zero l) _ _ e2
    obtain ⟨h1, h2, h3, h4, h5, h6, h7, h8, h9⟩ := hI
    have hop : op = [] := by
      cases op with
      | nil => rfl
      | cons a b => simp at h4
    subst hop
    obtain ⟨b1, b2, b3, b4⟩ := hB
    have nn : ∀ j, j < l.length → tz.getD j 0 ≠ -1 := fun j hj c => absurd (h7 j hj c) (by simp)
    refine ⟨h3, by simpa using b3, fun j hj k2 k1 => ?_, fun j hj k1 => ?_⟩
    · rw [h5 j hj k2 (nn j hj)]
      unfold nd
      rw [if_neg k1]
    · rcases b4 j hj k1 with q | ⟨c, q1, q2, q3, q4, q5⟩
      · cases q
      · refine ⟨c, q2, q3, q4, q5, ?_⟩
        rw [h5 j hj (by omega) (nn j hj)]
        unfold nd
        rw [if_pos k1, q1, Int.toNat_natCast]
  · rw [h] at e1
    cases e1
theorem stands_rise (res : List UInt8 → Bool) : ∀ (ts : List Tok) (l : List UInt8) (i e p : Nat), Stands res ts l i e p → (∀ t ∈ ts, i < t.fin) ∧ ts.Pairwise (fun a b => a.fin < b.fin)
  | [], l, i, e, p, h => ⟨fun t ht => by simp at ht, List.Pairwise.nil⟩
  | t :: ts, l, i, e, p, h => by
    obtain ⟨n, m, h1, h2, h3, h4, h5, h6, h7⟩ := h
    obtain ⟨q1, q2⟩ := stands_rise res ts _ _ e p h7
    refine ⟨fun x hx => ?_, List.pairwise_cons.2 ⟨fun x hx => ?_, q2⟩⟩
    · rcases List.mem_cons.1 hx with rfl | hx
      · omega
      · have := q1 x hx
        omega
    · have := q1 x hx
      omega
theorem rise_at {ts : List Tok} (h : ts.Pairwise (fun a b => a.fin < b.fin)) {j k : Nat} (hjk : j < k) (hk : k < ts.length) : (ts.getD j t0).fin < (ts.getD k t0).fin := by
  have := List.pairwise_iff_getElem.1 h j k (by omega) hk hjk
  rw [List.getD_eq_getElem?_getD, List.getElem?_eq_getElem (by omega : j < ts.length), List.getD_eq_getElem?_getD, List.getElem?_eq_getElem hk]
  exact this
/-- Which errors there are. -/
theorem out_told (l : List Tok) (e p : Nat) (he : e = 0 ∨ (10 ≤ e ∧ e ≤ 17)) : (out l e p).2.1 = 0 ∨ (10 ≤ (out l e p).2.1 ∧ (out l e p).2.1 ≤ 21 ∧ (20 ≤ (out l e p).2.1 ∨ ((out l e p).2.1 = e ∧ (out l e p).2.2 = p))) := by
  unfold out
  rcases pr l [] [] with ⟨ns, st⟩ | ⟨ns, b⟩
  · cases st with
    | nil =>
      show e = 0 ∨ _
      rcases he with he | he
      · exact .inl he
      · exact .inr ⟨he.1, by show e ≤ 21; omega, .inr ⟨rfl, rfl⟩⟩
    | cons g st =>
      show (if e = 0 then 21 else e) = 0 ∨ 10 ≤ (if e = 0 then 21 else e) ∧ (if e = 0 then 21 else e) ≤ 21 ∧ (20 ≤ (if e = 0 then 21 else e) ∨ (if e = 0 then 21 else e) = e ∧ (if e = 0 then _ else p) = p)
      by_cases c : e = 0
      · rw [if_pos c]
        exact .inr ⟨by omega, by omega, .inl (by omega)⟩
      · rw [if_neg c, if_neg c]
        exact .inr ⟨by omega, by omega, .inr ⟨rfl, rfl⟩⟩
  · exact .inr ⟨by show 10 ≤ 20; omega, by show 20 ≤ 21; omega, .inl (Nat.le_refl _)⟩
end Go.Proofs.YtjbalgjdcdmjjaaDoor.X
/- ==== PartMath ==== -/
namespace Go.Proofs.YtjbalgjdcdmjjaaDoor.S
set_option linter.unusedVariables false
variable (res : List UInt8 → Bool)
/- Gaps. -/
theorem dCom_cut (l : List UInt8) (i : Nat) : ∀ r k, dCom l i = .ok r k → ∃ n, n ≤ l.length ∧ k = i + n ∧ r = l.drop n ∧ ∀ m, dCom (l.take (n + m)) i = .ok ((l.drop n).take m) (i + n) := by
  induction hn : l.length using Nat.strongRecOn generalizing l i with
  | _ N ih =>
    intro r k h
    cases l with
    | nil =>
      rw [dCom] at h
      cases h
      refine ⟨0, by simp, rfl, rfl, fun m => ?_⟩
      simp [dCom]
    | cons b t =>
      rw [dCom] at h
      by_cases hb : b = 10 ∨ b = 13
      · rw [if_pos hb] at h
        cases h
        refine ⟨0, by simp, rfl, rfl, fun m => ?_⟩
        rw [Nat.zero_add, List.drop_zero]
        cases m with
        | zero => simp [dCom]
        | succ m => rw [List.take_succ_cons, dCom, if_pos hb]; rfl
      · rw [if_neg hb] at h
        by_cases hc : ctl b = true
        · simp [hc] at h
        · by_cases h0 : chr (b :: t) = 0
          · simp [hc, h0] at h
          · simp only [hc, h0, if_false, Bool.false_eq_true, dite_false] at h
            have hl := chr_le (b :: t)
            obtain ⟨n, e1, e2, e3, e4⟩ := ih _ (by simp at *; omega) _ _ rfl r k h
            obtain ⟨q, hq⟩ : ∃ q, chr (b :: t) = q + 1 := ⟨chr (b :: t) - 1, by omega⟩
            rw [hq] at hl e1 e2 e3 e4
            simp only [List.drop_succ_cons, List.length_drop, List.length_cons] at e1 e3 e4 hl
            refine ⟨q + 1 + n, by simp at hn ⊢; omega, by omega, ?_, fun m => ?_⟩
            · rw [e3, show q + 1 + n = (q + n) + 1 from by omega, List.drop_succ_cons, List.drop_drop]
            · rw [show q + 1 + n + m = (q + n + m) + 1 from by omega, List.take_succ_cons]
              have hx := chr_take b t (q + n + m) h0 (by omega)
              rw [dCom]
              simp only [hb, hc, if_false, Bool.false_eq_true, hx, h0, dite_false]
              rw [hq, List.drop_succ_cons, List.drop_take, show q + n + m - q = n + m from by omega, e4, show q + 1 + n = (q + n) + 1 from by omega, List.drop_succ_cons, List.drop_drop, show i + (q + 1) + n = i + (q + n + 1) from by omega]
theorem dSkip_cut (l : List UInt8) (i : Nat) : ∀ r k, dSkip l i = .ok r k → ∃ n, n ≤ l.length ∧ k = i + n ∧ r = l.drop n ∧ dSkip (l.take n) i = .ok [] (i + n) := by
  induction hn : l.length using Nat.strongRecOn generalizing l i with
  | _ N ih =>
    intro r k h
    cases l with
    | nil =>
      rw [dSkip] at h
      cases h
      exact ⟨0, by simp, rfl, rfl, by rw [List.take_zero, dSkip]; rfl⟩
    | cons b t =>
      rw [dSkip.eq_def] at h
      by_cases hw : white b = true
      · simp only [hw, if_true] at h
        obtain ⟨n, e1, e2, e3, e4⟩ := ih t.length (by simp at hn; omega) t (i + 1) rfl r k h
        refine ⟨n + 1, by simp at hn ⊢; omega, by omega, by rw [e3]; rfl, ?_⟩
        rw [List.take_succ_cons, dSkip.eq_def]
        simp only [hw, if_true]
        rw [e4, show i + 1 + n = i + (n + 1) from by omega]
      · by_cases h59 : b = 59
        · subst h59
          simp only [hw, if_false, if_true, Bool.false_eq_true] at h
          rcases hc : dCom t (i + 1) with ⟨r1, k1⟩ | ⟨e, p⟩
          · rw [hc] at h
            replace h : dSkip r1 k1 = .ok r k := h
            obtain ⟨n1, f1, f2, f3, f4⟩ := dCom_cut t (i + 1) r1 k1 hc
            have hlen := dCom_len _ _ _ _ hc
            obtain ⟨n, e1, e2, e3, e4⟩ := ih _ (by simp at hn; omega) r1 k1 rfl r k h
            have f5 := f4 n
            rw [← f3] at f5
            refine ⟨n1 + n + 1, by rw [f3] at e1; simp at hn e1 ⊢; omega, by omega, ?_, ?_⟩
            · rw [e3, f3, List.drop_drop, List.drop_succ_cons]
            · rw [List.take_succ_cons, dSkip.eq_def]
              simp only [hw, if_false, if_true, Bool.false_eq_true]
              rw [f5]
              show dSkip (r1.take n) (i + 1 + n1) = _
              rw [← f2, e4, f2, show i + 1 + n1 + n = i + (n1 + n + 1) from by omega]
          · rw [hc] at h
            cases h
        · simp only [hw, h59, if_false, Bool.false_eq_true] at h
          cases h
          exact ⟨0, by simp, rfl, rfl, by rw [List.take_zero, dSkip]; rfl⟩
/-- Read from 0 on as from anywhere. -/
theorem run_zero_at (l : List UInt8) (i : Nat) (h : run res .idle l i = ([], 0, 0)) : run res .idle l 0 = ([], 0, 0) := by
  have x := run_sh res i l .idle 0
  rw [Nat.zero_add] at x
  have x : shO i (run res .idle l 0) = ([], 0, 0) := by rw [← x]; exact h
  have e : (run res .idle l 0).2.1 = 0 := congrArg (fun o : Out => o.2.1) x
  have p := run_place res l .idle 0 e
  have t : (run res .idle l 0).1.map (shT i) = [] := congrArg (fun o : Out => o.1) x
  rw [List.map_eq_nil_iff] at t
  exact Prod.ext t (Prod.ext e p)
/-- The tokens stand one behind the other; between them nothing; from each on the reading begins anew. -/
def Segs : List Tok → List UInt8 → Nat → Prop
  | [], l, i => True
  | t :: ts, l, i => ∃ n m, 0 < m ∧ n + m ≤ l.length ∧ t.beg = i + n ∧ t.fin = i + n + m ∧ run res .idle (l.take n) 0 = ([], 0, 0) ∧
      run res .idle (l.drop n) (i + n) = (t :: ts, 0, 0) ∧ Segs ts (l.drop (n + m)) (i + n + m)
theorem run_segs (l : List UInt8) (i : Nat) : ∀ ts, run res .idle l i = (ts, 0, 0) → Segs res ts l i := by
  induction hn : l.length using Nat.strongRecOn generalizing l i with
  | _ N ih =>
    intro ts h
    have h0 := h
    rw [run_doc] at h
    rcases hs : dSkip l i with ⟨r, k⟩ | ⟨e, p⟩
    · obtain ⟨n, e1, e2, e3, e4⟩ := dSkip_cut l i r k hs
      rw [hs] at h
      cases r with
      | nil =>
        obtain rfl : [] = ts := congrArg (fun o : Out => o.1) h
        trivial
      | cons b t =>
        obtain ⟨w1, w2⟩ := dSkip_head l i b t k hs
        have hlen : t.length + 1 = l.length - n := by
          have := congrArg List.length e3
          simpa using this
        replace h : (dOne res b t k).out res = (ts, 0, 0) := h
        rcases ho : dOne res b t k with ⟨tk, r'⟩ | ⟨e, p⟩
        · obtain ⟨c1, m, c2, c3, c4, c5⟩ := dOne_cut res b t k tk r' ho
          rw [ho] at h
          replace h : pre [tk] (run res .idle r' tk.fin) = (ts, 0, 0) := h
          have d1 : l.drop (n + (m + 1)) = r' := by
            rw [← List.drop_drop, ← e3, List.drop_succ_cons, c4]
          have d2 : tk.fin = i + n + (m + 1) := by omega
          obtain ⟨⟨ts', e, p⟩, hr⟩ : ∃ o, run res .idle r' tk.fin = o := ⟨_, rfl⟩
          rw [hr] at h
          cases h
          refine ⟨n, m + 1, by omega, by omega, by omega, d2, ?_, ?_, ?_⟩
          · apply run_zero_at res _ i
            rw [run_doc, e4]
          · rw [← e3, run_one res b t _ w1 w2, ← e2, ho]
            show pre [tk] (run res .idle r' tk.fin) = _
            rw [hr]
            rfl
          · rw [d1, ← d2]
            exact ih _ (by rw [← d1, List.length_drop]; omega) r' _ rfl _ hr
        · rw [ho] at h
          have := (dOne_err res b t k e p ho).1
          exact absurd (congrArg (fun o : Out => o.2.1) h) this
    · rw [hs] at h
      have := (dSkip_err l i e p hs).1
      exact absurd (congrArg (fun o : Out => o.2.1) h) this
/- A run of tokens, cut off behind its last. -/
/-- What one step tells, and what the end would have told there. -/
def Res.tells (q : St) (i : Nat) : Res → Prop
  | .inr _ => True
  | .inl (ts, q') => ts = [] ∨ (∃ t, ts = [t] ∧ t.fin = i ∧ stop res q i = ([t], 0, 0)) ∨ (∃ t, ts = [t] ∧ t.fin = i + 1 ∧ q' = .idle) ∨
      ∃ t t', ts = [t, t'] ∧ t.fin = i ∧ stop res q i = ([t], 0, 0) ∧ t'.fin = i + 1 ∧ q' = .idle
def Res.lone (i : Nat) : Res → Prop
  | .inr _ => True
  | .inl (ts, q') => ts = [] ∨ ∃ t, ts = [t] ∧ t.fin = i + 1 ∧ q' = .idle
theorem stepIdle_lone (b : UInt8) (i : Nat) : (stepIdle b i).lone i := by
  unfold stepIdle
  repeat' split
  all_goals first | trivial | exact .inl rfl | exact .inr ⟨_, rfl, rfl, rfl⟩
theorem tells_lone {q : St} {i : Nat} {r : Res} (h : r.lone i) : r.tells res q i := by
  rcases r with ⟨ts, q'⟩ | _
  · rcases h with h | h
    · exact .inl h
    · exact .inr (.inr (.inl h))
  · trivial
theorem tells_pass {q : St} {i : Nat} {r : Res} {t : Tok} (h : r.lone i) (h1 : t.fin = i) (h2 : stop res q i = ([t], 0, 0)) : (r.pre [t]).tells res q i := by
  rcases r with ⟨ts, q'⟩ | _
  · rcases h with rfl | ⟨t', rfl, h3, h4⟩
    · exact .inr (.inl ⟨t, rfl, h1, h2⟩)
    · exact .inr (.inr (.inr ⟨t, t', rfl, h1, h2, h3, h4⟩))
  · trivial
theorem behind_tells {q : St} {k g i : Nat} {a : List UInt8} {b : UInt8} (h : stop res q i = ([tok res k g i a], 0, 0)) : (behindNumber res k g a b i).tells res q i := by
  unfold behindNumber
  split
  · trivial
  · exact tells_pass res (stepIdle_lone b i) rfl h
theorem content_tells {q : St} (c : Cont) (b : UInt8) (i : Nat) : (content c b i).tells res q i := by
  unfold content
  repeat' split
  all_goals first | trivial | exact .inl rfl
theorem step_tells (q : St) (b : UInt8) (i : Nat) : (step res q b i).tells res q i := by
  rcases q with _ | ⟨k, g, a⟩ | g | ⟨g, a⟩ | ⟨g, a⟩ | g | ⟨k, m, g, a⟩ | ⟨k, m, g, a⟩ | ⟨g, a⟩ | (_ | ⟨g, a⟩ | ⟨g, a⟩) | ⟨c, s, k, lo, hi⟩
  · exact tells_lone res (stepIdle_lone b i)
  · simp only [step]
    split
    · exact .inl rfl
    · exact tells_pass res (stepIdle_lone b i) rfl rfl
  · simp only [step]
    split
    · exact .inl rfl
    · trivial
  · simp only [step]
    split
    · exact .inl rfl
    · unfold stepZero
      split
      · exact .inl rfl
      · exact behind_tells res rfl
  · simp only [step]
    unfold stepZero
    split
    · exact .inl rfl
    · exact behind_tells res rfl
  · simp only [step]
    repeat' split
    all_goals first | trivial | exact .inl rfl
  · simp only [step]
    repeat' split
    all_goals first | trivial | exact .inl rfl
  · simp only [step]
    split
    · exact .inl rfl
    · exact behind_tells res rfl
  · simp only [step]
    split
    · exact .inl rfl
    · exact tells_pass res (stepIdle_lone b i) rfl rfl
  · simp only [step, stepCont]
    split
    · exact .inl rfl
    · exact content_tells res _ b i
  · simp only [step, stepCont]
    split
    · exact .inl rfl
    · exact content_tells res _ b i
  · simp only [step, stepCont]
    split
    · exact .inr (.inr (.inl ⟨_, rfl, rfl, rfl⟩))
    · split
      · trivial
      · exact content_tells res _ b i
  · simp only [step]
    repeat' split
    all_goals first | trivial | exact .inl rfl
theorem tells_ge {q q' : St} {i : Nat} {ts : List Tok} (h : Res.tells res q i (.inl (ts, q'))) : ∀ t ∈ ts, i ≤ t.fin := by
  rcases h with rfl | ⟨t, rfl, h1, -⟩ | ⟨t, rfl, h1, -⟩ | ⟨t, t', rfl, h1, -, h2, -⟩ <;> intro x hx <;> simp at hx
  · subst hx
    omega
  · subst hx
    omega
  · rcases hx with rfl | rfl <;> omega
theorem stop_one (q : St) (i : Nat) : (stop res q i).1 = [] ∨ ∃ t, stop res q i = ([t], 0, 0) ∧ t.fin = i := by
  rcases q with _ | ⟨k, g, a⟩ | g | ⟨g, a⟩ | ⟨g, a⟩ | g | ⟨k, m, g, a⟩ | ⟨k, m, g, a⟩ | ⟨g, a⟩ | (_ | ⟨g, a⟩ | ⟨g, a⟩) | ⟨c, s, k, lo, hi⟩ <;> first | exact .inl rfl | exact .inr ⟨_, rfl, rfl⟩
theorem err_tells : ∀ (q : St) (b : UInt8) (i e p : Nat) (ts : List Tok), step res q b i = .inr (ts, e, p) → e ≠ 0 := by
  intro q b i e p ts h
  have := step_good res q b i
  rw [h] at this
  exact this
theorem run_ge : ∀ (l : List UInt8) (q : St) (i : Nat), (run res q l i).2.1 = 0 → ∀ t ∈ (run res q l i).1, i ≤ t.fin
  | [], q, i, _, t, ht => by
    replace ht : t ∈ (stop res q i).1 := ht
    rcases stop_one res q i with h | ⟨t', h, h2⟩
    · rw [h] at ht
      simp at ht
    · rw [h] at ht
      simp at ht
      subst ht
      omega
  | b :: l, q, i, h, t, ht => by
    have hs := step_tells res q b i
    rcases e : step res q b i with ⟨ts, q'⟩ | ⟨ts, e', p⟩
    · rw [run_go res e] at h ht
      rw [e] at hs
      rcases List.mem_append.1 ht with ht | ht
      · exact tells_ge res hs t ht
      · have := run_ge l q' (i + 1) h t ht
        omega
    · rw [run_err res e] at h
      exact absurd h (err_tells res q b i e' p ts e)
/-- Cut off where a token ends, a text has the tokens up to that one. -/
theorem run_upto (z : List UInt8) : ∀ (x : List UInt8) (q : St) (i : Nat) (ts : List Tok) (t : Tok), run res q (x ++ z) i = (ts, 0, 0) → t ∈ ts → t.fin = i + x.length →
    ∃ u v, ts = u ++ t :: v ∧ run res q x i = (u ++ [t], 0, 0)
  | [], q, i, ts, t, h, ht, hf => by
    rw [List.nil_append] at h
    have hf : t.fin = i := hf
    cases z with
    | nil =>
      rcases stop_one res q i with g | ⟨t', g, g2⟩
      · replace h : stop res q i = (ts, 0, 0) := h
        rw [h] at g
        subst g
        simp at ht
      · refine ⟨[], [], ?_, ?_⟩
        · replace h : stop res q i = (ts, 0, 0) := h
          rw [h] at g
          cases g
          simp at ht
          rw [ht]
          rfl
        · show stop res q i = _
          replace h : stop res q i = (ts, 0, 0) := h
          rw [h] at g ⊢
          cases g
          simp at ht
          rw [ht]
          rfl
    | cons c z =>
      have hs := step_tells res q c i
      rcases e : step res q c i with ⟨ts1, q'⟩ | ⟨ts1, e', p⟩
      · rw [run_go res e] at h
        rw [e] at hs
        obtain ⟨⟨ts2, e2, p2⟩, hr⟩ : ∃ o, run res q' z (i + 1) = o := ⟨_, rfl⟩
        rw [hr] at h
        replace h : (ts1 ++ ts2, e2, p2) = (ts, 0, 0) := h
        cases h
        have hge := run_ge res z q' (i + 1) (by rw [hr])
        rw [hr] at hge
        have ht1 : t ∈ ts1 := by
          rcases List.mem_append.1 ht with ht | ht
          · exact ht
          · have := hge t ht
            omega
        rcases hs with rfl | ⟨t', rfl, h1, h2⟩ | ⟨t', rfl, h1, -⟩ | ⟨t', t'', rfl, h1, h2, h3, -⟩
        · simp at ht1
        · simp at ht1
          subst ht1
          exact ⟨[], ts2, rfl, h2⟩
        · simp at ht1
          subst ht1
          omega
        · simp at ht1
          rcases ht1 with rfl | rfl
          · exact ⟨[], t'' :: ts2, rfl, h2⟩
          · omega
      · rw [run_err res e] at h
        cases h
        exact absurd rfl (err_tells res q c i 0 0 ts e)
  | b :: x, q, i, ts, t, h, ht, hf => by
    rw [List.cons_append] at h
    rw [List.length_cons] at hf
    have hs := step_tells res q b i
    rcases e : step res q b i with ⟨ts1, q'⟩ | ⟨ts1, e', p⟩
    · rw [run_go res e] at h
      rw [e] at hs
      obtain ⟨⟨ts2, e2, p2⟩, hr⟩ : ∃ o, run res q' (x ++ z) (i + 1) = o := ⟨_, rfl⟩
      rw [hr] at h
      replace h : (ts1 ++ ts2, e2, p2) = (ts, 0, 0) := h
      cases h
      rw [run_go res e]
      rcases List.mem_append.1 ht with ht | ht
      · have last : ∃ u, ts1 = u ++ [t] ∧ q' = .idle ∧ x = [] := by
          rcases hs with rfl | ⟨t', rfl, h1, h2⟩ | ⟨t', rfl, h1, h2⟩ | ⟨t', t'', rfl, h1, h2, h3, h4⟩
          · simp at ht
          · simp at ht
            subst ht
            omega
          · simp at ht
            subst ht
            exact ⟨[], rfl, h2, List.length_eq_zero_iff.1 (by omega)⟩
          · simp at ht
            rcases ht with rfl | rfl
            · omega
            · exact ⟨[t'], rfl, h4, List.length_eq_zero_iff.1 (by omega)⟩
        obtain ⟨u, rfl, rfl, rfl⟩ := last
        exact ⟨u, ts2, by simp, by simp [run, stop, pre]⟩
      · obtain ⟨u, v, e1, e2⟩ := run_upto z x q' (i + 1) ts2 t hr ht (by omega)
        refine ⟨ts1 ++ u, v, by rw [e1]; simp, ?_⟩
        rw [e2]
        simp [pre]
    · rw [run_err res e] at h
      cases h
      exact absurd rfl (err_tells res q b i 0 0 ts e)
end Go.Proofs.YtjbalgjdcdmjjaaDoor.S
namespace Go.Proofs.YtjbalgjdcdmjjaaDoor.X
open Go.Proofs.YtjbalgjdcdmjjaaDoor.S
set_option linter.unusedVariables false
/-- Tokens that make nodes: an atom one, a list one and those of what stands in it. -/
def Sq (T : List Tok) (M : List N) : Prop :=
  ∀ P : List Tok → List N → Prop, P [] [] → (∀ (t : Tok) (T : List Tok) (M : List N), t.kind ≠ 1 → t.kind ≠ 2 → P T M → P (t :: T) (X.atom t :: M)) →
    (∀ (o c : Tok) (T : List Tok) (M : List N) (T' : List Tok) (M' : List N), o.kind = 1 → c.kind = 2 → P T M → P T' M' → P (o :: (T ++ c :: T')) (⟨1, o.beg, c.fin, M.length + 1, []⟩ :: (M ++ M'))) → P T M
theorem Sq.nil : Sq [] [] := fun P h1 _ _ => h1
theorem Sq.atom (t : Tok) (T : List Tok) (M : List N) (k1 : t.kind ≠ 1) (k2 : t.kind ≠ 2) (h : Sq T M) : Sq (t :: T) (X.atom t :: M) := fun P h1 h2 h3 => h2 t T M k1 k2 (h P h1 h2 h3)
theorem Sq.list (o c : Tok) (T : List Tok) (M : List N) (T' : List Tok) (M' : List N) (k1 : o.kind = 1) (k2 : c.kind = 2) (h : Sq T M) (h' : Sq T' M') : Sq (o :: (T ++ c :: T')) (⟨1, o.beg, c.fin, M.length + 1, []⟩ :: (M ++ M')) :=
  fun P h1 h2 h3 => h3 o c T M T' M' k1 k2 (h P h1 h2 h3) (h' P h1 h2 h3)
theorem Sq.ind {motive : ∀ (T : List Tok) (M : List N), Sq T M → Prop} (nil : motive [] [] .nil) (atom : ∀ (t : Tok) (T : List Tok) (M : List N) (h1 : t.kind ≠ 1) (h2 : t.kind ≠ 2) (h : Sq T M), motive T M h → motive (t :: T) (X.atom t :: M) (.atom t T M h1 h2 h))
    (list : ∀ (o c : Tok) (T : List Tok) (M : List N) (T' : List Tok) (M' : List N) (h1 : o.kind = 1) (h2 : c.kind = 2) (h : Sq T M) (h' : Sq T' M'), motive T M h → motive T' M' h' → motive (o :: (T ++ c :: T')) (⟨1, o.beg, c.fin, M.length + 1, []⟩ :: (M ++ M')) (.list o c T M T' M' h1 h2 h h'))
    {T : List Tok} {M : List N} (h : Sq T M) : motive T M h :=
  (h (fun T M => ∃ h : Sq T M, motive T M h) ⟨.nil, nil⟩ (fun t T M k1 k2 ⟨h, m⟩ => ⟨.atom t T M k1 k2 h, atom t T M k1 k2 h m⟩) (fun o c T M T' M' k1 k2 ⟨h, m⟩ ⟨h', m'⟩ => ⟨.list o c T M T' M' k1 k2 h h', list o c T M T' M' k1 k2 h h' m m'⟩)).2
theorem Sq.cuts {T : List Tok} {M : List N} (h : Sq T M) : (T = [] ∧ M = []) ∨ (∃ t T1 M1, T = t :: T1 ∧ M = X.atom t :: M1 ∧ t.kind ≠ 1 ∧ t.kind ≠ 2 ∧ Sq T1 M1) ∨
    ∃ o c T1 M1 T2 M2, T = o :: (T1 ++ c :: T2) ∧ M = (⟨1, o.beg, c.fin, M1.length + 1, []⟩ : N) :: (M1 ++ M2) ∧ o.kind = 1 ∧ c.kind = 2 ∧ Sq T1 M1 ∧ Sq T2 M2 := by
  induction h using Sq.ind with
  | nil => exact .inl ⟨rfl, rfl⟩
  | atom t T M h1 h2 h _ => exact .inr (.inl ⟨t, T, M, rfl, rfl, h1, h2, h⟩)
  | list o c T M U K h1 h2 h h' _ _ => exact .inr (.inr ⟨o, c, T, M, U, K, rfl, rfl, h1, h2, h, h'⟩)
theorem Sq.append {T T' : List Tok} {M M' : List N} (h : Sq T M) (h' : Sq T' M') : Sq (T ++ T') (M ++ M') := by
  induction h using Sq.ind with
  | nil => exact h'
  | atom t T M h1 h2 _ ih => exact .atom t _ _ h1 h2 ih
  | list o c T M U K h1 h2 h3 _ _ ih =>
    have := Sq.list o c T M _ _ h1 h2 h3 ih
    simpa using this
theorem shut_at (ns M : List N) (o : Tok) (f : Nat) : shutL (ns ++ newL o :: M) ns.length f = ns ++ ⟨1, o.beg, f, M.length + 1, []⟩ :: M := by
  unfold shutL
  have e : (ns ++ newL o :: M).getD ns.length n0 = newL o := by simp
  rw [e, List.set_append_right _ _ (Nat.le_refl _), Nat.sub_self, List.set_cons_zero]
  have : (ns ++ newL o :: M).length - ns.length = M.length + 1 := by simp
  rw [this]
  rfl
theorem Sq.pr {T : List Tok} {M : List N} (h : Sq T M) : ∀ (ns : List N) (st : List Nat), X.pr T ns st = .inl (ns ++ M, st) := by
  induction h using Sq.ind with
  | nil => intro ns st; rw [X.pr, List.append_nil]
  | atom t T M h1 h2 _ ih =>
    intro ns st
    rw [pr_cons, if_neg h1, if_neg h2, ih]
    simp
  | list o c T M U K h1 h2 _ _ ih1 ih2 =>
    intro ns st
    rw [pr_cons, if_pos h1, pr_append, ih1]
    show X.pr (c :: U) (ns ++ [newL o] ++ M) (ns.length :: st) = _
    rw [pr_cons, if_neg (by omega), if_pos h2]
    show X.pr U (shutL (ns ++ [newL o] ++ M) ns.length c.fin) st = _
    rw [show ns ++ [newL o] ++ M = ns ++ newL o :: M from by simp, shut_at, ih2]
    simp
/-- Lists that are still open. -/
def Fr : List Nat → List N → List Tok → Prop
  | [], M, T => Sq T M
  | g :: st, N, U => ∃ ns T o T' M', g = ns.length ∧ N = ns ++ newL o :: M' ∧ U = T ++ o :: T' ∧ Fr st ns T ∧ o.kind = 1 ∧ Sq T' M'
theorem Fr.base (T : List Tok) (M : List N) (h : Sq T M) : Fr [] M T := h
theorem Fr.more (st : List Nat) (ns : List N) (T : List Tok) (o : Tok) (T' : List Tok) (M' : List N) (h : Fr st ns T) (h1 : o.kind = 1) (h2 : Sq T' M') : Fr (ns.length :: st) (ns ++ newL o :: M') (T ++ o :: T') := ⟨ns, T, o, T', M', rfl, rfl, rfl, h, h1, h2⟩
theorem Fr.app {st : List Nat} {ns : List N} {T T' : List Tok} {M' : List N} (h : Fr st ns T) (h' : Sq T' M') : Fr st (ns ++ M') (T ++ T') := by
  cases st with
  | nil => exact Sq.append h h'
  | cons g st =>
    obtain ⟨ns, T, o, T1, M1, rfl, rfl, rfl, h, h1, h2⟩ := h
    have := Fr.more st ns T o _ _ h h1 (h2.append h')
    simpa using this
theorem fr_pr : ∀ (r T : List Tok) (ns : List N) (st : List Nat), Fr st ns T → ∀ f, X.pr r ns st = .inl (f, []) → Sq (T ++ r) f
  | [], T, ns, st, h, f, e => by
    unfold X.pr at e
    cases e
    rw [List.append_nil]
    exact h
  | t :: r, T, ns, st, h, f, e => by
    rw [pr_cons] at e
    by_cases h1 : t.kind = 1
    · rw [if_pos h1] at e
      have := fr_pr r (T ++ [t]) _ _ (Fr.more st ns T t [] [] h h1 .nil) f e
      simpa using this
    · rw [if_neg h1] at e
      by_cases h2 : t.kind = 2
      · rw [if_pos h2] at e
        cases st with
        | nil => cases e
        | cons g st =>
          obtain ⟨ns, T, o, T1, M1, rfl, rfl, rfl, h, h3, h4⟩ := h
          replace e : X.pr r (shutL (ns ++ newL o :: M1) ns.length t.fin) st = .inl (f, []) := e
          rw [shut_at] at e
          have hS : Sq (o :: (T1 ++ [t])) (⟨1, o.beg, t.fin, M1.length + 1, []⟩ :: M1) := by
            have := Sq.list o t T1 M1 [] [] h3 h2 h4 .nil
            simpa using this
          have := fr_pr r (T ++ o :: (T1 ++ [t])) _ _ (h.app hS) f e
          simpa using this
      · rw [if_neg h2] at e
        have := fr_pr r (T ++ [t]) _ _ (h.app (Sq.atom t [] [] h1 h2 .nil)) f e
        simpa using this
theorem sq_of_pr {ts : List Tok} {f : List N} (h : X.pr ts [] [] = .inl (f, [])) : Sq ts f := fr_pr ts [] [] [] (.base _ _ .nil) f h
/-- One expression. -/
def One (x : List Tok) (m : List N) : Prop :=
  (∃ t, x = [t] ∧ m = [X.atom t] ∧ t.kind ≠ 1 ∧ t.kind ≠ 2) ∨ ∃ o c T M, x = o :: (T ++ [c]) ∧ m = (⟨1, o.beg, c.fin, M.length + 1, []⟩ : N) :: M ∧ o.kind = 1 ∧ c.kind = 2 ∧ Sq T M
theorem One.sq {x : List Tok} {m : List N} (h : One x m) : Sq x m := by
  rcases h with ⟨t, rfl, rfl, h1, h2⟩ | ⟨o, c, T, M, rfl, rfl, h1, h2, h3⟩
  · exact .atom t [] [] h1 h2 .nil
  · have := Sq.list o c T M [] [] h1 h2 h3 .nil
    simpa using this
/-- The expression of each node, its tokens and its nodes. -/
theorem Sq.node {ts : List Tok} {f : List N} (h : Sq ts f) : ∀ i, i < f.length → ∃ a x b u m v, ts = a ++ (x ++ b) ∧ f = u ++ (m ++ v) ∧ u.length = i ∧ One x m := by
  induction h using Sq.ind with
  | nil => intro i hi; simp at hi
  | atom t T M h1 h2 h3 ih =>
    intro i hi
    cases i with
    | zero => exact ⟨[], [t], T, [], [X.atom t], M, rfl, rfl, rfl, .inl ⟨t, rfl, rfl, h1, h2⟩⟩
    | succ i =>
      obtain ⟨a, x, b, u, m, v, e1, e2, e3, e4⟩ := ih i (by simpa using hi)
      exact ⟨t :: a, x, b, X.atom t :: u, m, v, by rw [e1]; rfl, by rw [e2]; rfl, by simp [e3], e4⟩
  | list o c T M U K h1 h2 h3 h4 ih1 ih2 =>
    intro i hi
    cases i with
    | zero => exact ⟨[], o :: (T ++ [c]), U, [], _ :: M, K, by simp, by simp, rfl, .inr ⟨o, c, T, M, rfl, rfl, h1, h2, h3⟩⟩
    | succ i =>
      rcases Nat.lt_or_ge i M.length with hc | hc
      · obtain ⟨a, x, b, u, m, v, e1, e2, e3, e4⟩ := ih1 i hc
        exact ⟨o :: a, x, b ++ c :: U, ⟨1, o.beg, c.fin, M.length + 1, []⟩ :: u, m, v ++ K, by rw [e1]; simp, by rw [e2]; simp, by simp [e3], e4⟩
      · obtain ⟨a, x, b, u, m, v, e1, e2, e3, e4⟩ := ih2 (i - M.length) (by simp at hi; omega)
        exact ⟨o :: (T ++ c :: a), x, b, ⟨1, o.beg, c.fin, M.length + 1, []⟩ :: (M ++ u), m, v, by rw [e1]; simp, by rw [e2]; simp, by simp [e3]; omega, e4⟩
/-- Moved tokens make moved nodes. -/
theorem Sq.back {Y : List Tok} {M : List N} (h : Sq Y M) (d : Nat) : ∀ T, Y = T.map (shT d) → ∃ M', Sq T M' ∧ M = M'.map (mvN d) := by
  induction h using Sq.ind with
  | nil =>
    intro T e
    cases T with
    | nil => exact ⟨[], .nil, rfl⟩
    | cons t T => cases e
  | atom t T M h1 h2 _ ih =>
    intro S e
    cases S with
    | nil => cases e
    | cons s S =>
      rw [List.map_cons] at e
      obtain ⟨rfl, e2⟩ := List.cons.inj e
      obtain ⟨M', q1, rfl⟩ := ih S e2
      exact ⟨X.atom s :: M', .atom s S M' h1 h2 q1, rfl⟩
  | list o c T M U K h1 h2 _ _ ih1 ih2 =>
    intro S e
    cases S with
    | nil => cases e
    | cons s S =>
      rw [List.map_cons] at e
      obtain ⟨rfl, e2⟩ := List.cons.inj e
      obtain ⟨T1, R, rfl, e3, e4⟩ := List.map_eq_append_iff.1 e2.symm
      obtain ⟨c1, U1, rfl, e5, e6⟩ := List.map_eq_cons_iff.1 e4
      obtain ⟨M', q1, rfl⟩ := ih1 T1 e3.symm
      obtain ⟨K', q2, rfl⟩ := ih2 U1 e6.symm
      subst e5
      refine ⟨_, .list s c1 T1 M' U1 K' h1 h2 q1 q2, ?_⟩
      simp [mvN, shT]
theorem Sq.len {T : List Tok} {M : List N} (h : Sq T M) : M.length ≤ T.length := by
  induction h using Sq.ind with
  | nil => simp
  | atom t T M _ _ _ ih => simp; omega
  | list o c T M U K _ _ _ _ ih1 ih2 => simp; omega
theorem Sq.nil_of {T : List Tok} (h : Sq T []) : T = [] := by
  have : ∀ M, Sq T M → M = [] → T = [] := by
    intro M h
    induction h using Sq.ind with
    | nil => intro _; rfl
    | atom t T M _ _ _ _ => intro e; cases e
    | list o c T M U K _ _ _ _ _ _ => intro e; cases e
  exact this _ h rfl
end Go.Proofs.YtjbalgjdcdmjjaaDoor.X
namespace Go.Proofs.YtjbalgjdcdmjjaaDoor.S
variable (res : List UInt8 → Bool)
theorem segs_at : ∀ (a : List Tok) (t : Tok) (b : List Tok) (l : List UInt8) (i : Nat), Segs res (a ++ t :: b) l i →
    ∃ n m, 0 < m ∧ n + m ≤ l.length ∧ t.beg = i + n ∧ t.fin = i + n + m ∧ run res .idle (l.drop n) (i + n) = (t :: b, 0, 0) ∧ Segs res b (l.drop (n + m)) (i + n + m)
  | [], t, b, l, i, h => by
    obtain ⟨n, m, h1, h2, h3, h4, h5, h6, h7⟩ := h
    exact ⟨n, m, h1, h2, h3, h4, h6, h7⟩
  | s :: a, t, b, l, i, h => by
    obtain ⟨n, m, h1, h2, h3, h4, h5, h6, h7⟩ := h
    obtain ⟨n', m', g1, g2, g3, g4, g5, g6⟩ := segs_at a t b _ _ h7
    rw [List.length_drop] at g2
    rw [List.drop_drop] at g5 g6
    refine ⟨n + m + n', m', g1, by omega, by omega, by omega, ?_, ?_⟩
    · rw [show i + (n + m + n') = i + n + m + n' from by omega]
      exact g5
    · rw [show i + (n + m + n') + m' = i + n + m + n' + m' from by omega, show n + m + n' + m' = n + m + (n' + m') from by omega]
      exact g6
theorem segs_le : ∀ (ts : List Tok) (l : List UInt8) (i : Nat), Segs res ts l i → ∀ t ∈ ts, i ≤ t.beg
  | [], l, i, h, t, ht => by simp at ht
  | s :: ts, l, i, h, t, ht => by
    obtain ⟨n, m, h1, h2, h3, h4, h5, h6, h7⟩ := h
    rcases List.mem_cons.1 ht with rfl | ht
    · omega
    · have := segs_le ts _ _ h7 t ht
      omega
/-- Where a token stands, and what is read from it on. -/
theorem tok_at {l : List UInt8} {ts a b : List Tok} {t : Tok} (h : run res .idle l 0 = (ts, 0, 0)) (e : ts = a ++ t :: b) :
    t.beg < t.fin ∧ t.fin ≤ l.length ∧ run res .idle (l.drop t.beg) t.beg = (t :: b, 0, 0) ∧ Segs res b (l.drop t.fin) t.fin := by
  have hs := run_segs res l 0 ts h
  rw [e] at hs
  obtain ⟨n, m, h1, h2, h3, h4, h5, h6⟩ := segs_at res a t b l 0 hs
  rw [Nat.zero_add] at h3 h4 h5 h6
  subst h3
  refine ⟨by omega, by omega, h5, ?_⟩
  rw [h4]
  exact h6
/-- Between two tokens there is nothing. -/
theorem tok_gap {l : List UInt8} {ts a b : List Tok} {t s : Tok} (h : run res .idle l 0 = (ts, 0, 0)) (e : ts = a ++ t :: s :: b) :
    t.fin ≤ s.beg ∧ s.beg < s.fin ∧ s.fin ≤ l.length ∧ run res .idle ((l.drop t.fin).take (s.beg - t.fin)) 0 = ([], 0, 0) := by
  obtain ⟨h1, h2, -, n, m, g1, g2, g3, g4, g5, -⟩ := tok_at res h e
  rw [List.length_drop] at g2
  refine ⟨by omega, by omega, by omega, ?_⟩
  rw [show s.beg - t.fin = n from by omega]
  exact g5
theorem tok_le {l : List UInt8} {ts a b c : List Tok} {t s : Tok} (h : run res .idle l 0 = (ts, 0, 0)) (e : ts = a ++ t :: (b ++ s :: c)) : t.fin ≤ s.beg := by
  obtain ⟨-, -, -, h4⟩ := tok_at res h e
  exact segs_le res _ _ _ h4 s (by simp)
theorem pw_split {R : Tok → Tok → Prop} (hR : ∀ x, ¬ R x x) : ∀ (y u b v : List Tok) (z : Tok), (y ++ z :: b).Pairwise R → y ++ z :: b = u ++ z :: v → y = u
  | [], [], b, v, z, _, _ => rfl
  | [], x :: u, b, v, z, h, e => by
    rw [List.nil_append, List.cons_append] at e
    obtain ⟨rfl, rfl⟩ := List.cons.inj e
    rw [List.nil_append] at h
    exact absurd ((List.pairwise_cons.1 h).1 z (by simp)) (hR z)
  | x :: y, [], b, v, z, h, e => by
    rw [List.nil_append, List.cons_append] at e
    obtain ⟨rfl, rfl⟩ := List.cons.inj e
    rw [List.cons_append] at h
    exact absurd ((List.pairwise_cons.1 h).1 x (by simp)) (hR x)
  | x :: y, x' :: u, b, v, z, h, e => by
    rw [List.cons_append, List.cons_append] at e
    obtain ⟨rfl, e'⟩ := List.cons.inj e
    rw [List.cons_append] at h
    rw [pw_split hR y u b v z (List.pairwise_cons.1 h).2 e']
/-- A run of tokens, read alone out of its bytes, is that run. -/
theorem tok_part {l : List UInt8} {ts a x y b : List Tok} {t z : Tok} (h : run res .idle l 0 = (ts, 0, 0)) (e : ts = a ++ (x ++ b)) (e1 : x = t :: y) (e2 : ∃ y', x = y' ++ [z]) :
    t.beg < z.fin ∧ z.fin ≤ l.length ∧ ∃ T', run res .idle ((l.drop t.beg).take (z.fin - t.beg)) 0 = (T', 0, 0) ∧ T'.map (shT t.beg) = x := by
  obtain ⟨y', e2⟩ := e2
  have hz := tok_at res h (a := a ++ y') (t := z) (b := b) (by rw [e, e2]; simp)
  have ht := tok_at res h (a := a) (t := t) (b := y ++ b) (by rw [e, e1]; simp)
  have hle : t.beg ≤ z.beg := by
    cases y' with
    | nil =>
      rw [e1, List.nil_append] at e2
      rw [(List.cons.inj e2).1]
      exact Nat.le_refl _
    | cons s y' =>
      rw [e1, List.cons_append] at e2
      obtain ⟨rfl, e2⟩ := List.cons.inj e2
      have := tok_le res h (a := a) (t := t) (b := y') (s := z) (c := b) (by rw [e, e1, e2]; simp)
      have := ht.1
      omega
  have h5 := ht.2.2.1
  rw [← List.take_append_drop (z.fin - t.beg) (l.drop t.beg)] at h5
  have hl : ((l.drop t.beg).take (z.fin - t.beg)).length = z.fin - t.beg := by
    rw [List.length_take, List.length_drop]
    omega
  obtain ⟨u, v, q1, q2⟩ := run_upto res _ _ .idle t.beg _ z h5 (by
    have : z ∈ x := by rw [e2]; simp
    rw [e1] at this
    rw [← List.cons_append]
    exact List.mem_append_left _ this) (by rw [hl]; omega)
  have hpw := (X.stands_rise res _ _ _ _ _ (run_stands res l 0)).2
  rw [h, e] at hpw
  replace hpw := (List.pairwise_append.1 hpw).2.1
  have hu : y' = u := pw_split (fun x => Nat.lt_irrefl _) y' u b v z (by rw [e2] at hpw; simpa using hpw) (by rw [← q1, ← List.cons_append, ← e1, e2]; simp)
  subst hu
  rw [← e2] at q2
  refine ⟨by omega, by omega, ?_⟩
  have s1 := run_sh res t.beg ((l.drop t.beg).take (z.fin - t.beg)) .idle 0
  rw [Nat.zero_add] at s1
  have s2 : shO t.beg (run res .idle ((l.drop t.beg).take (z.fin - t.beg)) 0) = (x, 0, 0) := by rw [← s1]; exact q2
  have s3 : (run res .idle ((l.drop t.beg).take (z.fin - t.beg)) 0).2.1 = 0 := congrArg (fun o : Out => o.2.1) s2
  have s4 := run_place res _ .idle 0 s3
  exact ⟨_, Prod.ext rfl (Prod.ext s3 s4), congrArg (fun o : Out => o.1) s2⟩
end Go.Proofs.YtjbalgjdcdmjjaaDoor.S
namespace Go.Proofs.YtjbalgjdcdmjjaaDoor.X
open Go.Proofs.YtjbalgjdcdmjjaaDoor.S
variable (res : List UInt8 → Bool)
/-- An expression, read alone out of its bytes, is itself. -/
theorem one_read {l : List UInt8} {ts a x b : List Tok} {m : List N} (h : run res .idle l 0 = (ts, 0, 0)) (e : ts = a ++ (x ++ b)) (ho : One x m) :
    ∃ n M, m = n :: M ∧ n.size = m.length ∧ n.beg < n.fin ∧ n.fin ≤ l.length ∧ ∃ T' m', run res .idle ((l.drop n.beg).take (n.fin - n.beg)) 0 = (T', 0, 0) ∧ X.pr T' [] [] = .inl (m', []) ∧ m = m'.map (mvN n.beg) := by
  have hq := ho.sq
  rcases ho with ⟨t, rfl, rfl, h1, h2⟩ | ⟨o, c, T, M, rfl, rfl, h1, h2, h3⟩
  · obtain ⟨g1, g2, T', g3, g4⟩ := tok_part res (x := [t]) (y := []) (t := t) (z := t) h e rfl ⟨[], rfl⟩
    obtain ⟨m', q1, q2⟩ := hq.back t.beg T' g4.symm
    refine ⟨X.atom t, [], rfl, rfl, g1, g2, T', m', g3, ?_, q2⟩
    rw [q1.pr]
    rfl
  · obtain ⟨g1, g2, T', g3, g4⟩ := tok_part res (x := o :: (T ++ [c])) (y := T ++ [c]) (t := o) (z := c) h e rfl ⟨o :: T, rfl⟩
    obtain ⟨m', q1, q2⟩ := hq.back o.beg T' g4.symm
    refine ⟨_, M, rfl, rfl, g1, g2, T', m', g3, ?_, q2⟩
    rw [q1.pr]
    rfl
/-- Where the looking through a list stands: behind a token that ends at fr, before the nodes Mr at p. -/
def Lp (ts : List Tok) (f : List N) (c : Tok) (fr p : Nat) (Mr : List N) : Prop :=
  ∃ A p0 Tr B U V, ts = A ++ p0 :: (Tr ++ c :: B) ∧ fr = p0.fin ∧ Sq Tr Mr ∧ f = U ++ (Mr ++ V) ∧ U.length = p
theorem Lp.step {l : List UInt8} {ts : List Tok} {f : List N} {c : Tok} {fr p : Nat} {Mr : List N} (h : run res .idle l 0 = (ts, 0, 0)) (q : Lp ts f c fr p Mr) (hM : Mr ≠ []) :
    ∃ n, f.getD p n0 = n ∧ p < f.length ∧ fr ≤ n.beg ∧ n.beg ≤ n.fin ∧ n.fin ≤ c.beg ∧ 1 ≤ n.size ∧ n.size ≤ Mr.length ∧ run res .idle ((l.drop fr).take (n.beg - fr)) 0 = ([], 0, 0) ∧ ∃ Mr', Lp ts f c n.fin (p + n.size) Mr' ∧ Mr'.length + n.size = Mr.length := by
  obtain ⟨A, p0, Tr, B, U, V, e1, rfl, e3, e4, e5⟩ := q
  have hp : p < f.length := by
    rw [e4, ← e5]
    cases Mr with
    | nil => exact absurd rfl hM
    | cons x y => simp
  have hat : ∀ x r, Mr = x :: r → f.getD p n0 = x := by
    intro x r hx
    rw [e4, ← e5, hx]
    simp
  rcases e3.cuts with ⟨rfl, rfl⟩ | ⟨t, T, M, rfl, rfl, h1, h2, h3⟩ | ⟨o, c', T, M, T', M', rfl, rfl, h1, h2, h3, h4⟩
  · exact absurd rfl hM
  · have g := tok_gap res h (a := A) (t := p0) (s := t) (b := T ++ c :: B) e1
    have g2 := tok_le res h (a := A ++ [p0]) (t := t) (b := T) (s := c) (c := B) (by rw [e1]; simp)
    refine ⟨X.atom t, hat _ _ rfl, hp, g.1, Nat.le_of_lt g.2.1, g2, Nat.le_refl _, by simp [X.atom], g.2.2.2, M, ⟨A ++ [p0], t, T, B, U ++ [X.atom t], V, by rw [e1]; simp, rfl, h3, by rw [e4]; simp, by simp [e5, X.atom]⟩, rfl⟩
  · have g := tok_gap res h (a := A) (t := p0) (s := o) (b := T ++ c' :: (T' ++ c :: B)) (by rw [e1]; simp)
    have g2 := tok_le res h (a := A ++ p0 :: o :: T) (t := c') (b := T') (s := c) (c := B) (by rw [e1]; simp)
    have g3 := tok_le res h (a := A ++ [p0]) (t := o) (b := T) (s := c') (c := T' ++ c :: B) (by rw [e1]; simp)
    have g4 := (tok_at res h (a := A ++ p0 :: o :: T) (t := c') (b := T' ++ c :: B) (by rw [e1]; simp)).1
    have g5 := g.2.1
    refine ⟨_, hat _ _ rfl, hp, g.1, by show o.beg ≤ c'.fin; omega, g2, by show 1 ≤ M.length + 1; omega, by show M.length + 1 ≤ _; simp, g.2.2.2, M', ⟨A ++ p0 :: o :: T, c', T', B, U ++ (⟨1, o.beg, c'.fin, M.length + 1, []⟩ :: M), V, by rw [e1]; simp, rfl, h4, by rw [e4]; simp, by simp [e5]⟩, ?_⟩
    show M'.length + (M.length + 1) = _
    simp
    omega
theorem Lp.last {l : List UInt8} {ts : List Tok} {f : List N} {c : Tok} {fr p : Nat} (h : run res .idle l 0 = (ts, 0, 0)) (q : Lp ts f c fr p []) :
    fr ≤ c.beg ∧ run res .idle ((l.drop fr).take (c.beg - fr)) 0 = ([], 0, 0) := by
  obtain ⟨A, p0, Tr, B, U, V, e1, rfl, e3, e4, e5⟩ := q
  obtain rfl := e3.nil_of
  have g := tok_gap res h (a := A) (t := p0) (s := c) (b := B) e1
  exact ⟨g.1, g.2.2.2⟩
end Go.Proofs.YtjbalgjdcdmjjaaDoor.X
