/- Laid together of: CutMath, JoinedMath. -/
import Derived.Test.YtackibimlpkcmaaGreatDoorKz24
/- ==== CutMath ==== -/
namespace Go.Proofs.YtackibimlpkcmaaGreatDoor.X
open Go.Proofs.YtackibimlpkcmaaGreatDoor.S
set_option linter.unusedVariables false
/-- An outermost expression: its first node counts all its nodes; what is no list is one node. -/
def Blk (b : List N) : Prop := b ≠ [] ∧ (b.headD n0).size = b.length ∧ ((b.headD n0).kind ≠ 1 → b.length = 1)
/-- The blocks that are closed, and the list that is open behind them. -/
def Jb (ns : List N) (st : List Nat) (bs : List (List N)) : Prop :=
  (∀ b ∈ bs, Blk b) ∧ bs.flatten.length ≤ ns.length ∧ ns.take bs.flatten.length = bs.flatten ∧ (st = [] → ns.length = bs.flatten.length) ∧
  (st ≠ [] → st.getLastD 0 = bs.flatten.length) ∧ st.Pairwise (· > ·) ∧ (∀ g ∈ st, g < ns.length ∧ (ns.getD g n0).kind = 1)
theorem last_mem : ∀ (st : List Nat), st ≠ [] → st.getLastD 0 ∈ st
  | [], h => absurd rfl h
  | [g], _ => by simp [-List.length_flatten]
  | g :: k :: st, _ => by
    have := last_mem (k :: st) (by simp [-List.length_flatten])
    simp only [List.getLastD_cons] at this ⊢
    exact List.mem_cons_of_mem _ this
theorem last_least {st : List Nat} (h : st.Pairwise (· > ·)) : ∀ g ∈ st, st.getLastD 0 ≤ g := by
  intro g hg
  rcases List.eq_nil_or_concat st with rfl | ⟨ini, k, rfl⟩
  · simp [-List.length_flatten] at hg
  · rw [List.concat_eq_append] at *
    have hk : (ini ++ [k]).getLastD 0 = k := by simp [-List.length_flatten]
    rw [hk]
    rcases List.mem_append.1 hg with hg | hg
    · have := (List.pairwise_append.1 h).2.2 g hg k (by simp [-List.length_flatten])
      omega
    · simp [-List.length_flatten] at hg
      omega
theorem getD_app {a b : List N} {j : Nat} (h : j < a.length) : (a ++ b).getD j n0 = a.getD j n0 := by
  rw [List.getD_eq_getElem?_getD, List.getD_eq_getElem?_getD, List.getElem?_append_left h]
theorem jb_open {ns : List N} {st : List Nat} {bs : List (List N)} (t : Tok) (h : Jb ns st bs) : Jb (ns ++ [newL t]) (ns.length :: st) bs := by
  obtain ⟨h1, h2, h3, h4, h5, h6, h7⟩ := h
  refine ⟨h1, by simp [-List.length_flatten]; omega, by rw [List.take_append_of_le_length h2, h3], by simp [-List.length_flatten], ?_, ?_, ?_⟩
  · intro _
    by_cases hs : st = []
    · subst hs
      simp [-List.length_flatten, h4 rfl]
    · rw [List.getLastD_cons]
      cases st with
      | nil => exact absurd rfl hs
      | cons a st =>
        rw [← h5 hs, List.getLastD_cons, List.getLastD_cons]
  · exact List.Pairwise.cons (fun j hj => (h7 j hj).1) h6
  · intro g hg
    rcases List.mem_cons.1 hg with rfl | hg
    · refine ⟨by simp [-List.length_flatten], ?_⟩
      rw [getD_new]
      rfl
    · obtain ⟨a, b⟩ := h7 g hg
      exact ⟨by simp [-List.length_flatten]; omega, by rw [getD_app a]; exact b⟩
theorem jb_atom {ns : List N} {st : List Nat} {bs : List (List N)} (t : Tok) (h : Jb ns st bs) (hk : t.kind ≠ 1) : ∃ new, Jb (ns ++ [atom t]) st (bs ++ new) ∧ ∀ b ∈ new, (b.headD n0).kind ≠ 1 := by
  obtain ⟨h1, h2, h3, h4, h5, h6, h7⟩ := h
  have h7' : ∀ g ∈ st, g < (ns ++ [atom t]).length ∧ ((ns ++ [atom t]).getD g n0).kind = 1 := by
    intro g hg
    obtain ⟨a, b⟩ := h7 g hg
    exact ⟨by simp [-List.length_flatten]; omega, by rw [getD_app a]; exact b⟩
  by_cases hs : st = []
  · subst hs
    have hl := h4 rfl
    have hns : ns = bs.flatten := by rw [← h3, ← hl, List.take_length]
    refine ⟨[[atom t]], ⟨?_, ?_, ?_, ?_, by simp [-List.length_flatten], h6, h7'⟩, ?_⟩
    · intro b hb
      rcases List.mem_append.1 hb with hb | hb
      · exact h1 b hb
      · simp [-List.length_flatten] at hb
        subst hb
        exact ⟨by simp [-List.length_flatten], by simp [-List.length_flatten, atom], by simp [-List.length_flatten]⟩
    · rw [← List.concat_eq_append, ← List.concat_eq_append]
      simp [-List.length_flatten, hl]
    · subst hns
      rw [show (bs ++ [[atom t]]).flatten = bs.flatten ++ [atom t] from by simp, List.take_length]
    · subst hns
      simp [-List.length_flatten]
    · intro b hb
      simp [-List.length_flatten] at hb
      subst hb
      simpa [-List.length_flatten, atom] using hk
  · refine ⟨[], ⟨by simpa [-List.length_flatten] using h1, by simp [-List.length_flatten]; omega, ?_, fun e => absurd e hs, by simpa [-List.length_flatten] using h5, h6, h7'⟩, by simp [-List.length_flatten]⟩
    rw [List.append_nil, List.take_append_of_le_length h2, h3]
theorem drop_shut {ns : List N} {g f : Nat} (h : g < ns.length) : (shutL ns g f).drop g = ⟨(ns.getD g n0).kind, (ns.getD g n0).beg, f, ns.length - g, (ns.getD g n0).text⟩ :: ns.drop (g + 1) := by
  unfold shutL
  rw [List.drop_set]
  simp only [Nat.lt_irrefl, if_false, Nat.sub_self]
  rw [List.drop_eq_getElem_cons h]
  rfl
theorem take_shut (ns : List N) (g f k : Nat) (h : k ≤ g) : (shutL ns g f).take k = ns.take k := by
  unfold shutL
  rw [List.take_set]
  exact List.set_eq_of_length_le (by rw [List.length_take]; omega)
theorem jb_close {ns : List N} {st : List Nat} {g : Nat} {bs : List (List N)} (f : Nat) (h : Jb ns (g :: st) bs) : ∃ new, Jb (shutL ns g f) st (bs ++ new) ∧ ∀ b ∈ new, (b.headD n0).fin = f := by
  obtain ⟨h1, h2, h3, h4, h5, h6, h7⟩ := h
  obtain ⟨g1, g2⟩ := h7 g List.mem_cons_self
  obtain ⟨p1, p2⟩ := List.pairwise_cons.1 h6
  have hlen : (shutL ns g f).length = ns.length := by simp [-List.length_flatten, shutL]
  have h7' : ∀ k ∈ st, k < (shutL ns g f).length ∧ ((shutL ns g f).getD k n0).kind = 1 := by
    intro k hk
    obtain ⟨a, b⟩ := h7 k (List.mem_cons_of_mem _ hk)
    have : k < g := p1 k hk
    exact ⟨by omega, by unfold shutL; rw [getD_set_ne _ _ _ (by omega)]; exact b⟩
  by_cases hs : st = []
  · subst hs
    have hg : g = bs.flatten.length := by
      have := h5 (by simp [-List.length_flatten])
      simpa [-List.length_flatten] using this
    have hd := drop_shut (ns := ns) (g := g) (f := f) g1
    refine ⟨[(shutL ns g f).drop g], ⟨?_, ?_, ?_, ?_, by simp [-List.length_flatten], p2, h7'⟩, ?_⟩
    · intro b hb
      rcases List.mem_append.1 hb with hb | hb
      · exact h1 b hb
      · simp only [List.mem_singleton] at hb
        subst hb
        rw [hd]
        refine ⟨by simp [-List.length_flatten], ?_, ?_⟩
        · simp [-List.length_flatten]
          omega
        · intro e
          exact absurd g2 e
    · simp [-List.length_flatten, hlen]
      omega
    · have e : (bs ++ [(shutL ns g f).drop g]).flatten = bs.flatten ++ (shutL ns g f).drop g := by simp [-List.length_flatten]
      rw [e]
      have e2 : (bs.flatten ++ (shutL ns g f).drop g).length = (shutL ns g f).length := by
        rw [List.length_append, List.length_drop]
        omega
      rw [e2, List.take_length]
      conv => lhs; rw [← List.take_append_drop g (shutL ns g f)]
      rw [take_shut ns g f g (Nat.le_refl _), hg, h3]
    · intro _
      simp [-List.length_flatten, hlen]
      omega
    · intro b hb
      simp only [List.mem_singleton] at hb
      subst hb
      rw [hd]
      rfl
  · refine ⟨[], ⟨by simpa [-List.length_flatten] using h1, by simp [-List.length_flatten, hlen]; omega, ?_, fun e => absurd e hs, ?_, p2, h7'⟩, by simp [-List.length_flatten]⟩
    · have hle : bs.flatten.length ≤ g := by
        have a := h5 (by simp [-List.length_flatten])
        have b := last_least h6 g List.mem_cons_self
        omega
      rw [List.append_nil, take_shut ns g f _ hle, h3]
    · intro _
      have a := h5 (by simp [-List.length_flatten])
      cases st with
      | nil => exact absurd rfl hs
      | cons k st =>
        rw [List.append_nil, ← a, List.getLastD_cons, List.getLastD_cons, List.getLastD_cons]
/-- What the rest closes: blocks that are no lists, or lists whose closing parenthesis is in the rest. -/
theorem pr_blocks (P : Nat → Prop) : ∀ (r : List Tok) (ns : List N) (st : List Nat) (bs : List (List N)), Jb ns st bs → (∀ t ∈ r, t.kind = 2 → P t.fin) →
    (∃ ns' st' new, pr r ns st = .inl (ns', st') ∧ Jb ns' st' (bs ++ new) ∧ ∀ b ∈ new, (b.headD n0).kind = 1 → P (b.headD n0).fin) ∨
    (∃ ns' p new, pr r ns st = .inr (ns', p) ∧ Jb ns' [] (bs ++ new) ∧ ∀ b ∈ new, (b.headD n0).kind = 1 → P (b.headD n0).fin)
  | [], ns, st, bs, h, _ => .inl ⟨ns, st, [], rfl, by simpa [-List.length_flatten] using h, by simp [-List.length_flatten]⟩
  | t :: r, ns, st, bs, h, hP => by
    have hP' : ∀ t ∈ r, t.kind = 2 → P t.fin := fun t ht => hP t (List.mem_cons_of_mem _ ht)
    have glue : ∀ (ns1 : List N) (st1 : List Nat) (n1 : List (List N)), Jb ns1 st1 (bs ++ n1) → (∀ b ∈ n1, (b.headD n0).kind = 1 → P (b.headD n0).fin) →
      (∃ ns' st' new, pr r ns1 st1 = .inl (ns', st') ∧ Jb ns' st' (bs ++ new) ∧ ∀ b ∈ new, (b.headD n0).kind = 1 → P (b.headD n0).fin) ∨
      (∃ ns' p new, pr r ns1 st1 = .inr (ns', p) ∧ Jb ns' [] (bs ++ new) ∧ ∀ b ∈ new, (b.headD n0).kind = 1 → P (b.headD n0).fin) := by
      intro ns1 st1 n1 hj hn
      have all : ∀ n2 : List (List N), (∀ b ∈ n2, (b.headD n0).kind = 1 → P (b.headD n0).fin) → ∀ b ∈ n1 ++ n2, (b.headD n0).kind = 1 → P (b.headD n0).fin := by
        intro n2 h2 b hb
        rcases List.mem_append.1 hb with hb | hb
        · exact hn b hb
        · exact h2 b hb
      rcases pr_blocks P r ns1 st1 (bs ++ n1) hj hP' with ⟨ns', st', n2, e, j, q⟩ | ⟨ns', p, n2, e, j, q⟩
      · exact .inl ⟨ns', st', n1 ++ n2, e, by rw [← List.append_assoc]; exact j, all n2 q⟩
      · exact .inr ⟨ns', p, n1 ++ n2, e, by rw [← List.append_assoc]; exact j, all n2 q⟩
    unfold pr
    by_cases h1 : t.kind = 1
    · rw [if_pos h1]
      exact glue _ _ [] (by simpa [-List.length_flatten] using jb_open t h) (by simp [-List.length_flatten])
    · rw [if_neg h1]
      by_cases h2 : t.kind = 2
      · rw [if_pos h2]
        cases st with
        | nil => exact .inr ⟨ns, t.beg, [], rfl, by simpa [-List.length_flatten] using h, by simp [-List.length_flatten]⟩
        | cons g st' =>
          obtain ⟨new, j, q⟩ := jb_close t.fin h
          refine glue _ _ new j ?_
          intro b hb _
          rw [q b hb]
          exact hP t List.mem_cons_self h2
      · rw [if_neg h2]
        obtain ⟨new, j, q⟩ := jb_atom t h h1
        exact glue _ _ new j (fun b hb e => absurd e (q b hb))
theorem jb_zero : Jb [] [] [] := ⟨by simp [-List.length_flatten], by simp [-List.length_flatten], by simp [-List.length_flatten], by simp [-List.length_flatten], by simp [-List.length_flatten], List.Pairwise.nil, by simp [-List.length_flatten]⟩
theorem pr_cons (t : Tok) (r : List Tok) (ns : List N) (st : List Nat) : pr (t :: r) ns st = if t.kind = 1 then pr r (ns ++ [newL t]) (ns.length :: st) else if t.kind = 2 then
      match st with
      | [] => .inr (ns, t.beg)
      | g :: st' => pr r (shutL ns g t.fin) st'
    else pr r (ns ++ [atom t]) st := rfl
theorem pr_append : ∀ (a b : List Tok) (ns : List N) (st : List Nat), pr (a ++ b) ns st = match pr a ns st with
    | .inl (ns', st') => pr b ns' st'
    | .inr x => .inr x
  | [], b, ns, st => rfl
  | t :: a, b, ns, st => by
    rw [List.cons_append, pr_cons, pr_cons]
    by_cases h1 : t.kind = 1
    · rw [if_pos h1, if_pos h1]
      exact pr_append a b _ _
    · rw [if_neg h1, if_neg h1]
      by_cases h2 : t.kind = 2
      · rw [if_pos h2, if_pos h2]
        cases st with
        | nil => rfl
        | cons g st' => exact pr_append a b _ _
      · rw [if_neg h2, if_neg h2]
        exact pr_append a b _ _
theorem pr_len : ∀ (r : List Tok) (ns : List N) (st : List Nat), (∀ ns' st', pr r ns st = .inl (ns', st') → ns'.length ≤ ns.length + r.length) ∧ ∀ ns' b, pr r ns st = .inr (ns', b) → ns'.length ≤ ns.length + r.length
  | [], ns, st => by
    refine ⟨fun ns' st' e => ?_, fun ns' b e => ?_⟩
    · unfold pr at e
      simp only [Sum.inl.injEq, Prod.mk.injEq] at e
      rw [e.1]
      simp
    · unfold pr at e
      simp at e
  | t :: r, ns, st => by
    have glue : ∀ (ns1 : List N) (st1 : List Nat), ns1.length ≤ ns.length + 1 → (∀ ns' st', pr r ns1 st1 = .inl (ns', st') → ns'.length ≤ ns.length + (t :: r).length) ∧ ∀ ns' b, pr r ns1 st1 = .inr (ns', b) → ns'.length ≤ ns.length + (t :: r).length := by
      intro ns1 st1 h
      obtain ⟨h1, h2⟩ := pr_len r ns1 st1
      refine ⟨fun ns' st' e => ?_, fun ns' b e => ?_⟩
      · have := h1 ns' st' e
        rw [List.length_cons]
        omega
      · have := h2 ns' b e
        rw [List.length_cons]
        omega
    rw [pr_cons]
    by_cases h1 : t.kind = 1
    · rw [if_pos h1]
      exact glue _ _ (by simp)
    · rw [if_neg h1]
      by_cases h2 : t.kind = 2
      · rw [if_pos h2]
        cases st with
        | nil =>
          refine ⟨fun ns' st' e => by simp at e, fun ns' b e => ?_⟩
          simp only [Sum.inr.injEq, Prod.mk.injEq] at e
          rw [← e.1]
          omega
        | cons g st' => exact glue _ _ (by simp [shutL])
      · rw [if_neg h2]
        exact glue _ _ (by simp)
theorem out_len (l : List Tok) (e p : Nat) : (out l e p).1.length ≤ l.length := by
  obtain ⟨h1, h2⟩ := pr_len l [] []
  rw [List.length_nil, Nat.zero_add] at h1 h2
  unfold out
  rcases hq : pr l [] [] with ⟨ns, st⟩ | ⟨ns, b⟩
  · have := h1 ns st hq
    cases st with
    | nil => exact this
    | cons g st =>
      simp only
      rw [List.length_take]
      omega
  · exact h2 ns b hq
theorem out_inl {l : List Tok} {ns : List N} {st : List Nat} {bs : List (List N)} (e p : Nat) (h : pr l [] [] = .inl (ns, st)) (hj : Jb ns st bs) : (out l e p).1 = bs.flatten := by
  obtain ⟨h1, h2, h3, h4, h5, h6, h7⟩ := hj
  unfold out
  rw [h]
  cases st with
  | nil =>
    simp only
    rw [← h3, ← h4 rfl, List.take_length]
  | cons g st =>
    simp only
    rw [h5 (by simp [-List.length_flatten]), h3]
theorem out_inr {l : List Tok} {ns : List N} {b : Nat} {bs : List (List N)} (e p : Nat) (h : pr l [] [] = .inr (ns, b)) (hj : Jb ns [] bs) : (out l e p).1 = bs.flatten := by
  obtain ⟨h1, h2, h3, h4, h5, h6, h7⟩ := hj
  unfold out
  rw [h]
  simp only
  rw [← h3, ← h4 rfl, List.take_length]
/-- Behind the last list. -/
def endOf : List (List N) → Nat → Nat → Nat
  | [], _, e => e
  | b :: bs, i, e => endOf bs (i + b.length) (if (b.headD n0).kind = 1 then i + b.length else e)
theorem endOf_atoms : ∀ (bs : List (List N)) (i e : Nat), (∀ b ∈ bs, (b.headD n0).kind ≠ 1) → endOf bs i e = e
  | [], i, e, _ => rfl
  | b :: bs, i, e, h => by
    unfold endOf
    rw [if_neg (h b List.mem_cons_self)]
    exact endOf_atoms bs _ _ (fun b hb => h b (List.mem_cons_of_mem _ hb))
theorem endOf_cons (b : List N) (bs : List (List N)) (i e : Nat) : endOf (b :: bs) i e = endOf bs (i + b.length) (if (b.headD n0).kind = 1 then i + b.length else e) := rfl
theorem flat_cons (b : List N) (bs : List (List N)) : (b :: bs).flatten.length = b.length + bs.flatten.length := by rw [List.flatten_cons, List.length_append]
theorem endOf_append : ∀ (a b : List (List N)) (i e : Nat), endOf (a ++ b) i e = endOf b (i + a.flatten.length) (endOf a i e)
  | [], b, i, e => by rw [List.nil_append, List.flatten_nil]; rfl
  | x :: a, b, i, e => by
    rw [List.cons_append, endOf_cons, endOf_append a b, flat_cons, endOf_cons, Nat.add_assoc]
theorem endOf_le : ∀ (a : List (List N)) (i e : Nat), e ≤ i → endOf a i e ≤ i + a.flatten.length
  | [], i, e, h => by simpa [endOf] using h
  | x :: a, i, e, h => by
    have := endOf_le a (i + x.length) (if (x.headD n0).kind = 1 then i + x.length else e) (by split <;> omega)
    rw [endOf_cons, flat_cons]
    omega
theorem endOf_ge : ∀ (a : List (List N)) (i e : Nat), e ≤ i → e ≤ endOf a i e
  | [], i, e, h => Nat.le_refl _
  | x :: a, i, e, h => by
    have := endOf_ge a (i + x.length) (if (x.headD n0).kind = 1 then i + x.length else e) (by split <;> omega)
    rw [endOf_cons]
    by_cases h' : (x.headD n0).kind = 1
    · rw [if_pos h'] at this ⊢
      omega
    · rw [if_neg h'] at this ⊢
      exact this
/-- A list among blocks ends ahead of the end of the last one. -/
theorem endOf_list : ∀ (a b : List (List N)) (x : List N) (i e : Nat), e ≤ i → (x.headD n0).kind = 1 → i + a.flatten.length + x.length ≤ endOf (a ++ x :: b) i e
  | [], b, x, i, e, h, hk => by
    rw [List.nil_append, endOf_cons, if_pos hk]
    have := endOf_ge b (i + x.length) (i + x.length) (Nat.le_refl _)
    rw [List.flatten_nil, List.length_nil]
    omega
  | y :: a, b, x, i, e, h, hk => by
    have := endOf_list a b x (i + y.length) (if (y.headD n0).kind = 1 then i + y.length else e) (by split <;> omega) hk
    rw [List.cons_append, endOf_cons, flat_cons]
    omega
/-- The front of a text and the whole: blocks that both have, then atoms alone in the front, and in the whole lists that end behind the cut. -/
theorem cut_blocks (res : List UInt8 → Bool) (s : List UInt8) (n : Nat) (hn : n ≤ s.length) (e p e' p' : Nat) :
    ∃ bs f a : List (List N), (∀ b ∈ bs ++ f, Blk b) ∧ (∀ b ∈ bs ++ a, Blk b) ∧ (out (run res .idle (s.take n) 0).1 e' p').1 = (bs ++ f).flatten ∧ (out (run res .idle s 0).1 e p).1 = (bs ++ a).flatten ∧
      (∀ b ∈ f, (b.headD n0).kind ≠ 1) ∧ (∀ b ∈ a, (b.headD n0).kind = 1 → n < (b.headD n0).fin) := by
  obtain ⟨R, h1, h2, h3⟩ := feed_certain res s n hn
  obtain ⟨S, k1, k2⟩ : ∃ S, (run res .idle (s.take n) 0).1 = (feed res .idle (s.take n) 0).1 ++ S ∧ ∀ t ∈ S, t.kind ≠ 1 ∧ t.kind ≠ 2 := by
    have ha := run_append res [] (s.take n) .idle 0
    rw [List.append_nil] at ha
    obtain ⟨g1, g2⟩ := feed_fits res s (s.take n) (s.drop n) .idle 0 (by simp [-List.length_flatten]) trivial
    rcases hq : (feed res .idle (s.take n) 0).2 with q' | ⟨e, p⟩
    · rw [hq] at ha
      simp only at ha
      refine ⟨(stop res q' (0 + (s.take n).length)).1, by rw [ha]; rfl, ?_⟩
      intro t ht
      have := (stop_fits res s q' _ (g2 q' hq) t ht).2
      exact ⟨fun e => this (.inl e), fun e => this (.inr (.inl e))⟩
    · rw [hq] at ha
      exact ⟨[], by rw [ha, List.append_nil], by simp [-List.length_flatten]⟩
  have hR : ∀ t ∈ R, t.kind = 2 → n < t.fin := by
    intro t ht hk
    rcases h3 t ht with h | h
    · exact h
    · exact absurd (.inr (.inl hk)) h.2
  rw [h1, k1]
  generalize (feed res .idle (s.take n) 0).1 = C at *
  rcases pr_blocks (fun _ => True) C [] [] [] jb_zero (fun _ _ _ => trivial) with ⟨ns, st, bs, e1, j, _⟩ | ⟨ns, q, bs, e1, j, _⟩
  · rw [List.nil_append] at j
    have hf : ∃ f, (∀ b ∈ bs ++ f, Blk b) ∧ (out (C ++ S) e' p').1 = (bs ++ f).flatten ∧ ∀ b ∈ f, (b.headD n0).kind ≠ 1 := by
      have ea := pr_append C S [] []
      rw [e1] at ea
      simp only at ea
      rcases pr_blocks (fun _ => False) S ns st bs j (fun t ht e => absurd e (k2 t ht).2) with ⟨ns', st', f, e2, j2, q2⟩ | ⟨ns', q, f, e2, j2, q2⟩
      · rw [e2] at ea
        exact ⟨f, j2.1, out_inl e' p' ea j2, q2⟩
      · rw [e2] at ea
        exact ⟨f, j2.1, out_inr e' p' ea j2, q2⟩
    have hA : ∃ a, (∀ b ∈ bs ++ a, Blk b) ∧ (out (C ++ R) e p).1 = (bs ++ a).flatten ∧ ∀ b ∈ a, (b.headD n0).kind = 1 → n < (b.headD n0).fin := by
      have ea := pr_append C R [] []
      rw [e1] at ea
      simp only at ea
      rcases pr_blocks (fun z => n < z) R ns st bs j hR with ⟨ns', st', f, e2, j2, q2⟩ | ⟨ns', q, f, e2, j2, q2⟩
      · rw [e2] at ea
        exact ⟨f, j2.1, out_inl e p ea j2, q2⟩
      · rw [e2] at ea
        exact ⟨f, j2.1, out_inr e p ea j2, q2⟩
    obtain ⟨f, f1, f2, f3⟩ := hf
    obtain ⟨a, a1, a2, a3⟩ := hA
    exact ⟨bs, f, a, f1, a1, f2, a2, f3, a3⟩
  · rw [List.nil_append] at j
    have e3 : ∀ x, pr (C ++ x) [] [] = .inr (ns, q) := by
      intro x
      rw [pr_append C x [] [], e1]
    exact ⟨bs, [], [], by simpa [-List.length_flatten] using j.1, by simpa [-List.length_flatten] using j.1, by simpa [-List.length_flatten] using out_inr e' p' (e3 S) j, by simpa [-List.length_flatten] using out_inr e p (e3 R) j, by simp [-List.length_flatten], by simp [-List.length_flatten]⟩
/-- Where a block begins. -/
theorem starts {bs : List (List N)} {k : Nat} (hk : k < bs.length) (hB : ∀ b ∈ bs, Blk b) :
    (bs.take k).flatten.length < bs.flatten.length ∧ bs.flatten.getD (bs.take k).flatten.length n0 = (bs.getD k []).headD n0 ∧ ((bs.getD k []).headD n0).size = (bs.getD k []).length ∧ 0 < (bs.getD k []).length ∧ (bs.take (k + 1)).flatten.length = (bs.take k).flatten.length + (bs.getD k []).length ∧ (bs.take (k + 1)).flatten.length ≤ bs.flatten.length := by
  obtain ⟨x, hx⟩ : ∃ x, bs[k] = x := ⟨_, rfl⟩
  have hb := hB _ (List.getElem_mem hk)
  rw [hx] at hb
  have hg : bs.getD k [] = x := by rw [List.getD_eq_getElem?_getD, List.getElem?_eq_getElem hk, hx]; rfl
  have e : bs.flatten = (bs.take k).flatten ++ (x ++ (bs.drop (k + 1)).flatten) := by
    conv => lhs; rw [← List.take_append_drop k bs, List.drop_eq_getElem_cons hk, hx]
    simp [-List.length_flatten]
  have e1 : (bs.take (k + 1)).flatten.length = (bs.take k).flatten.length + x.length := by
    rw [List.take_succ_eq_append_getElem hk, hx]
    simp [-List.length_flatten]
  have hp : 0 < x.length := List.length_pos_iff.2 hb.1
  rw [hg]
  have el := congrArg List.length e
  rw [List.length_append, List.length_append] at el
  refine ⟨by omega, ?_, hb.2.1, hp, e1, by omega⟩
  conv => lhs; arg 1; rw [e]
  rw [List.getD_eq_getElem?_getD, List.getElem?_append_right (Nat.le_refl _), Nat.sub_self]
  cases x with
  | nil => exact absurd rfl hb.1
  | cons y ys => rfl
theorem endOf_take {bs : List (List N)} {k : Nat} (hk : k < bs.length) : endOf (bs.take (k + 1)) 0 0 = if ((bs.getD k []).headD n0).kind = 1 then (bs.take k).flatten.length + (bs.getD k []).length else endOf (bs.take k) 0 0 := by
  have hg : bs.getD k [] = bs[k] := by rw [List.getD_eq_getElem?_getD, List.getElem?_eq_getElem hk]; rfl
  rw [List.take_succ_eq_append_getElem hk, endOf_append, hg]
  rw [endOf_cons, Nat.zero_add]
  rfl
/-- What TopCut looks at behind the end: no list that stands outermost ends within the front. -/
theorem cut_behind {bs a : List (List N)} {n k : Nat} (hA : ∀ b ∈ a, (b.headD n0).kind = 1 → n < (b.headD n0).fin) (hk : k < (bs ++ a).length)
    (he : endOf bs 0 0 ≤ ((bs ++ a).take k).flatten.length) (h1 : (((bs ++ a).getD k []).headD n0).kind = 1) (hB : ∀ b ∈ bs ++ a, Blk b) : n < (((bs ++ a).getD k []).headD n0).fin := by
  have hg : (bs ++ a).getD k [] = (bs ++ a)[k] := by rw [List.getD_eq_getElem?_getD, List.getElem?_eq_getElem hk]; rfl
  rw [hg] at h1 ⊢
  by_cases hkb : k < bs.length
  · exfalso
    have hx : (bs ++ a)[k] = bs[k] := List.getElem_append_left hkb
    rw [hx] at h1
    have h2 := endOf_list (bs.take k) (bs.drop (k + 1)) bs[k] 0 0 (Nat.le_refl _) h1
    rw [← List.drop_eq_getElem_cons hkb, List.take_append_drop] at h2
    rw [List.take_append_of_le_length (by omega)] at he
    have := hB bs[k] (List.mem_append_left _ (List.getElem_mem hkb))
    have := List.length_pos_iff.2 this.1
    omega
  · have hx : (bs ++ a)[k] = a[k - bs.length]'(by rw [List.length_append] at hk; omega) := List.getElem_append_right (by omega)
    rw [hx] at h1 ⊢
    exact hA _ (List.getElem_mem _) h1
end Go.Proofs.YtackibimlpkcmaaGreatDoor.X
/- ==== JoinedMath ==== -/
namespace Go.Proofs.YtackibimlpkcmaaGreatDoor.S
set_option linter.unusedVariables false
section
variable (res : List UInt8 → Bool)
def Res.ten : Res → Prop
  | .inl _ => True
  | .inr (_, e, _) => 10 ≤ e ∧ e ≤ 17
theorem ten_pre (ts : List Tok) (r : Res) (h : r.ten) : (r.pre ts).ten := by
  rcases r with ⟨a, q⟩ | ⟨a, e, p⟩
  · trivial
  · exact h
theorem stepIdle_ten (b : UInt8) (i : Nat) : (stepIdle b i).ten := by
  unfold stepIdle
  repeat' split
  all_goals simp [Res.ten]
theorem behindNumber_ten (k g : Nat) (a : List UInt8) (b : UInt8) (i : Nat) : (behindNumber res k g a b i).ten := by
  unfold behindNumber
  split
  · simp [Res.ten]
  · exact ten_pre _ _ (stepIdle_ten b i)
theorem stepZero_ten (g : Nat) (a : List UInt8) (b : UInt8) (i : Nat) : (stepZero res g a b i).ten := by
  unfold stepZero
  split
  · trivial
  · exact behindNumber_ten res _ _ _ _ _
theorem content_ten (c : Cont) (b : UInt8) (i : Nat) : (content c b i).ten := by
  unfold content
  repeat' split
  all_goals simp [Res.ten]
theorem step_ten (q : St) (b : UInt8) (i : Nat) : (step res q b i).ten := by
  rcases q with _ | ⟨k, g, a⟩ | g | ⟨g, a⟩ | ⟨g, a⟩ | g | ⟨k, m, g, a⟩ | ⟨k, m, g, a⟩ | ⟨g, a⟩ | c | ⟨c, s, n, lo, hi⟩
  · exact stepIdle_ten b i
  · show Res.ten (if _ then _ else _)
    split
    · trivial
    · exact ten_pre _ _ (stepIdle_ten b i)
  · show Res.ten (if _ then _ else _)
    split <;> simp [Res.ten]
  · show Res.ten (if _ then _ else _)
    split
    · trivial
    · exact stepZero_ten res _ _ _ _
  · exact stepZero_ten res _ _ _ _
  · show Res.ten (if _ then _ else if _ then _ else _)
    repeat' split
    all_goals simp [Res.ten]
  · show Res.ten (if _ then _ else _)
    split <;> simp [Res.ten]
  · show Res.ten (if _ then _ else _)
    split
    · trivial
    · exact behindNumber_ten res _ _ _ _ _
  · show Res.ten (if _ then _ else _)
    split
    · trivial
    · exact ten_pre _ _ (stepIdle_ten b i)
  · rcases c with _ | ⟨g, a⟩ | ⟨g, a⟩
    · show Res.ten (if _ then _ else _)
      split
      · trivial
      · exact content_ten _ _ _
    · show Res.ten (if _ then _ else _)
      split
      · trivial
      · exact content_ten _ _ _
    · show Res.ten (if _ then _ else if _ then _ else _)
      repeat' split
      · trivial
      · simp [Res.ten]
      · exact content_ten _ _ _
  · show Res.ten (if _ then _ else if _ then _ else _)
    repeat' split
    all_goals simp [Res.ten]
theorem stop_ten (q : St) (i : Nat) : (stop res q i).2.1 = 0 ∨ (10 ≤ (stop res q i).2.1 ∧ (stop res q i).2.1 ≤ 17) := by
  rcases q with _ | ⟨k, g, a⟩ | g | ⟨g, a⟩ | ⟨g, a⟩ | g | ⟨k, m, g, a⟩ | ⟨k, m, g, a⟩ | ⟨g, a⟩ | (_ | ⟨g, a⟩ | ⟨g, a⟩) | ⟨c, s, k, lo, hi⟩ <;> first | exact .inl rfl | (right; simp [stop])
theorem run_ten : ∀ (l : List UInt8) (q : St) (i : Nat), (run res q l i).2.1 = 0 ∨ (10 ≤ (run res q l i).2.1 ∧ (run res q l i).2.1 ≤ 17)
  | [], q, i => stop_ten res q i
  | b :: t, q, i => by
    have hg := step_ten res q b i
    rcases hs : step res q b i with ⟨ts, q'⟩ | ⟨ts, e, p⟩
    · rw [run_go res hs]
      exact run_ten t q' (i + 1)
    · rw [run_err res hs]
      rw [hs] at hg
      exact .inr hg
theorem stop_nil (q : St) (i : Nat) (h : (stop res q i).2.1 ≠ 0) : (stop res q i).1 = [] := by
  rcases q with _ | ⟨k, g, a⟩ | g | ⟨g, a⟩ | ⟨g, a⟩ | g | ⟨k, m, g, a⟩ | ⟨k, m, g, a⟩ | ⟨g, a⟩ | (_ | ⟨g, a⟩ | ⟨g, a⟩) | ⟨c, s, k, lo, hi⟩ <;> first | rfl | exact absurd rfl h
/-- The tokens ahead of an error are told, whatever comes behind. -/
theorem run_pref (x : List UInt8) : ∀ (l : List UInt8) (q : St) (i : Nat), (run res q l i).2.1 ≠ 0 → ∃ r, (run res q (l ++ x) i).1 = (run res q l i).1 ++ r
  | [], q, i, h => ⟨_, by rw [show (run res q [] i).1 = [] from stop_nil res q i h]; rfl⟩
  | b :: t, q, i, h => by
    rcases hs : step res q b i with ⟨ts, q'⟩ | ⟨ts, e, p⟩
    · rw [run_go res hs] at h
      obtain ⟨r, hr⟩ := run_pref x t q' (i + 1) h
      refine ⟨r, ?_⟩
      rw [List.cons_append, run_go res hs, run_go res hs]
      show ts ++ _ = ts ++ _ ++ r
      rw [hr, List.append_assoc]
    · refine ⟨[], ?_⟩
      rw [List.cons_append, run_err res hs, run_err res hs, List.append_nil]
end
end Go.Proofs.YtackibimlpkcmaaGreatDoor.S
namespace Go.Proofs.YtackibimlpkcmaaGreatDoor.X
open Go.Proofs.YtackibimlpkcmaaGreatDoor.S
set_option linter.unusedVariables false
/-- A node's places moved by d; a list that is not closed has no end yet. -/
def mvN (d : Nat) (n : N) : N := ⟨n.kind, n.beg + d, n.fin + d, n.size, n.text⟩
def swN (d : Nat) (n : N) : N := if n.size = 0 then ⟨n.kind, n.beg + d, n.fin, n.size, n.text⟩ else mvN d n
theorem swN_beg (d : Nat) (n : N) : (swN d n).beg = n.beg + d := by unfold swN; split <;> rfl
theorem swN_kind (d : Nat) (n : N) : (swN d n).kind = n.kind := by unfold swN; split <;> rfl
theorem swN_text (d : Nat) (n : N) : (swN d n).text = n.text := by unfold swN; split <;> rfl
theorem map_getD {α : Type} (f : α → α) (l : List α) (j : Nat) (x : α) (h : j < l.length) : (l.map f).getD j x = f (l.getD j x) := by
  rw [List.getD_eq_getElem?_getD, List.getD_eq_getElem?_getD, List.getElem?_map, List.getElem?_eq_getElem h]
  rfl
theorem getD_right {α : Type} (a b : List α) (j : Nat) (x : α) : (a ++ b).getD (a.length + j) x = b.getD j x := by
  rw [List.getD_eq_getElem?_getD, List.getD_eq_getElem?_getD, List.getElem?_append_right (by omega), Nat.add_sub_cancel_left]
/-- The machine behind closed nodes f, its tokens moved by d. -/
theorem pr_move (f : List N) (d : Nat) : ∀ (r : List Tok) (ns : List N) (st : List Nat), (∀ g ∈ st, g < ns.length) →
    pr (r.map (shT d)) (f ++ ns.map (swN d)) (st.map (f.length + ·)) = match pr r ns st with
      | .inl (ns', st') => .inl (f ++ ns'.map (swN d), st'.map (f.length + ·))
      | .inr (ns', b) => .inr (f ++ ns'.map (swN d), b + d)
  | [], ns, st, h => rfl
  | t :: r, ns, st, h => by
    rw [List.map_cons, pr_cons, pr_cons]
    have hk : (shT d t).kind = t.kind := rfl
    rw [hk]
    by_cases h1 : t.kind = 1
    · rw [if_pos h1, if_pos h1]
      have := pr_move f d r (ns ++ [newL t]) (ns.length :: st) (by
        intro g hg
        rw [List.length_append, List.length_cons, List.length_nil]
        rcases List.mem_cons.1 hg with rfl | hg
        · omega
        · have := h g hg; omega)
      rw [← this]
      congr 1
      · rw [List.map_append, ← List.append_assoc]
        rfl
      · rw [List.map_cons, List.length_append, List.length_map]
    · rw [if_neg h1, if_neg h1]
      by_cases h2 : t.kind = 2
      · rw [if_pos h2, if_pos h2]
        cases st with
        | nil => rfl
        | cons g st' =>
          have hg := h g List.mem_cons_self
          have := pr_move f d r (shutL ns g t.fin) st' (by
            intro k hk
            unfold shutL
            rw [List.length_set]
            exact h k (List.mem_cons_of_mem _ hk))
          rw [List.map_cons]
          show pr _ (shutL (f ++ ns.map (swN d)) (f.length + g) (t.fin + d)) _ = _
          rw [← this]
          congr 1
          unfold shutL
          rw [getD_right, map_getD _ _ _ _ hg, List.set_append_right _ _ (by omega), Nat.add_sub_cancel_left, List.length_append, List.length_map, List.map_set]
          congr 2
          rw [swN_kind, swN_beg, swN_text, show f.length + ns.length - (f.length + g) = ns.length - g by omega]
          unfold swN
          rw [if_neg (by simp only; omega)]
          rfl
      · rw [if_neg h2, if_neg h2]
        have := pr_move f d r (ns ++ [atom t]) st (by intro g hg; rw [List.length_append]; have := h g hg; omega)
        rw [← this]
        congr 1
        rw [List.map_append, ← List.append_assoc]
        rfl
/-- Only lists that are open have no size. -/
def Shut (ns : List N) (st : List Nat) : Prop := ∀ j, j < ns.length → (ns.getD j n0).size = 0 → j ∈ st
theorem pr_shut : ∀ (r : List Tok) (ns : List N) (st : List Nat), (∀ g ∈ st, g < ns.length) → Shut ns st →
    (∀ ns' st', pr r ns st = .inl (ns', st') → Shut ns' st') ∧ ∀ ns' b, pr r ns st = .inr (ns', b) → Shut ns' []
  | [], ns, st, hg, h => ⟨fun ns' st' e => (by cases e; exact h), fun ns' b e => (by cases e)⟩
  | t :: r, ns, st, hg, h => by
    rw [pr_cons]
    by_cases h1 : t.kind = 1
    · rw [if_pos h1]
      refine pr_shut r _ _ (fun g hg' => ?_) (fun j hj hz => ?_)
      · rw [List.length_append, List.length_cons, List.length_nil]
        rcases List.mem_cons.1 hg' with rfl | hg'
        · omega
        · have := hg g hg'; omega
      · rw [List.length_append, List.length_cons, List.length_nil] at hj
        by_cases e : j = ns.length
        · subst e; exact List.mem_cons_self
        · rw [getD_old _ _ _ (by omega)] at hz
          exact List.mem_cons_of_mem _ (h j (by omega) hz)
    · rw [if_neg h1]
      by_cases h2 : t.kind = 2
      · rw [if_pos h2]
        cases st with
        | nil => exact ⟨fun ns' st' e => (by cases e), fun ns' b e => (by cases e; exact h)⟩
        | cons g st' =>
          have hgl := hg g List.mem_cons_self
          refine pr_shut r _ _ (fun k hk => ?_) (fun j hj hz => ?_)
          · unfold shutL
            rw [List.length_set]
            exact hg k (List.mem_cons_of_mem _ hk)
          · unfold shutL at hj hz
            rw [List.length_set] at hj
            by_cases e : g = j
            · subst e
              rw [getD_set _ _ _ hgl] at hz
              simp only at hz
              omega
            · rw [getD_set_ne _ _ _ e] at hz
              rcases List.mem_cons.1 (h j hj hz) with rfl | hm
              · exact absurd rfl e
              · exact hm
      · rw [if_neg h2]
        refine pr_shut r _ _ (fun g hg' => ?_) (fun j hj hz => ?_)
        · rw [List.length_append]
          have := hg g hg'; omega
        · rw [List.length_append, List.length_cons, List.length_nil] at hj
          by_cases e : j = ns.length
          · subst e
            rw [getD_new] at hz
            cases hz
          · rw [getD_old _ _ _ (by omega)] at hz
            exact h j (by omega) hz
theorem map_sw {d : Nat} {ns : List N} (h : ∀ j, j < ns.length → (ns.getD j n0).size ≠ 0) : ns.map (swN d) = ns.map (mvN d) := by
  apply List.map_congr_left
  intro x hx
  obtain ⟨j, hj, rfl⟩ := List.mem_iff_getElem.1 hx
  have := h j hj
  rw [List.getD_eq_getElem?_getD, List.getElem?_eq_getElem hj] at this
  have this : ns[j].size ≠ 0 := this
  unfold swN
  rw [if_neg this]
theorem last_map (c : Nat) : ∀ (st : List Nat) (x : Nat), (st.map (c + ·)).getLastD (c + x) = c + st.getLastD x
  | [], x => rfl
  | a :: st, x => by
    rw [List.map_cons, List.getLastD_cons, List.getLastD_cons]
    exact last_map c st a
/-- What is told has no list that is open. -/
theorem out_shut (l : List Tok) (e p : Nat) : ∀ j, j < (out l e p).1.length → ((out l e p).1.getD j n0).size ≠ 0 := by
  have hs := pr_shut l [] [] (by simp) (by intro j hj; simp at hj)
  have hb := pr_blocks (fun _ => True) l [] [] [] jb_zero (fun _ _ _ => trivial)
  unfold out
  rcases hp : pr l [] [] with ⟨ns, st⟩ | ⟨ns, b⟩
  · have h1 := hs.1 ns st hp
    cases st with
    | nil => intro j hj hz; exact absurd (h1 j hj hz) (by simp)
    | cons g st =>
      intro j hj hz
      simp only at hj hz
      rw [List.length_take] at hj
      rw [List.getD_eq_getElem?_getD, List.getElem?_take_of_lt (by omega), ← List.getD_eq_getElem?_getD] at hz
      have hm := h1 j (by omega) hz
      rcases hb with ⟨ns', st', new, e1, hj', _⟩ | ⟨ns', p', new, e1, hj', _⟩
      · rw [hp] at e1
        cases e1
        have := last_least hj'.2.2.2.2.2.1 j hm
        omega
      · rw [hp] at e1
        cases e1
  · intro j hj hz
    exact absurd (hs.2 ns b hp j hj hz) (by simp)
/-- Two texts, a line's end between. -/
theorem out_joined (ta tb : List Tok) (eb pb d : Nat) (f : List N) (hf : pr ta [] [] = .inl (f, [])) (hp : eb = 0 → pb = 0) :
    out (ta ++ tb.map (shT d)) eb (if eb = 0 then pb else pb + d) =
      (f ++ (out tb eb pb).1.map (mvN d), (out tb eb pb).2.1, if (out tb eb pb).2.1 = 0 then 0 else (out tb eb pb).2.2 + d) := by
  have hm := pr_move f d tb [] [] (by simp)
  have hsh := out_shut tb eb pb
  have hblk := pr_blocks (fun _ => True) tb [] [] [] jb_zero (fun _ _ _ => trivial)
  have hap := pr_append ta (tb.map (shT d)) [] []
  rw [hf] at hap
  simp only at hap
  simp only [List.map_nil, List.append_nil] at hm
  rw [hm] at hap
  rw [← map_sw hsh]
  unfold out at hsh ⊢
  rw [hap]
  rcases hq : pr tb [] [] with ⟨ns, st⟩ | ⟨ns, b⟩
  · cases st with
    | nil =>
      simp only [List.map_nil]
      by_cases he : eb = 0
      · rw [if_pos he, if_pos he, hp he]
      · rw [if_neg he, if_neg he]
    | cons g st =>
      have hlt : (g :: st).getLastD 0 < ns.length := by
        rcases hblk with ⟨ns', st', new, e1, hj', _⟩ | ⟨ns', p', new, e1, hj', _⟩
        · rw [hq] at e1
          cases e1
          exact (hj'.2.2.2.2.2.2 _ (last_mem (g :: st) (by simp))).1
        · rw [hq] at e1
          cases e1
      have hl : ((g :: st).map (f.length + ·)).getLastD 0 = f.length + (g :: st).getLastD 0 := by
        rw [List.map_cons, List.getLastD_cons, List.getLastD_cons]
        exact last_map f.length st g
      simp only [List.map_cons] at hl ⊢
      rw [hl, List.take_append, List.take_of_length_le (show f.length ≤ _ by omega), Nat.add_sub_cancel_left, List.map_take, getD_right, map_getD _ _ _ _ hlt, swN_beg]
      by_cases he : eb = 0
      · rw [if_pos he, if_pos he, if_pos he]
        rfl
      · simp only [if_neg he]
  · rfl
/-- Its places are at most M. -/
def Bd (M : Nat) (n : N) : Prop := n.beg ≤ M ∧ n.fin ≤ M
theorem getD_bd {M : Nat} {ns : List N} (h : ∀ n ∈ ns, Bd M n) (g : Nat) : Bd M (ns.getD g n0) := by
  rw [List.getD_eq_getElem?_getD]
  cases e : ns[g]? with
  | none => exact ⟨Nat.zero_le _, Nat.zero_le _⟩
  | some x => exact h x (List.mem_of_getElem? e)
theorem pr_bd (M : Nat) : ∀ (r : List Tok) (ns : List N) (st : List Nat), (∀ t ∈ r, t.beg ≤ M ∧ t.fin ≤ M) → (∀ n ∈ ns, Bd M n) →
    (∀ ns' st', pr r ns st = .inl (ns', st') → ∀ n ∈ ns', Bd M n) ∧ ∀ ns' b, pr r ns st = .inr (ns', b) → (∀ n ∈ ns', Bd M n) ∧ b ≤ M
  | [], ns, st, ht, h => ⟨fun ns' st' e => (by cases e; exact h), fun ns' b e => (by cases e)⟩
  | t :: r, ns, st, ht, h => by
    have h0 := ht t List.mem_cons_self
    have hr : ∀ t ∈ r, t.beg ≤ M ∧ t.fin ≤ M := fun x hx => ht x (List.mem_cons_of_mem _ hx)
    rw [pr_cons]
    by_cases h1 : t.kind = 1
    · rw [if_pos h1]
      refine pr_bd M r _ _ hr (fun n hn => ?_)
      rcases List.mem_append.1 hn with hn | hn
      · exact h n hn
      · rw [List.mem_singleton.1 hn]; exact ⟨h0.1, Nat.zero_le _⟩
    · rw [if_neg h1]
      by_cases h2 : t.kind = 2
      · rw [if_pos h2]
        cases st with
        | nil => exact ⟨fun ns' st' e => (by cases e), fun ns' b e => (by cases e; exact ⟨h, h0.1⟩)⟩
        | cons g st' =>
          refine pr_bd M r _ _ hr (fun n hn => ?_)
          unfold shutL at hn
          rcases List.mem_or_eq_of_mem_set hn with hn | rfl
          · exact h n hn
          · exact ⟨(getD_bd h g).1, h0.2⟩
      · rw [if_neg h2]
        refine pr_bd M r _ _ hr (fun n hn => ?_)
        rcases List.mem_append.1 hn with hn | hn
        · exact h n hn
        · rw [List.mem_singleton.1 hn]; exact h0
theorem out_bd (M : Nat) (l : List Tok) (e p : Nat) (ht : ∀ t ∈ l, t.beg ≤ M ∧ t.fin ≤ M) (hp : p ≤ M) : (∀ n ∈ (out l e p).1, Bd M n) ∧ (out l e p).2.2 ≤ M := by
  have hb := pr_bd M l [] [] ht (by simp)
  unfold out
  rcases hq : pr l [] [] with ⟨ns, st⟩ | ⟨ns, b⟩
  · have h1 := hb.1 ns st hq
    cases st with
    | nil => exact ⟨h1, hp⟩
    | cons g st =>
      refine ⟨fun n hn => h1 n (List.mem_of_mem_take hn), ?_⟩
      simp only
      split
      · exact (getD_bd h1 _).1
      · exact hp
  · exact hb.2 ns b hq
/-- The error of a reading. -/
theorem out_err (l : List Tok) (e p : Nat) (he : e = 0 ∨ (10 ≤ e ∧ e ≤ 17)) : ((out l e p).2.1 = 20 → ∃ ns b, pr l [] [] = .inr (ns, b) ∧ out l e p = (ns, 20, b)) ∧ ((out l e p).2.1 = 0 → e = 0 ∧ ∃ ns, pr l [] [] = .inl (ns, []) ∧ out l e p = (ns, e, p)) := by
  unfold out
  rcases hq : pr l [] [] with ⟨ns, st⟩ | ⟨ns, b⟩
  · cases st with
    | nil =>
      refine ⟨fun h => ?_, fun h => ⟨h, ns, rfl, rfl⟩⟩
      simp only at h
      omega
    | cons g st =>
      refine ⟨fun h => ?_, fun h => ?_⟩ <;> (simp only at h; split at h <;> omega)
  · exact ⟨fun _ => ⟨ns, b, rfl, rfl⟩, fun h => by simp only at h; omega⟩
/-- A closing parenthesis too many stays the first error. -/
theorem out_close {l r : List Tok} {ns : List N} {b : Nat} (h : pr l [] [] = .inr (ns, b)) (e p : Nat) : out (l ++ r) e p = (ns, 20, b) := by
  unfold out
  rw [pr_append, h]
end Go.Proofs.YtackibimlpkcmaaGreatDoor.X
