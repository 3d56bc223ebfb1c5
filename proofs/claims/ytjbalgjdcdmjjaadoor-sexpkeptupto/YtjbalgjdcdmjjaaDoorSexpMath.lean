/-
  Expressions out of tokens, in plain words: the program's way (a stack of open lists, a flat list of nodes that are filled in where a list is closed: pr, out) and the document's (each parenthesis' partner first: cl; then node after node: nds, dout); out_doc: both tell the same (SexpReads' heart).
-/
import Derived.Test.YtjbalgjdcdmjjaaDoorScanModel
namespace Go.Proofs.YtjbalgjdcdmjjaaDoor.X
open Go.Proofs.YtjbalgjdcdmjjaaDoor.S
set_option linter.unusedVariables false
structure N where
  kind : Nat
  beg : Nat
  fin : Nat
  size : Nat
  text : List UInt8
abbrev t0 : Tok := ⟨0, 0, 0, []⟩
abbrev n0 : N := ⟨0, 0, 0, 0, []⟩
def atom (t : Tok) : N := ⟨t.kind, t.beg, t.fin, 1, t.text⟩
def newL (t : Tok) : N := ⟨1, t.beg, 0, 0, []⟩
/-- A list is closed. -/
def shutL (ns : List N) (g fin : Nat) : List N := ns.set g ⟨(ns.getD g n0).kind, (ns.getD g n0).beg, fin, ns.length - g, (ns.getD g n0).text⟩
/-- The program's way; the stack's top first. -/
def pr : List Tok → List N → List Nat → (List N × List Nat) ⊕ (List N × Nat)
  | [], ns, st => .inl (ns, st)
  | t :: r, ns, st =>
    if t.kind = 1 then pr r (ns ++ [newL t]) (ns.length :: st)
    else if t.kind = 2 then
      match st with
      | [] => .inr (ns, t.beg)
      | g :: st' => pr r (shutL ns g t.fin) st'
    else pr r (ns ++ [atom t]) st
def out (l : List Tok) (e p : Nat) : List N × Nat × Nat :=
  match pr l [] [] with
  | .inr (ns, b) => (ns, 20, b)
  | .inl (ns, []) => (ns, e, p)
  | .inl (ns, g :: st) => (ns.take ((g :: st).getLastD 0), if e = 0 then 21 else e, if e = 0 then (ns.getD ((g :: st).getLastD 0) n0).beg else p)
/-- The document's way: of each token the place of its partner, -1: none yet; the open ones, the last first. -/
def cl : List Tok → Nat → List Int → List Nat → (List Int × List Nat) ⊕ (List Int × Nat)
  | [], i, to, op => .inl (to, op)
  | t :: r, i, to, op =>
    if t.kind = 1 then cl r (i + 1) (to ++ [-1]) (i :: op)
    else if t.kind = 2 then
      match op with
      | [] => .inr (to ++ [(i : Int)], i)
      | g :: op' => cl r (i + 1) ((to ++ [(i : Int)]).set g i) op'
    else cl r (i + 1) (to ++ [(i : Int)]) op
/-- How many nodes the first j tokens make. -/
def nb (l : List Tok) (j : Nat) : Nat := (l.take j).countP fun t => t.kind != 2
def nd (l : List Tok) (to : List Int) (j : Nat) : N :=
  if (l.getD j t0).kind = 1 then ⟨1, (l.getD j t0).beg, (l.getD (to.getD j 0).toNat t0).fin, nb l ((to.getD j 0).toNat + 1) - nb l j, []⟩ else atom (l.getD j t0)
def nds (l : List Tok) (to : List Int) : Nat → List N
  | 0 => []
  | h + 1 => if (l.getD h t0).kind = 2 then nds l to h else nds l to h ++ [nd l to h]
theorem nb_zero (l : List Tok) : nb l 0 = 0 := by simp [nb]
theorem nb_succ (l : List Tok) (j : Nat) (h : j < l.length) : nb l (j + 1) = nb l j + if (l.getD j t0).kind = 2 then 0 else 1 := by
  unfold nb
  rw [List.take_succ_eq_append_getElem h, List.countP_append, List.getD_eq_getElem?_getD, List.getElem?_eq_getElem h]
  congr 1
  by_cases hk : l[j].kind = 2 <;> simp [hk]
theorem nb_mono (l : List Tok) : ∀ (d j : Nat), j + d ≤ l.length → nb l j ≤ nb l (j + d)
  | 0, j, h => Nat.le_refl _
  | d + 1, j, h => by
    have := nb_mono l d j (by omega)
    have := nb_succ l (j + d) (by omega)
    rw [Nat.add_assoc] at this
    omega
theorem nb_le {l : List Tok} {a b : Nat} (h : a ≤ b) (hb : b ≤ l.length) : nb l a ≤ nb l b := by
  have := nb_mono l (b - a) a (by omega)
  rwa [show a + (b - a) = b from by omega] at this
theorem nb_lt {l : List Tok} {a b : Nat} (h : a < b) (hb : b ≤ l.length) (hk : (l.getD a t0).kind ≠ 2) : nb l a < nb l b := by
  have h1 := nb_succ l a (by omega)
  rw [if_neg hk] at h1
  have := nb_le (a := a + 1) (b := b) (by omega) hb
  omega
/-- Nodes that are right one by one are the document's list. -/
theorem take_nds (l : List Tok) (to : List Int) (ns : List N) : ∀ h, h ≤ l.length → nb l h ≤ ns.length → (∀ j, j < h → (l.getD j t0).kind ≠ 2 → ns.getD (nb l j) n0 = nd l to j) → ns.take (nb l h) = nds l to h
  | 0, _, _, _ => by simp [nb_zero, nds]
  | h + 1, h1, h2, h3 => by
    have e := nb_succ l h (by omega)
    have hle := nb_le (l := l) (a := h) (b := h + 1) (by omega) h1
    have ih := take_nds l to ns h (by omega) (by omega) (fun j hj => h3 j (by omega))
    unfold nds
    by_cases hk : (l.getD h t0).kind = 2
    · rw [if_pos hk] at e ⊢
      rw [e, Nat.add_zero]
      exact ih
    · rw [if_neg hk] at e ⊢
      rw [e, List.take_succ_eq_append_getElem (by omega), ih]
      have := h3 h (by omega) hk
      rw [List.getD_eq_getElem?_getD, List.getElem?_eq_getElem (by omega)] at this
      rw [← this]
      rfl
/-- Both machines in step, i tokens read. -/
def Inv (l : List Tok) (i : Nat) (ns : List N) (st : List Nat) (to : List Int) (op : List Nat) : Prop :=
  to.length = i ∧ i ≤ l.length ∧ ns.length = nb l i ∧ st = op.map (nb l) ∧
  (∀ j, j < i → (l.getD j t0).kind ≠ 2 → to.getD j 0 ≠ -1 → ns.getD (nb l j) n0 = nd l to j) ∧
  (∀ j ∈ op, j < i ∧ (l.getD j t0).kind = 1 ∧ to.getD j 0 = -1 ∧ ns.getD (nb l j) n0 = newL (l.getD j t0)) ∧
  (∀ j, j < i → to.getD j 0 = -1 → j ∈ op) ∧ op.Pairwise (· > ·) ∧
  (∀ j, j < i → to.getD j 0 = -1 ∨ ((j : Int) ≤ to.getD j 0 ∧ to.getD j 0 < i))
theorem getD_old {α : Type} (a : List α) (x d : α) {j : Nat} (h : j < a.length) : (a ++ [x]).getD j d = a.getD j d := by
  rw [List.getD_eq_getElem?_getD, List.getD_eq_getElem?_getD, List.getElem?_append_left h]
theorem getD_new {α : Type} (a : List α) (x d : α) : (a ++ [x]).getD a.length d = x := by
  rw [List.getD_eq_getElem?_getD, List.getElem?_append_right (Nat.le_refl _)]
  simp
theorem getD_set {α : Type} (a : List α) (x d : α) {j : Nat} (h : j < a.length) : (a.set j x).getD j d = x := by
  rw [List.getD_eq_getElem?_getD, List.getElem?_set_self h]
  rfl
theorem getD_set_ne {α : Type} (a : List α) (x d : α) {j k : Nat} (h : j ≠ k) : (a.set j x).getD k d = a.getD k d := by
  rw [List.getD_eq_getElem?_getD, List.getD_eq_getElem?_getD, List.getElem?_set_ne h]
theorem nd_same (l : List Tok) (to to' : List Int) (j : Nat) (h : to'.getD j 0 = to.getD j 0) : nd l to' j = nd l to j := by
  unfold nd
  rw [h]
theorem inv_zero (l : List Tok) : Inv l 0 [] [] [] [] :=
  ⟨rfl, Nat.zero_le _, by simp [nb_zero], rfl, fun j h => by omega, fun j h => by simp at h, fun j h => by omega, List.Pairwise.nil, fun j h => by omega⟩
theorem inv_open {l : List Tok} {i : Nat} {ns : List N} {st : List Nat} {to : List Int} {op : List Nat} (h : Inv l i ns st to op) (hi : i < l.length) (hk : (l.getD i t0).kind = 1) :
    Inv l (i + 1) (ns ++ [newL (l.getD i t0)]) (ns.length :: st) (to ++ [-1]) (i :: op) := by
  obtain ⟨h1, h2, h3, h4, h5, h6, h7, h8, h9⟩ := h
  have e := nb_succ l i hi
  rw [if_neg (by omega)] at e
  subst h1
  refine ⟨by simp, by omega, by simp; omega, by rw [h3, h4]; rfl, ?_, ?_, ?_, ?_, ?_⟩
  · intro j hj hk2 ht
    by_cases hji : j = to.length
    · subst hji
      rw [getD_new] at ht
      exact absurd rfl ht
    · have hj2 : j < to.length := by omega
      rw [getD_old _ _ _ hj2] at ht
      have := nb_lt (l := l) hj2 (by omega) hk2
      rw [getD_old _ _ _ (by omega), h5 j hj2 hk2 ht]
      exact (nd_same l _ _ j (getD_old _ _ _ hj2)).symm
  · intro j hj
    rcases List.mem_cons.1 hj with rfl | hj
    · exact ⟨by omega, hk, getD_new _ _ _, by rw [← h3]; exact getD_new _ _ _⟩
    · obtain ⟨a, b, c, d⟩ := h6 j hj
      have := nb_lt (l := l) a (by omega) (by omega)
      exact ⟨by omega, b, by rw [getD_old _ _ _ a]; exact c, by rw [getD_old _ _ _ (by omega)]; exact d⟩
  · intro j hj ht
    by_cases hji : j = to.length
    · rw [hji]
      exact List.mem_cons_self
    · have hj2 : j < to.length := by omega
      rw [getD_old _ _ _ hj2] at ht
      exact List.mem_cons_of_mem _ (h7 j hj2 ht)
  · exact List.Pairwise.cons (fun j hj => (h6 j hj).1) h8
  · intro j hj
    by_cases hji : j = to.length
    · subst hji
      exact .inl (getD_new _ _ _)
    · have hj2 : j < to.length := by omega
      rw [getD_old _ _ _ hj2]
      rcases h9 j hj2 with h | h
      · exact .inl h
      · exact .inr (by omega)
theorem inv_atom {l : List Tok} {i : Nat} {ns : List N} {st : List Nat} {to : List Int} {op : List Nat} (h : Inv l i ns st to op) (hi : i < l.length) (hk : (l.getD i t0).kind ≠ 1) (hk2 : (l.getD i t0).kind ≠ 2) :
    Inv l (i + 1) (ns ++ [atom (l.getD i t0)]) st (to ++ [(i : Int)]) op := by
  obtain ⟨h1, h2, h3, h4, h5, h6, h7, h8, h9⟩ := h
  have e := nb_succ l i hi
  rw [if_neg hk2] at e
  subst h1
  refine ⟨by simp, by omega, by simp; omega, h4, ?_, ?_, ?_, h8, ?_⟩
  · intro j hj hk3 ht
    by_cases hji : j = to.length
    · subst hji
      rw [← h3, getD_new]
      unfold nd
      rw [if_neg hk]
    · have hj2 : j < to.length := by omega
      rw [getD_old _ _ _ hj2] at ht
      have := nb_lt (l := l) hj2 (by omega) hk3
      rw [getD_old _ _ _ (by omega), h5 j hj2 hk3 ht]
      exact (nd_same l _ _ j (getD_old _ _ _ hj2)).symm
  · intro j hj
    obtain ⟨a, b, c, d⟩ := h6 j hj
    have := nb_lt (l := l) a (by omega) (by omega)
    exact ⟨by omega, b, by rw [getD_old _ _ _ a]; exact c, by rw [getD_old _ _ _ (by omega)]; exact d⟩
  · intro j hj ht
    by_cases hji : j = to.length
    · subst hji
      rw [getD_new] at ht
      omega
    · have hj2 : j < to.length := by omega
      rw [getD_old _ _ _ hj2] at ht
      exact h7 j hj2 ht
  · intro j hj
    by_cases hji : j = to.length
    · subst hji
      rw [getD_new]
      exact .inr (by omega)
    · have hj2 : j < to.length := by omega
      rw [getD_old _ _ _ hj2]
      rcases h9 j hj2 with h | h
      · exact .inl h
      · exact .inr (by omega)
theorem inv_close {l : List Tok} {i g : Nat} {ns : List N} {st : List Nat} {to : List Int} {op : List Nat} (h : Inv l i ns (nb l g :: st) to (g :: op)) (hi : i < l.length) (hk : (l.getD i t0).kind = 2) :
    Inv l (i + 1) (shutL ns (nb l g) (l.getD i t0).fin) st ((to ++ [(i : Int)]).set g i) op := by
  obtain ⟨h1, h2, h3, h4, h5, h6, h7, h8, h9⟩ := h
  have e := nb_succ l i hi
  rw [if_pos hk] at e
  subst h1
  obtain ⟨g1, g2, g3, g4⟩ := h6 g List.mem_cons_self
  obtain ⟨p1, p2⟩ := List.pairwise_cons.1 h8
  have gl := nb_lt (l := l) g1 (by omega) (by omega)
  have hgt : g < (to ++ [((to.length : Nat) : Int)]).length := by simp; omega
  have tog : ∀ j, j < to.length → j ≠ g → ((to ++ [((to.length : Nat) : Int)]).set g ((to.length : Nat) : Int)).getD j 0 = to.getD j 0 := by
    intro j hj hne
    rw [getD_set_ne _ _ _ (fun e => hne e.symm), getD_old _ _ _ hj]
  have tog2 : ((to ++ [((to.length : Nat) : Int)]).set g ((to.length : Nat) : Int)).getD g 0 = ((to.length : Nat) : Int) := getD_set _ _ _ hgt
  have toi : ((to ++ [((to.length : Nat) : Int)]).set g ((to.length : Nat) : Int)).getD to.length 0 = ((to.length : Nat) : Int) := by
    rw [getD_set_ne _ _ _ (by omega), getD_new]
  have sl : (shutL ns (nb l g) (l.getD to.length t0).fin).length = ns.length := by simp [shutL]
  have sne : ∀ j, j < to.length → j ≠ g → (l.getD j t0).kind ≠ 2 → (shutL ns (nb l g) (l.getD to.length t0).fin).getD (nb l j) n0 = ns.getD (nb l j) n0 := by
    intro j hj hne hkj
    refine getD_set_ne _ _ _ ?_
    rcases Nat.lt_or_gt_of_ne hne with h | h
    · have := nb_lt (l := l) h (by omega) hkj
      omega
    · have := nb_lt (l := l) h (by omega) (a := g) (by omega)
      omega
  refine ⟨by simp, by omega, by rw [sl]; omega, (List.cons.inj h4).2, ?_, ?_, ?_, p2, ?_⟩
  · intro j hj hk2 ht
    by_cases hji : j = to.length
    · subst hji
      exact absurd hk hk2
    have hj2 : j < to.length := by omega
    by_cases hjg : j = g
    · subst hjg
      have : (shutL ns (nb l j) (l.getD to.length t0).fin).getD (nb l j) n0 = ⟨(ns.getD (nb l j) n0).kind, (ns.getD (nb l j) n0).beg, (l.getD to.length t0).fin, ns.length - nb l j, (ns.getD (nb l j) n0).text⟩ := getD_set _ _ _ (by omega)
      rw [this, g4]
      unfold nd
      rw [if_pos g2, tog2, h3, ← (show nb l (to.length + 1) = nb l to.length from by omega)]
      rfl
    · rw [tog j hj2 hjg] at ht
      rw [sne j hj2 hjg hk2, h5 j hj2 hk2 ht]
      exact (nd_same l _ _ j (tog j hj2 hjg)).symm
  · intro j hj
    obtain ⟨a, b, c, d⟩ := h6 j (List.mem_cons_of_mem _ hj)
    have hjg : j ≠ g := by
      have : g > j := p1 j hj
      omega
    exact ⟨by omega, b, by rw [tog j a hjg]; exact c, by rw [sne j a hjg (by omega)]; exact d⟩
  · intro j hj ht
    by_cases hji : j = to.length
    · subst hji
      rw [toi] at ht
      omega
    have hj2 : j < to.length := by omega
    by_cases hjg : j = g
    · subst hjg
      rw [tog2] at ht
      omega
    · rw [tog j hj2 hjg] at ht
      rcases List.mem_cons.1 (h7 j hj2 ht) with h | h
      · exact absurd h hjg
      · exact h
  · intro j hj
    by_cases hji : j = to.length
    · subst hji
      rw [toi]
      exact .inr (by omega)
    have hj2 : j < to.length := by omega
    by_cases hjg : j = g
    · subst hjg
      rw [tog2]
      exact .inr (by omega)
    · rw [tog j hj2 hjg]
      rcases h9 j hj2 with h | h
      · exact .inl h
      · exact .inr (by omega)
theorem drop_tok (L : List Tok) (k : Nat) (h : k < L.length) : L.drop k = L.getD k t0 :: L.drop (k + 1) := by
  rw [List.getD_eq_getElem?_getD, List.getElem?_eq_getElem h, List.drop_eq_getElem_cons h]
  rfl
theorem in_step (l : List Tok) : ∀ (r : List Tok) (i : Nat) (ns : List N) (st : List Nat) (to : List Int) (op : List Nat), l.drop i = r → Inv l i ns st to op →
    (∃ ns' st' to' op', pr r ns st = .inl (ns', st') ∧ cl r i to op = .inl (to', op') ∧ Inv l l.length ns' st' to' op') ∨
    (∃ ns' b to', pr r ns st = .inr (ns', (l.getD b t0).beg) ∧ cl r i to op = .inr (to' ++ [(b : Int)], b) ∧ b < l.length ∧ (l.getD b t0).kind = 2 ∧ Inv l b ns' [] to' [])
  | [], i, ns, st, to, op, hr, h => by
    have hl : i = l.length := by
      have := congrArg List.length hr
      simp at this
      have := h.2.1
      omega
    subst hl
    exact .inl ⟨ns, st, to, op, rfl, rfl, h⟩
  | t :: r, i, ns, st, to, op, hr, h => by
    have hi : i < l.length := by
      have := congrArg List.length hr
      simp at this
      omega
    have hd := drop_tok l i hi
    rw [hr] at hd
    obtain ⟨rfl, hr2⟩ := List.cons.inj hd
    unfold pr cl
    by_cases h1 : (l.getD i t0).kind = 1
    · rw [if_pos h1, if_pos h1]
      exact in_step l r (i + 1) _ _ _ _ hr2.symm (inv_open h hi h1)
    · rw [if_neg h1, if_neg h1]
      by_cases h2 : (l.getD i t0).kind = 2
      · rw [if_pos h2, if_pos h2]
        cases op with
        | nil =>
          have hst : st = [] := h.2.2.2.1
          subst hst
          exact .inr ⟨ns, i, to, rfl, rfl, hi, h2, h⟩
        | cons g op' =>
          have hst : st = nb l g :: op'.map (nb l) := h.2.2.2.1
          subst hst
          exact in_step l r (i + 1) _ _ _ _ hr2.symm (inv_close h hi h2)
      · rw [if_neg h2, if_neg h2]
        exact in_step l r (i + 1) _ _ _ _ hr2.symm (inv_atom h hi h1 h2)
/-- The first token that is not closed. -/
def firstNeg (to : List Int) : Nat := to.findIdx fun x => decide (x < 0)
def dout (l : List Tok) (e p : Nat) : List N × Nat × Nat :=
  match cl l 0 [] [] with
  | .inr (to, b) => (nds l to b, 20, (l.getD b t0).beg)
  | .inl (to, _) => (nds l to (firstNeg to), if e ≠ 0 then e else if firstNeg to < l.length then 21 else 0, if e ≠ 0 then p else if firstNeg to < l.length then (l.getD (firstNeg to) t0).beg else 0)
theorem nds_same (l : List Tok) (to to' : List Int) : ∀ h, (∀ j, j < h → to'.getD j 0 = to.getD j 0) → nds l to' h = nds l to h
  | 0, _ => rfl
  | h + 1, hj => by
    unfold nds
    rw [nds_same l to to' h (fun j hh => hj j (by omega)), nd_same l to to' h (hj h (by omega))]
theorem firstNeg_of {to : List Int} {k : Nat} (h1 : ∀ j, j < k → 0 ≤ to.getD j 0) (h2 : k = to.length ∨ (k < to.length ∧ to.getD k 0 < 0)) : firstNeg to = k := by
  unfold firstNeg
  have hk : k ≤ to.length := by omega
  have low : ∀ j, j < k → ¬ (to.findIdx fun x => decide (x < 0)) = j := by
    intro j hj e
    have hlt : (to.findIdx fun x => decide (x < 0)) < to.length := by omega
    have := List.findIdx_getElem (xs := to) (p := fun x => decide (x < 0)) (w := hlt)
    have h3 := h1 j hj
    rw [List.getD_eq_getElem?_getD, List.getElem?_eq_getElem (by omega : j < to.length)] at h3
    simp only [e, decide_eq_true_eq] at this
    simp at h3
    omega
  have ge : k ≤ to.findIdx fun x => decide (x < 0) := by
    apply Nat.le_of_not_lt
    intro h
    exact low _ h rfl
  rcases h2 with rfl | ⟨h2, h3⟩
  · have := List.findIdx_le_length (xs := to) (p := fun x => decide (x < 0))
    omega
  · apply Nat.le_antisymm _ ge
    apply Nat.le_of_not_lt
    intro h
    have := List.not_of_lt_findIdx (xs := to) (p := fun x => decide (x < 0)) h
    rw [List.getD_eq_getElem?_getD, List.getElem?_eq_getElem h2] at h3
    simp at this h3
    omega
/-- Both ways tell the same. -/
theorem out_doc (l : List Tok) (e p : Nat) (hp : e = 0 → p = 0) : out l e p = dout l e p := by
  rcases in_step l l 0 [] [] [] [] rfl (inv_zero l) with ⟨ns, st, to, op, e1, e2, h⟩ | ⟨ns, b, to, e1, e2, hb, hk, h⟩
  · obtain ⟨h1, h2, h3, h4, h5, h6, h7, h8, h9⟩ := h
    unfold out dout
    rw [e1, e2]
    rcases List.eq_nil_or_concat op with rfl | ⟨ini, k, rfl⟩
    · subst h4
      have hn : ∀ j, j < l.length → 0 ≤ to.getD j 0 := by
        intro j hj
        rcases h9 j hj with h | h
        · exact absurd (h7 j hj h) (by simp)
        · omega
      have hf : firstNeg to = l.length := firstNeg_of hn (.inl h1.symm)
      have hns : ns = nds l to l.length := by
        rw [← take_nds l to ns l.length (Nat.le_refl _) (by omega) (fun j hj hk => h5 j hj hk (by have := hn j hj; omega))]
        rw [← h3, List.take_length]
      simp only [List.map_nil]
      rw [hf, ← hns, if_neg (Nat.lt_irrefl _), if_neg (Nat.lt_irrefl _)]
      by_cases he : e = 0
      · subst he
        rw [hp rfl]
        rfl
      · rw [if_pos he, if_pos he]
    · rw [List.concat_eq_append] at *
      obtain ⟨k1, k2, k3, k4⟩ := h6 k (by simp)
      have hmin : ∀ j, j ∈ ini ++ [k] → k ≤ j := by
        intro j hj
        rcases List.mem_append.1 hj with hj | hj
        · have := (List.pairwise_append.1 h8).2.2 j hj k (by simp)
          omega
        · simp at hj
          omega
      have hn : ∀ j, j < k → 0 ≤ to.getD j 0 := by
        intro j hj
        rcases h9 j (by omega) with h | h
        · have := hmin j (h7 j (by omega) h)
          omega
        · omega
      have hf : firstNeg to = k := firstNeg_of hn (.inr ⟨by omega, by omega⟩)
      have hns : ns.take (nb l k) = nds l to k := take_nds l to ns k (by omega) (by have := nb_le (l := l) (a := k) (b := l.length) (by omega) (Nat.le_refl _); omega) (fun j hj hk => h5 j (by omega) hk (by have := hn j hj; omega))
      have hlast : st.getLastD 0 = nb l k := by
        rw [h4]
        simp
      cases st with
      | nil => simp at h4
      | cons g st' =>
        simp only
        rw [hlast, hns, hf, if_pos k1, if_pos k1, k4]
        by_cases he : e = 0
        · subst he
          rfl
        · rw [if_neg he, if_neg he, if_pos he, if_pos he]
  · obtain ⟨h1, h2, h3, h4, h5, h6, h7, h8, h9⟩ := h
    unfold out dout
    rw [e1, e2]
    simp only
    have hns : ns = nds l to b := by
      rw [← take_nds l to ns b (by omega) (by omega) (fun j hj hk => h5 j hj hk (fun e => absurd (h7 j hj e) (by simp)))]
      rw [← h3, List.take_length]
    rw [nds_same l to _ b (fun j hj => getD_old _ _ _ (by omega)), ← hns]
/-- What is closed ahead of an open one ends ahead of it. -/
def Nest (i : Nat) (to : List Int) (op : List Nat) : Prop := ∀ j, j < i → to.getD j 0 ≠ -1 → ∀ k ∈ op, j < k → to.getD j 0 < k
theorem nest_step (l : List Tok) : ∀ (r : List Tok) (i : Nat) (ns : List N) (st : List Nat) (to : List Int) (op : List Nat), l.drop i = r → Inv l i ns st to op → Nest i to op →
    ∀ to' op', cl r i to op = .inl (to', op') → Nest l.length to' op'
  | [], i, ns, st, to, op, hr, h, hN => by
    have hl : i = l.length := by
      have := congrArg List.length hr
      simp at this
      have := h.2.1
      omega
    subst hl
    intro to' op' e
    unfold cl at e
    simp only [Sum.inl.injEq, Prod.mk.injEq] at e
    rw [← e.1, ← e.2]
    exact hN
  | t :: r, i, ns, st, to, op, hr, h, hN => by
    have hi : i < l.length := by
      have := congrArg List.length hr
      simp at this
      omega
    have hd := drop_tok l i hi
    rw [hr] at hd
    obtain ⟨rfl, hr2⟩ := List.cons.inj hd
    have hlen := h.1
    have h9 := h.2.2.2.2.2.2.2.2
    have h6 := h.2.2.2.2.2.1
    unfold cl
    by_cases h1 : (l.getD i t0).kind = 1
    · rw [if_pos h1]
      refine nest_step l r (i + 1) _ _ _ _ hr2.symm (inv_open h hi h1) ?_
      intro j hj ht k hk hjk
      by_cases hji : j = i
      · subst hji
        rw [← hlen, getD_new] at ht
        exact absurd rfl ht
      · rw [getD_old _ _ _ (by omega)] at ht ⊢
        rcases List.mem_cons.1 hk with rfl | hk
        · rcases h9 j (by omega) with h | h
          · exact absurd h ht
          · omega
        · exact hN j (by omega) ht k hk hjk
    · rw [if_neg h1]
      by_cases h2 : (l.getD i t0).kind = 2
      · rw [if_pos h2]
        cases op with
        | nil =>
          intro to' op' e
          simp at e
        | cons g op' =>
          have hst : st = nb l g :: op'.map (nb l) := h.2.2.2.1
          subst hst
          refine nest_step l r (i + 1) _ _ _ _ hr2.symm (inv_close h hi h2) ?_
          intro j hj ht k hk hjk
          have hkl := (h6 k (List.mem_cons_of_mem _ hk)).1
          have hkg : k < g := (List.pairwise_cons.1 h.2.2.2.2.2.2.2.1).1 k hk
          rw [getD_set_ne _ _ _ (by omega), getD_old _ _ _ (by omega)] at ht ⊢
          exact hN j (by omega) ht k (List.mem_cons_of_mem _ hk) hjk
      · rw [if_neg h2]
        refine nest_step l r (i + 1) _ _ _ _ hr2.symm (inv_atom h hi h1 h2) ?_
        intro j hj ht k hk hjk
        have hkl := (h6 k hk).1
        rw [getD_old _ _ _ (by omega)] at ht ⊢
        exact hN j (by omega) ht k hk hjk
/-- Where the document's list ends. -/
def dEnd (l : List Tok) : Nat := match cl l 0 [] [] with | .inr (_, b) => b | .inl (to, _) => firstNeg to
def dTo (l : List Tok) : List Int := match cl l 0 [] [] with | .inr (to, _) => to | .inl (to, _) => to
/-- Each open one ahead of it is closed ahead of it. -/
theorem dEnd_fits (l : List Tok) : dEnd l ≤ l.length ∧ (dTo l).length ≤ l.length ∧ dEnd l ≤ (dTo l).length ∧ ∀ j, j < dEnd l → ∃ m : Nat, (dTo l).getD j 0 = m ∧ j ≤ m ∧ m < dEnd l := by
  rcases in_step l l 0 [] [] [] [] rfl (inv_zero l) with ⟨ns, st, to, op, e1, e2, h⟩ | ⟨ns, b, to, e1, e2, hb, hk, h⟩
  · have hN := nest_step l l 0 [] [] [] [] rfl (inv_zero l) (fun j hj => by omega) to op e2
    obtain ⟨h1, h2, h3, h4, h5, h6, h7, h8, h9⟩ := h
    unfold dEnd dTo
    rw [e2]
    simp only
    have hf : firstNeg to ≤ to.length := List.findIdx_le_length
    have pos : ∀ j, j < firstNeg to → 0 ≤ to.getD j 0 := by
      intro j hj
      have := List.not_of_lt_findIdx (xs := to) (p := fun x => decide (x < 0)) hj
      rw [List.getD_eq_getElem?_getD, List.getElem?_eq_getElem (by omega)]
      simpa using this
    refine ⟨by omega, by omega, hf, ?_⟩
    intro j hj
    have hp := pos j hj
    rcases h9 j (by omega) with h | h
    · omega
    · refine ⟨(to.getD j 0).toNat, by omega, by omega, ?_⟩
      by_cases hlt : firstNeg to < to.length
      · have hneg : to.getD (firstNeg to) 0 < 0 := by
          have := List.findIdx_getElem (xs := to) (p := fun x => decide (x < 0)) (w := hlt)
          rw [List.getD_eq_getElem?_getD, List.getElem?_eq_getElem hlt]
          exact of_decide_eq_true this
        have hm1 : to.getD (firstNeg to) 0 = -1 := by
          rcases h9 (firstNeg to) (by omega) with h | h
          · exact h
          · omega
        have := hN j (by omega) (by omega) (firstNeg to) (h7 _ (by omega) hm1) hj
        omega
      · omega
  · obtain ⟨h1, h2, h3, h4, h5, h6, h7, h8, h9⟩ := h
    unfold dEnd dTo
    rw [e2]
    simp only
    refine ⟨by omega, by simp; omega, by simp; omega, ?_⟩
    intro j hj
    rw [getD_old _ _ _ (by omega)]
    rcases h9 j hj with h | h
    · exact absurd (h7 j hj h) (by simp)
    · exact ⟨(to.getD j 0).toNat, by omega, by omega, by omega⟩
end Go.Proofs.YtjbalgjdcdmjjaaDoor.X
