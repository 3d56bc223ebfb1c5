/- Laid together of: SexpMath, CutMath. -/
import Derived.Test.YtackibimlpkcmaaDoorScanModelq
/- ==== SexpMath ==== -/
namespace Go.Proofs.YtackibimlpkcmaaDoor.X
open Go.Proofs.YtackibimlpkcmaaDoor.S
set_option linter.unusedVariables false
structure N where
  kind : Nat
  beg : Nat
  fin : Nat
  size : Nat
  text : List UInt8
abbrev t0 : Tok := ⟨0, 0, 0, []⟩
abbrev n0 : N := ⟨0, 0, 0, 0, []⟩
def atom (t : Tok) : N := ⟨t.kind, t.beg, t.fin, 1, t.text⟩
def newL (t : Tok) : N := ⟨1, t.beg, 0, 0, []⟩
/-- A list is closed. -/
def shutL (ns : List N) (g fin : Nat) : List N := ns.set g ⟨(ns.getD g n0).kind, (ns.getD g n0).beg, fin, ns.length - g, (ns.getD g n0).text⟩
/-- The program's way; the stack's top first. -/
def pr : List Tok → List N → List Nat → (List N × List Nat) ⊕ (List N × Nat)
  | [], ns, st => .inl (ns, st)
  | t :: r, ns, st =>
    if t.kind = 1 then pr r (ns ++ [newL t]) (ns.length :: st)
    else if t.kind = 2 then
      match st with
      | [] => .inr (ns, t.beg)
      | g :: st' => pr r (shutL ns g t.fin) st'
    else pr r (ns ++ [atom t]) st
def out (l : List Tok) (e p : Nat) : List N × Nat × Nat :=
  match pr l [] [] with
  | .inr (ns, b) => (ns, 20, b)
  | .inl (ns, []) => (ns, e, p)
  | .inl (ns, g :: st) => (ns.take ((g :: st).getLastD 0), if e = 0 then 21 else e, if e = 0 then (ns.getD ((g :: st).getLastD 0) n0).beg else p)
/-- The document's way: of each token the place of its partner, -1: none yet; the open ones, the last first. -/
def cl : List Tok → Nat → List Int → List Nat → (List Int × List Nat) ⊕ (List Int × Nat)
  | [], i, to, op => .inl (to, op)
  | t :: r, i, to, op =>
    if t.kind = 1 then cl r (i + 1) (to ++ [-1]) (i :: op)
    else if t.kind = 2 then
      match op with
      | [] => .inr (to ++ [(i : Int)], i)
      | g :: op' => cl r (i + 1) ((to ++ [(i : Int)]).set g i) op'
    else cl r (i + 1) (to ++ [(i : Int)]) op
/-- How many nodes the first j tokens make. -/
def nb (l : List Tok) (j : Nat) : Nat := (l.take j).countP fun t => t.kind != 2
def nd (l : List Tok) (to : List Int) (j : Nat) : N :=
  if (l.getD j t0).kind = 1 then ⟨1, (l.getD j t0).beg, (l.getD (to.getD j 0).toNat t0).fin, nb l ((to.getD j 0).toNat + 1) - nb l j, []⟩ else atom (l.getD j t0)
def nds (l : List Tok) (to : List Int) : Nat → List N
  | 0 => []
  | h + 1 => if (l.getD h t0).kind = 2 then nds l to h else nds l to h ++ [nd l to h]
theorem nb_zero (l : List Tok) : nb l 0 = 0 := by simp [nb]
theorem nb_succ (l : List Tok) (j : Nat) (h : j < l.length) : nb l (j + 1) = nb l j + if (l.getD j t0).kind = 2 then 0 else 1 := by
  unfold nb
  rw [List.take_succ_eq_append_getElem h, List.countP_append, List.getD_eq_getElem?_getD, List.getElem?_eq_getElem h]
  congr 1
  by_cases hk : l[j].kind = 2 <;> simp [hk]
theorem nb_mono (l : List Tok) : ∀ (d j : Nat), j + d ≤ l.length → nb l j ≤ nb l (j + d)
  | 0, j, h => Nat.le_refl _
  | d + 1, j, h => by
    have := nb_mono l d j (by omega)
    have := nb_succ l (j + d) (by omega)
    rw [Nat.add_assoc] at this
    omega
theorem nb_le {l : List Tok} {a b : Nat} (h : a ≤ b) (hb : b ≤ l.length) : nb l a ≤ nb l b := by
  have := nb_mono l (b - a) a (by omega)
  rwa [show a + (b - a) = b from by omega] at this
theorem nb_lt {l : List Tok} {a b : Nat} (h : a < b) (hb : b ≤ l.length) (hk : (l.getD a t0).kind ≠ 2) : nb l a < nb l b := by
  have h1 := nb_succ l a (by omega)
  rw [if_neg hk] at h1
  have := nb_le (a := a + 1) (b := b) (by omega) hb
  omega
/-- Nodes that are right one by one are the document's list. -/
theorem take_nds (l : List Tok) (to : List Int) (ns : List N) : ∀ h, h ≤ l.length → nb l h ≤ ns.length → (∀ j, j < h → (l.getD j t0).kind ≠ 2 → ns.getD (nb l j) n0 = nd l to j) → ns.take (nb l h) = nds l to h
  | 0, _, _, _ => by simp [nb_zero, nds]
  | h + 1, h1, h2, h3 => by
    have e := nb_succ l h (by omega)
    have hle := nb_le (l := l) (a := h) (b := h + 1) (by omega) h1
    have ih := take_nds l to ns h (by omega) (by omega) (fun j hj => h3 j (by omega))
    unfold nds
    by_cases hk : (l.getD h t0).kind = 2
    · rw [if_pos hk] at e ⊢
      rw [e, Nat.add_zero]
      exact ih
    · rw [if_neg hk] at e ⊢
      rw [e, List.take_succ_eq_append_getElem (by omega), ih]
      have := h3 h (by omega) hk
      rw [List.getD_eq_getElem?_getD, List.getElem?_eq_getElem (by omega)] at this
      rw [← this]
      rfl
/-- Both machines in step, i tokens read. -/
def Inv (l : List Tok) (i : Nat) (ns : List N) (st : List Nat) (to : List Int) (op : List Nat) : Prop :=
  to.length = i ∧ i ≤ l.length ∧ ns.length = nb l i ∧ st = op.map (nb l) ∧
  (∀ j, j < i → (l.getD j t0).kind ≠ 2 → to.getD j 0 ≠ -1 → ns.getD (nb l j) n0 = nd l to j) ∧
  (∀ j ∈ op, j < i ∧ (l.getD j t0).kind = 1 ∧ to.getD j 0 = -1 ∧ ns.getD (nb l j) n0 = newL (l.getD j t0)) ∧
  (∀ j, j < i → to.getD j 0 = -1 → j ∈ op) ∧ op.Pairwise (· > ·) ∧
  (∀ j, j < i → to.getD j 0 = -1 ∨ ((j : Int) ≤ to.getD j 0 ∧ to.getD j 0 < i))
theorem getD_old {α : Type} (a : List α) (x d : α) {j : Nat} (h : j < a.length) : (a ++ [x]).getD j d = a.getD j d := by
  rw [List.getD_eq_getElem?_getD, List.getD_eq_getElem?_getD, List.getElem?_append_left h]
theorem getD_new {α : Type} (a : List α) (x d : α) : (a ++ [x]).getD a.length d = x := by
  rw [List.getD_eq_getElem?_getD, List.getElem?_append_right (Nat.le_refl _)]
  simp
theorem getD_set {α : Type} (a : List α) (x d : α) {j : Nat} (h : j < a.length) : (a.set j x).getD j d = x := by
  rw [List.getD_eq_getElem?_getD, List.getElem?_set_self h]
  rfl
theorem getD_set_ne {α : Type} (a : List α) (x d : α) {j k : Nat} (h : j ≠ k) : (a.set j x).getD k d = a.getD k d := by
  rw [List.getD_eq_getElem?_getD, List.getD_eq_getElem?_getD, List.getElem?_set_ne h]
theorem nd_same (l : List Tok) (to to' : List Int) (j : Nat) (h : to'.getD j 0 = to.getD j 0) : nd l to' j = nd l to j := by
  unfold nd
  rw [h]
theorem inv_zero (l : List Tok) : Inv l 0 [] [] [] [] :=
  ⟨rfl, Nat.zero_le _, by simp [nb_zero], rfl, fun j h => by omega, fun j h => by simp at h, fun j h => by omega, List.Pairwise.nil, fun j h => by omega⟩
theorem inv_open {l : List Tok} {i : Nat} {ns : List N} {st : List Nat} {to : List Int} {op : List Nat} (h : Inv l i ns st to op) (hi : i < l.length) (hk : (l.getD i t0).kind = 1) :
    Inv l (i + 1) (ns ++ [newL (l.getD i t0)]) (ns.length :: st) (to ++ [-1]) (i :: op) := by
  obtain ⟨h1, h2, h3, h4, h5, h6, h7, h8, h9⟩ := h
  have e := nb_succ l i hi
  rw [if_neg (by omega)] at e
  subst h1
  refine ⟨by simp, by omega, by simp; omega, by rw [h3, h4]; rfl, ?_, ?_, ?_, ?_, ?_⟩
  · intro j hj hk2 ht
    by_cases hji : j = to.length
    · subst hji
      rw [getD_new] at ht
      exact absurd rfl ht
    · have hj2 : j < to.length := by omega
      rw [getD_old _ _ _ hj2] at ht
      have := nb_lt (l := l) hj2 (by omega) hk2
      rw [getD_old _ _ _ (by omega), h5 j hj2 hk2 ht]
      exact (nd_same l _ _ j (getD_old _ _ _ hj2)).symm
  · intro j hj
    rcases List.mem_cons.1 hj with rfl | hj
    · exact ⟨by omega, hk, getD_new _ _ _, by rw [← h3]; exact getD_new _ _ _⟩
    · obtain ⟨a, b, c, d⟩ := h6 j hj
      have := nb_lt (l := l) a (by omega) (by omega)
      exact ⟨by omega, b, by rw [getD_old _ _ _ a]; exact c, by rw [getD_old _ _ _ (by omega)]; exact d⟩
  · intro j hj ht
    by_cases hji : j = to.length
    · rw [hji]
      exact List.mem_cons_self
    · have hj2 : j < to.length := by omega
      rw [getD_old _ _ _ hj2] at ht
      exact List.mem_cons_of_mem _ (h7 j hj2 ht)
  · exact List.Pairwise.cons (fun j hj => (h6 j hj).1) h8
  · intro j hj
    by_cases hji : j = to.length
    · subst hji
      exact .inl (getD_new _ _ _)
    · have hj2 : j < to.length := by omega
      rw [getD_old _ _ _ hj2]
      rcases h9 j hj2 with h | h
      · exact .inl h
      · exact .inr (by omega)
theorem inv_atom {l : List Tok} {i : Nat} {ns : List N} {st : List Nat} {to : List Int} {op : List Nat} (h : Inv l i ns st to op) (hi : i < l.length) (hk : (l.getD i t0).kind ≠ 1) (hk2 : (l.getD i t0).kind ≠ 2) :
    Inv l (i + 1) (ns ++ [atom (l.getD i t0)]) st (to ++ [(i : Int)]) op := by
  obtain ⟨h1, h2, h3, h4, h5, h6, h7, h8, h9⟩ := h
  have e := nb_succ l i hi
  rw [if_neg hk2] at e
  subst h1
  refine ⟨by simp, by omega, by simp; omega, h4, ?_, ?_, ?_, h8, ?_⟩
  · intro j hj hk3 ht
    by_cases hji : j = to.length
    · subst hji
      rw [← h3, getD_new]
      unfold nd
      rw [if_neg hk]
    · have hj2 : j < to.length := by omega
      rw [getD_old _ _ _ hj2] at ht
      have := nb_lt (l := l) hj2 (by omega) hk3
      rw [getD_old _ _ _ (by omega), h5 j hj2 hk3 ht]
      exact (nd_same l _ _ j (getD_old _ _ _ hj2)).symm
  · intro j hj
    obtain ⟨a, b, c, d⟩ := h6 j hj
    have := nb_lt (l := l) a (by omega) (by omega)
    exact ⟨by omega, b, by rw [getD_old _ _ _ a]; exact c, by rw [getD_old _ _ _ (by omega)]; exact d⟩
  · intro j hj ht
    by_cases hji : j = to.length
    · subst hji
      rw [getD_new] at ht
      omega
    · have hj2 : j < to.length := by omega
      rw [getD_old _ _ _ hj2] at ht
      exact h7 j hj2 ht
  · intro j hj
    by_cases hji : j = to.length
    · subst hji
      rw [getD_new]
      exact .inr (by omega)
    · have hj2 : j < to.length := by omega
      rw [getD_old _ _ _ hj2]
      rcases h9 j hj2 with h | h
      · exact .inl h
      · exact .inr (by omega)
theorem inv_close {l : List Tok} {i g : Nat} {ns : List N} {st : List Nat} {to : List Int} {op : List Nat} (h : Inv l i ns (nb l g :: st) to (g :: op)) (hi : i < l.length) (hk : (l.getD i t0).kind = 2) :
    Inv l (i + 1) (shutL ns (nb l g) (l.getD i t0).fin) st ((to ++ [(i : Int)]).set g i) op := by
  obtain ⟨h1, h2, h3, h4, h5, h6, h7, h8, h9⟩ := h
  have e := nb_succ l i hi
  rw [if_pos hk] at e
  subst h1
  obtain ⟨g1, g2, g3, g4⟩ := h6 g List.mem_cons_self
  obtain ⟨p1, p2⟩ := List.pairwise_cons.1 h8
  have gl := nb_lt (l := l) g1 (by omega) (by omega)
  have hgt : g < (to ++ [((to.length : Nat) : Int)]).length := by simp; omega
  have tog : ∀ j, j < to.length → j ≠ g → ((to ++ [((to.length : Nat) : Int)]).set g ((to.length : Nat) : Int)).getD j 0 = to.getD j 0 := by
    intro j hj hne
    rw [getD_set_ne _ _ _ (fun e => hne e.symm), getD_old _ _ _ hj]
  have tog2 : ((to ++ [((to.length : Nat) : Int)]).set g ((to.length : Nat) : Int)).getD g 0 = ((to.length : Nat) : Int) := getD_set _ _ _ hgt
  have toi : ((to ++ [((to.length : Nat) : Int)]).set g ((to.length : Nat) : Int)).getD to.length 0 = ((to.length : Nat) : Int) := by
    rw [getD_set_ne _ _ _ (by omega), getD_new]
  have sl : (shutL ns (nb l g) (l.getD to.length t0).fin).length = ns.length := by simp [shutL]
  have sne : ∀ j, j < to.length → j ≠ g → (l.getD j t0).kind ≠ 2 → (shutL ns (nb l g) (l.getD to.length t0).fin).getD (nb l j) n0 = ns.getD (nb l j) n0 := by
    intro j hj hne hkj
    refine getD_set_ne _ _ _ ?_
    rcases Nat.lt_or_gt_of_ne hne with h | h
    · have := nb_lt (l := l) h (by omega) hkj
      omega
    · have := nb_lt (l := l) h (by omega) (a := g) (by omega)
      omega
  refine ⟨by simp, by omega, by rw [sl]; omega, (List.cons.inj h4).2, ?_, ?_, ?_, p2, ?_⟩
  · intro j hj hk2 ht
    by_cases hji : j = to.length
    · subst hji
      exact absurd hk hk2
    have hj2 : j < to.length := by omega
    by_cases hjg : j = g
    · subst hjg
      have : (shutL ns (nb l j) (l.getD to.length t0).fin).getD (nb l j) n0 = ⟨(ns.getD (nb l j) n0).kind, (ns.getD (nb l j) n0).beg, (l.getD to.length t0).fin, ns.length - nb l j, (ns.getD (nb l j) n0).text⟩ := getD_set _ _ _ (by omega)
      rw [this, g4]
      unfold nd
      rw [if_pos g2, tog2, h3, ← (show nb l (to.length + 1) = nb l to.length from by omega)]
      rfl
    · rw [tog j hj2 hjg] at ht
      rw [sne j hj2 hjg hk2, h5 j hj2 hk2 ht]
      exact (nd_same l _ _ j (tog j hj2 hjg)).symm
  · intro j hj
    obtain ⟨a, b, c, d⟩ := h6 j (List.mem_cons_of_mem _ hj)
    have hjg : j ≠ g := by
      have : g > j := p1 j hj
      omega
    exact ⟨by omega, b, by rw [tog j a hjg]; exact c, by rw [sne j a hjg (by omega)]; exact d⟩
  · intro j hj ht
    by_cases hji : j = to.length
    · subst hji
      rw [toi] at ht
      omega
    have hj2 : j < to.length := by omega
    by_cases hjg : j = g
    · subst hjg
      rw [tog2] at ht
      omega
    · rw [tog j hj2 hjg] at ht
      rcases List.mem_cons.1 (h7 j hj2 ht) with h | h
      · exact absurd h hjg
      · exact h
  · intro j hj
    by_cases hji : j = to.length
    · subst hji
      rw [toi]
      exact .inr (by omega)
    have hj2 : j < to.length := by omega
    by_cases hjg : j = g
    · subst hjg
      rw [tog2]
      exact .inr (by omega)
    · rw [tog j hj2 hjg]
      rcases h9 j hj2 with h | h
      · exact .inl h
      · exact .inr (by omega)
theorem drop_tok (L : List Tok) (k : Nat) (h : k < L.length) : L.drop k = L.getD k t0 :: L.drop (k + 1) := by
  rw [List.getD_eq_getElem?_getD, List.getElem?_eq_getElem h, List.drop_eq_getElem_cons h]
  rfl
theorem in_step (l : List Tok) : ∀ (r : List Tok) (i : Nat) (ns : List N) (st : List Nat) (to : List Int) (op : List Nat), l.drop i = r → Inv l i ns st to op →
    (∃ ns' st' to' op', pr r ns st = .inl (ns', st') ∧ cl r i to op = .inl (to', op') ∧ Inv l l.length ns' st' to' op') ∨
    (∃ ns' b to', pr r ns st = .inr (ns', (l.getD b t0).beg) ∧ cl r i to op = .inr (to' ++ [(b : Int)], b) ∧ b < l.length ∧ (l.getD b t0).kind = 2 ∧ Inv l b ns' [] to' [])
  | [], i, ns, st, to, op, hr, h => by
    have hl : i = l.length := by
      have := congrArg List.length hr
      simp at this
      have := h.2.1
      omega
    subst hl
    exact .inl ⟨ns, st, to, op, rfl, rfl, h⟩
  | t :: r, i, ns, st, to, op, hr, h => by
    have hi : i < l.length := by
      have := congrArg List.length hr
      simp at this
      omega
    have hd := drop_tok l i hi
    rw [hr] at hd
    obtain ⟨rfl, hr2⟩ := List.cons.inj hd
    unfold pr cl
    by_cases h1 : (l.getD i t0).kind = 1
    · rw [if_pos h1, if_pos h1]
      exact in_step l r (i + 1) _ _ _ _ hr2.symm (inv_open h hi h1)
    · rw [if_neg h1, if_neg h1]
      by_cases h2 : (l.getD i t0).kind = 2
      · rw [if_pos h2, if_pos h2]
        cases op with
        | nil =>
          have hst : st = [] := h.2.2.2.1
          subst hst
          exact .inr ⟨ns, i, to, rfl, rfl, hi, h2, h⟩
        | cons g op' =>
          have hst : st = nb l g :: op'.map (nb l) := h.2.2.2.1
          subst hst
          exact in_step l r (i + 1) _ _ _ _ hr2.symm (inv_close h hi h2)
      · rw [if_neg h2, if_neg h2]
        exact in_step l r (i + 1) _ _ _ _ hr2.symm (inv_atom h hi h1 h2)
/-- The first token that is not closed. -/
def firstNeg (to : List Int) : Nat := to.findIdx fun x => decide (x < 0)
def dout (l : List Tok) (e p : Nat) : List N × Nat × Nat :=
  match cl l 0 [] [] with
  | .inr (to, b) => (nds l to b, 20, (l.getD b t0).beg)
  | .inl (to, _) => (nds l to (firstNeg to), if e ≠ 0 then e else if firstNeg to < l.length then 21 else 0, if e ≠ 0 then p else if firstNeg to < l.length then (l.getD (firstNeg to) t0).beg else 0)
theorem nds_same (l : List Tok) (to to' : List Int) : ∀ h, (∀ j, j < h → to'.getD j 0 = to.getD j 0) → nds l to' h = nds l to h
  | 0, _ => rfl
  | h + 1, hj => by
    unfold nds
    rw [nds_same l to to' h (fun j hh => hj j (by omega)), nd_same l to to' h (hj h (by omega))]
theorem firstNeg_of {to : List Int} {k : Nat} (h1 : ∀ j, j < k → 0 ≤ to.getD j 0) (h2 : k = to.length ∨ (k < to.length ∧ to.getD k 0 < 0)) : firstNeg to = k := by
  unfold firstNeg
  have hk : k ≤ to.length := by omega
  have low : ∀ j, j < k → ¬ (to.findIdx fun x => decide (x < 0)) = j := by
    intro j hj e
    have hlt : (to.findIdx fun x => decide (x < 0)) < to.length := by omega
    have := List.findIdx_getElem (xs := to) (p := fun x => decide (x < 0)) (w := hlt)
    have h3 := h1 j hj
    rw [List.getD_eq_getElem?_getD, List.getElem?_eq_getElem (by omega : j < to.length)] at h3
    simp only [e, decide_eq_true_eq] at this
    simp at h3
    omega
  have ge : k ≤ to.findIdx fun x => decide (x < 0) := by
    apply Nat.le_of_not_lt
    intro h
    exact low _ h rfl
  rcases h2 with rfl | ⟨h2, h3⟩
  · have := List.findIdx_le_length (xs := to) (p := fun x => decide (x < 0))
    omega
  · apply Nat.le_antisymm _ ge
    apply Nat.le_of_not_lt
    intro h
    have := List.not_of_lt_findIdx (xs := to) (p := fun x => decide (x < 0)) h
    rw [List.getD_eq_getElem?_getD, List.getElem?_eq_getElem h2] at h3
    simp at this h3
    omega
/-- Both ways tell the same. -/
theorem out_doc (l : List Tok) (e p : Nat) (hp : e = 0 → p = 0) : out l e p = dout l e p := by
  rcases in_step l l 0 [] [] [] [] rfl (inv_zero l) with ⟨ns, st, to, op, e1, e2, h⟩ | ⟨ns, b, to, e1, e2, hb, hk, h⟩
  · obtain ⟨h1, h2, h3, h4, h5, h6, h7, h8, h9⟩ := h
    unfold out dout
    rw [e1, e2]
    rcases List.eq_nil_or_concat op with rfl | ⟨ini, k, rfl⟩
    · subst h4
      have hn : ∀ j, j < l.length → 0 ≤ to.getD j 0 := by
        intro j hj
        rcases h9 j hj with h | h
        · exact absurd (h7 j hj h) (by simp)
        · omega
      have hf : firstNeg to = l.length := firstNeg_of hn (.inl h1.symm)
      have hns : ns = nds l to l.length := by
        rw [← take_nds l to ns l.length (Nat.le_refl _) (by omega) (fun j hj hk => h5 j hj hk (by have := hn j hj; omega))]
        rw [← h3, List.take_length]
      simp only [List.map_nil]
      rw [hf, ← hns, if_neg (Nat.lt_irrefl _), if_neg (Nat.lt_irrefl _)]
      by_cases he : e = 0
      · subst he
        rw [hp rfl]
        rfl
      · rw [if_pos he, if_pos he]
    · rw [List.concat_eq_append] at *
      obtain ⟨k1, k2, k3, k4⟩ := h6 k (by simp)
      have hmin : ∀ j, j ∈ ini ++ [k] → k ≤ j := by
        intro j hj
        rcases List.mem_append.1 hj with hj | hj
        · have := (List.pairwise_append.1 h8).2.2 j hj k (by simp)
          omega
        · simp at hj
          omega
      have hn : ∀ j, j < k → 0 ≤ to.getD j 0 := by
        intro j hj
        rcases h9 j (by omega) with h | h
        · have := hmin j (h7 j (by omega) h)
          omega
        · omega
      have hf : firstNeg to = k := firstNeg_of hn (.inr ⟨by omega, by omega⟩)
      have hns : ns.take (nb l k) = nds l to k := take_nds l to ns k (by omega) (by have := nb_le (l := l) (a := k) (b := l.length) (by omega) (Nat.le_refl _); omega) (fun j hj hk => h5 j (by omega) hk (by have := hn j hj; omega))
      have hlast : st.getLastD 0 = nb l k := by
        rw [h4]
        simp
      cases st with
      | nil => simp at h4
      | cons g st' =>
        simp only
        rw [hlast, hns, hf, if_pos k1, if_pos k1, k4]
        by_cases he : e = 0
        · subst he
          rfl
        · rw [if_neg he, if_neg he, if_pos he, if_pos he]
  · obtain ⟨h1, h2, h3, h4, h5, h6, h7, h8, h9⟩ := h
    unfold out dout
    rw [e1, e2]
    simp only
    have hns : ns = nds l to b := by
      rw [← take_nds l to ns b (by omega) (by omega) (fun j hj hk => h5 j hj hk (fun e => absurd (h7 j hj e) (by simp)))]
      rw [← h3, List.take_length]
    rw [nds_same l to _ b (fun j hj => getD_old _ _ _ (by omega)), ← hns]
/-- What is closed ahead of an open one ends ahead of it. -/
def Nest (i : Nat) (to : List Int) (op : List Nat) : Prop := ∀ j, j < i → to.getD j 0 ≠ -1 → ∀ k ∈ op, j < k → to.getD j 0 < k
theorem nest_step (l : List Tok) : ∀ (r : List Tok) (i : Nat) (ns : List N) (st : List Nat) (to : List Int) (op : List Nat), l.drop i = r → Inv l i ns st to op → Nest i to op →
    ∀ to' op', cl r i to op = .inl (to', op') → Nest l.length to' op'
  | [], i, ns, st, to, op, hr, h, hN => by
    have hl : i = l.length := by
      have := congrArg List.length hr
      simp at this
      have := h.2.1
      omega
    subst hl
    intro to' op' e
    unfold cl at e
    simp only [Sum.inl.injEq, Prod.mk.injEq] at e
    rw [← e.1, ← e.2]
    exact hN
  | t :: r, i, ns, st, to, op, hr, h, hN => by
    have hi : i < l.length := by
      have := congrArg List.length hr
      simp at this
      omega
    have hd := drop_tok l i hi
    rw [hr] at hd
    obtain ⟨rfl, hr2⟩ := List.cons.inj hd
    have hlen := h.1
    have h9 := h.2.2.2.2.2.2.2.2
    have h6 := h.2.2.2.2.2.1
    unfold cl
    by_cases h1 : (l.getD i t0).kind = 1
    · rw [if_pos h1]
      refine nest_step l r (i + 1) _ _ _ _ hr2.symm (inv_open h hi h1) ?_
      intro j hj ht k hk hjk
      by_cases hji : j = i
      · subst hji
        rw [← hlen, getD_new] at ht
        exact absurd rfl ht
      · rw [getD_old _ _ _ (by omega)] at ht ⊢
        rcases List.mem_cons.1 hk with rfl | hk
        · rcases h9 j (by omega) with h | h
          · exact absurd h ht
          · omega
        · exact hN j (by omega) ht k hk hjk
    · rw [if_neg h1]
      by_cases h2 : (l.getD i t0).kind = 2
      · rw [if_pos h2]
        cases op with
        | nil =>
          intro to' op' e
          simp at e
        | cons g op' =>
          have hst : st = nb l g :: op'.map (nb l) := h.2.2.2.1
          subst hst
          refine nest_step l r (i + 1) _ _ _ _ hr2.symm (inv_close h hi h2) ?_
          intro j hj ht k hk hjk
          have hkl := (h6 k (List.mem_cons_of_mem _ hk)).1
          have hkg : k < g := (List.pairwise_cons.1 h.2.2.2.2.2.2.2.1).1 k hk
          rw [getD_set_ne _ _ _ (by omega), getD_old _ _ _ (by omega)] at ht ⊢
          exact hN j (by omega) ht k (List.mem_cons_of_mem _ hk) hjk
      · rw [if_neg h2]
        refine nest_step l r (i + 1) _ _ _ _ hr2.symm (inv_atom h hi h1 h2) ?_
        intro j hj ht k hk hjk
        have hkl := (h6 k hk).1
        rw [getD_old _ _ _ (by omega)] at ht ⊢
        exact hN j (by omega) ht k hk hjk
/-- Where the document's list ends. -/
def dEnd (l : List Tok) : Nat := match cl l 0 [] [] with | .inr (_, b) => b | .inl (to, _) => firstNeg to
def dTo (l : List Tok) : List Int := match cl l 0 [] [] with | .inr (to, _) => to | .inl (to, _) => to
/-- Each open one ahead of it is closed ahead of it. -/
theorem dEnd_fits (l : List Tok) : dEnd l ≤ l.length ∧ (dTo l).length ≤ l.length ∧ dEnd l ≤ (dTo l).length ∧ ∀ j, j < dEnd l → ∃ m : Nat, (dTo l).getD j 0 = m ∧ j ≤ m ∧ m < dEnd l := by
  rcases in_step l l 0 [] [] [] [] rfl (inv_zero l) with ⟨ns, st, to, op, e1, e2, h⟩ | ⟨ns, b, to, e1, e2, hb, hk, h⟩
  · have hN := nest_step l l 0 [] [] [] [] rfl (inv_zero l) (fun j hj => by omega) to op e2
    obtain ⟨h1, h2, h3, h4, h5, h6, h7, h8, h9⟩ := h
    unfold dEnd dTo
    rw [e2]
    simp only
    have hf : firstNeg to ≤ to.length := List.findIdx_le_length
    have pos : ∀ j, j < firstNeg to → 0 ≤ to.getD j 0 := by
      intro j hj
      have := List.not_of_lt_findIdx (xs := to) (p := fun x => decide (x < 0)) hj
      rw [List.getD_eq_getElem?_getD, List.getElem?_eq_getElem (by omega)]
      simpa using this
    refine ⟨by omega, by omega, hf, ?_⟩
    intro j hj
    have hp := pos j hj
    rcases h9 j (by omega) with h | h
    · omega
    · refine ⟨(to.getD j 0).toNat, by omega, by omega, ?_⟩
      by_cases hlt : firstNeg to < to.length
      · have hneg : to.getD (firstNeg to) 0 < 0 := by
          have := List.findIdx_getElem (xs := to) (p := fun x => decide (x < 0)) (w := hlt)
          rw [List.getD_eq_getElem?_getD, List.getElem?_eq_getElem hlt]
          exact of_decide_eq_true this
        have hm1 : to.getD (firstNeg to) 0 = -1 := by
          rcases h9 (firstNeg to) (by omega) with h | h
          · exact h
          · omega
        have := hN j (by omega) (by omega) (firstNeg to) (h7 _ (by omega) hm1) hj
        omega
      · omega
  · obtain ⟨h1, h2, h3, h4, h5, h6, h7, h8, h9⟩ := h
    unfold dEnd dTo
    rw [e2]
    simp only
    refine ⟨by omega, by simp; omega, by simp; omega, ?_⟩
    intro j hj
    rw [getD_old _ _ _ (by omega)]
    rcases h9 j hj with h | h
    · exact absurd (h7 j hj h) (by simp)
    · exact ⟨(to.getD j 0).toNat, by omega, by omega, by omega⟩
end Go.Proofs.YtackibimlpkcmaaDoor.X
/- ==== CutMath ==== -/
namespace Go.Proofs.YtackibimlpkcmaaDoor.X
open Go.Proofs.YtackibimlpkcmaaDoor.S
set_option linter.unusedVariables false
/-- An outermost expression: its first node counts all its nodes; what is no list is one node. -/
def Blk (b : List N) : Prop := b ≠ [] ∧ (b.headD n0).size = b.length ∧ ((b.headD n0).kind ≠ 1 → b.length = 1)
/-- The blocks that are closed, and the list that is open behind them. -/
def Jb (ns : List N) (st : List Nat) (bs : List (List N)) : Prop :=
  (∀ b ∈ bs, Blk b) ∧ bs.flatten.length ≤ ns.length ∧ ns.take bs.flatten.length = bs.flatten ∧ (st = [] → ns.length = bs.flatten.length) ∧
  (st ≠ [] → st.getLastD 0 = bs.flatten.length) ∧ st.Pairwise (· > ·) ∧ (∀ g ∈ st, g < ns.length ∧ (ns.getD g n0).kind = 1)
theorem last_mem : ∀ (st : List Nat), st ≠ [] → st.getLastD 0 ∈ st
  | [], h => absurd rfl h
  | [g], _ => by simp [-List.length_flatten]
  | g :: k :: st, _ => by
    have := last_mem (k :: st) (by simp [-List.length_flatten])
    simp only [List.getLastD_cons] at this ⊢
    exact List.mem_cons_of_mem _ this
theorem last_least {st : List Nat} (h : st.Pairwise (· > ·)) : ∀ g ∈ st, st.getLastD 0 ≤ g := by
  intro g hg
  rcases List.eq_nil_or_concat st with rfl | ⟨ini, k, rfl⟩
  · simp [-List.length_flatten] at hg
  · rw [List.concat_eq_append] at *
    have hk : (ini ++ [k]).getLastD 0 = k := by simp [-List.length_flatten]
    rw [hk]
    rcases List.mem_append.1 hg with hg | hg
    · have := (List.pairwise_append.1 h).2.2 g hg k (by simp [-List.length_flatten])
      omega
    · simp [-List.length_flatten] at hg
      omega
theorem getD_app {a b : List N} {j : Nat} (h : j < a.length) : (a ++ b).getD j n0 = a.getD j n0 := by
  rw [List.getD_eq_getElem?_getD, List.getD_eq_getElem?_getD, List.getElem?_append_left h]
theorem jb_open {ns : List N} {st : List Nat} {bs : List (List N)} (t : Tok) (h : Jb ns st bs) : Jb (ns ++ [newL t]) (ns.length :: st) bs := by
  obtain ⟨h1, h2, h3, h4, h5, h6, h7⟩ := h
  refine ⟨h1, by simp [-List.length_flatten]; omega, by rw [List.take_append_of_le_length h2, h3], by simp [-List.length_flatten], ?_, ?_, ?_⟩
  · intro _
    by_cases hs : st = []
    · subst hs
      simp [-List.length_flatten, h4 rfl]
    · rw [List.getLastD_cons]
      cases st with
      | nil => exact absurd rfl hs
      | cons a st =>
        rw [← h5 hs, List.getLastD_cons, List.getLastD_cons]
  · exact List.Pairwise.cons (fun j hj => (h7 j hj).1) h6
  · intro g hg
    rcases List.mem_cons.1 hg with rfl | hg
    · refine ⟨by simp [-List.length_flatten], ?_⟩
      rw [getD_new]
      rfl
    · obtain ⟨a, b⟩ := h7 g hg
      exact ⟨by simp [-List.length_flatten]; omega, by rw [getD_app a]; exact b⟩
theorem jb_atom {ns : List N} {st : List Nat} {bs : List (List N)} (t : Tok) (h : Jb ns st bs) (hk : t.kind ≠ 1) : ∃ new, Jb (ns ++ [atom t]) st (bs ++ new) ∧ ∀ b ∈ new, (b.headD n0).kind ≠ 1 := by
  obtain ⟨h1, h2, h3, h4, h5, h6, h7⟩ := h
  have h7' : ∀ g ∈ st, g < (ns ++ [atom t]).length ∧ ((ns ++ [atom t]).getD g n0).kind = 1 := by
    intro g hg
    obtain ⟨a, b⟩ := h7 g hg
    exact ⟨by simp [-List.length_flatten]; omega, by rw [getD_app a]; exact b⟩
  by_cases hs : st = []
  · subst hs
    have hl := h4 rfl
    have hns : ns = bs.flatten := by rw [← h3, ← hl, List.take_length]
    refine ⟨[[atom t]], ⟨?_, ?_, ?_, ?_, by simp [-List.length_flatten], h6, h7'⟩, ?_⟩
    · intro b hb
      rcases List.mem_append.1 hb with hb | hb
      · exact h1 b hb
      · simp [-List.length_flatten] at hb
        subst hb
        exact ⟨by simp [-List.length_flatten], by simp [-List.length_flatten, atom], by simp [-List.length_flatten]⟩
    · rw [← List.concat_eq_append, ← List.concat_eq_append]
      simp [-List.length_flatten, hl]
    · subst hns
      rw [show (bs ++ [[atom t]]).flatten = bs.flatten ++ [atom t] from by simp, List.take_length]
    · subst hns
      simp [-List.length_flatten]
    · intro b hb
      simp [-List.length_flatten] at hb
      subst hb
      simpa [-List.length_flatten, atom] using hk
  · refine ⟨[], ⟨by simpa [-List.length_flatten] using h1, by simp [-List.length_flatten]; omega, ?_, fun e => absurd e hs, by simpa [-List.length_flatten] using h5, h6, h7'⟩, by simp [-List.length_flatten]⟩
    rw [List.append_nil, List.take_append_of_le_length h2, h3]
theorem drop_shut {ns : List N} {g f : Nat} (h : g < ns.length) : (shutL ns g f).drop g = ⟨(ns.getD g n0).kind, (ns.getD g n0).beg, f, ns.length - g, (ns.getD g n0).text⟩ :: ns.drop (g + 1) := by
  unfold shutL
  rw [List.drop_set]
  simp only [Nat.lt_irrefl, if_false, Nat.sub_self]
  rw [List.drop_eq_getElem_cons h]
  rfl
theorem take_shut (ns : List N) (g f k : Nat) (h : k ≤ g) : (shutL ns g f).take k = ns.take k := by
  unfold shutL
  rw [List.take_set]
  exact List.set_eq_of_length_le (by rw [List.length_take]; omega)
theorem jb_close {ns : List N} {st : List Nat} {g : Nat} {bs : List (List N)} (f : Nat) (h : Jb ns (g :: st) bs) : ∃ new, Jb (shutL ns g f) st (bs ++ new) ∧ ∀ b ∈ new, (b.headD n0).fin = f := by
  obtain ⟨h1, h2, h3, h4, h5, h6, h7⟩ := h
  obtain ⟨g1, g2⟩ := h7 g List.mem_cons_self
  obtain ⟨p1, p2⟩ := List.pairwise_cons.1 h6
  have hlen : (shutL ns g f).length = ns.length := by simp [-List.length_flatten, shutL]
  have h7' : ∀ k ∈ st, k < (shutL ns g f).length ∧ ((shutL ns g f).getD k n0).kind = 1 := by
    intro k hk
    obtain ⟨a, b⟩ := h7 k (List.mem_cons_of_mem _ hk)
    have : k < g := p1 k hk
    exact ⟨by omega, by unfold shutL; rw [getD_set_ne _ _ _ (by omega)]; exact b⟩
  by_cases hs : st = []
  · subst hs
    have hg : g = bs.flatten.length := by
      have := h5 (by simp [-List.length_flatten])
      simpa [-List.length_flatten] using this
    have hd := drop_shut (ns := ns) (g := g) (f := f) g1
    refine ⟨[(shutL ns g f).drop g], ⟨?_, ?_, ?_, ?_, by simp [-List.length_flatten], p2, h7'⟩, ?_⟩
    · intro b hb
      rcases List.mem_append.1 hb with hb | hb
      · exact h1 b hb
      · simp only [List.mem_singleton] at hb
        subst hb
        rw [hd]
        refine ⟨by simp [-List.length_flatten], ?_, ?_⟩
        · simp [-List.length_flatten]
          omega
        · intro e
          exact absurd g2 e
    · simp [-List.length_flatten, hlen]
      omega
    · have e : (bs ++ [(shutL ns g f).drop g]).flatten = bs.flatten ++ (shutL ns g f).drop g := by simp [-List.length_flatten]
      rw [e]
      have e2 : (bs.flatten ++ (shutL ns g f).drop g).length = (shutL ns g f).length := by
        rw [List.length_append, List.length_drop]
        omega
      rw [e2, List.take_length]
      conv => lhs; rw [← List.take_append_drop g (shutL ns g f)]
      rw [take_shut ns g f g (Nat.le_refl _), hg, h3]
    · intro _
      simp [-List.length_flatten, hlen]
      omega
    · intro b hb
      simp only [List.mem_singleton] at hb
      subst hb
      rw [hd]
      rfl
  · refine ⟨[], ⟨by simpa [-List.length_flatten] using h1, by simp [-List.length_flatten, hlen]; omega, ?_, fun e => absurd e hs, ?_, p2, h7'⟩, by simp [-List.length_flatten]⟩
    · have hle : bs.flatten.length ≤ g := by
        have a := h5 (by simp [-List.length_flatten])
        have b := last_least h6 g List.mem_cons_self
        omega
      rw [List.append_nil, take_shut ns g f _ hle, h3]
    · intro _
      have a := h5 (by simp [-List.length_flatten])
      cases st with
      | nil => exact absurd rfl hs
      | cons k st =>
        rw [List.append_nil, ← a, List.getLastD_cons, List.getLastD_cons, List.getLastD_cons]
/-- What the rest closes: blocks that are no lists, or lists whose closing parenthesis is in the rest. -/
theorem pr_blocks (P : Nat → Prop) : ∀ (r : List Tok) (ns : List N) (st : List Nat) (bs : List (List N)), Jb ns st bs → (∀ t ∈ r, t.kind = 2 → P t.fin) →
    (∃ ns' st' new, pr r ns st = .inl (ns', st') ∧ Jb ns' st' (bs ++ new) ∧ ∀ b ∈ new, (b.headD n0).kind = 1 → P (b.headD n0).fin) ∨
    (∃ ns' p new, pr r ns st = .inr (ns', p) ∧ Jb ns' [] (bs ++ new) ∧ ∀ b ∈ new, (b.headD n0).kind = 1 → P (b.headD n0).fin)
  | [], ns, st, bs, h, _ => .inl ⟨ns, st, [], rfl, by simpa [-List.length_flatten] using h, by simp [-List.length_flatten]⟩
  | t :: r, ns, st, bs, h, hP => by
    have hP' : ∀ t ∈ r, t.kind = 2 → P t.fin := fun t ht => hP t (List.mem_cons_of_mem _ ht)
    have glue : ∀ (ns1 : List N) (st1 : List Nat) (n1 : List (List N)), Jb ns1 st1 (bs ++ n1) → (∀ b ∈ n1, (b.headD n0).kind = 1 → P (b.headD n0).fin) →
      (∃ ns' st' new, pr r ns1 st1 = .inl (ns', st') ∧ Jb ns' st' (bs ++ new) ∧ ∀ b ∈ new, (b.headD n0).kind = 1 → P (b.headD n0).fin) ∨
      (∃ ns' p new, pr r ns1 st1 = .inr (ns', p) ∧ Jb ns' [] (bs ++ new) ∧ ∀ b ∈ new, (b.headD n0).kind = 1 → P (b.headD n0).fin) := by
      intro ns1 st1 n1 hj hn
      have all : ∀ n2 : List (List N), (∀ b ∈ n2, (b.headD n0).kind = 1 → P (b.headD n0).fin) → ∀ b ∈ n1 ++ n2, (b.headD n0).kind = 1 → P (b.headD n0).fin := by
        intro n2 h2 b hb
        rcases List.mem_append.1 hb with hb | hb
        · exact hn b hb
        · exact h2 b hb
      rcases pr_blocks P r ns1 st1 (bs ++ n1) hj hP' with ⟨ns', st', n2, e, j, q⟩ | ⟨ns', p, n2, e, j, q⟩
      · exact .inl ⟨ns', st', n1 ++ n2, e, by rw [← List.append_assoc]; exact j, all n2 q⟩
      · exact .inr ⟨ns', p, n1 ++ n2, e, by rw [← List.append_assoc]; exact j, all n2 q⟩
    unfold pr
    by_cases h1 : t.kind = 1
    · rw [if_pos h1]
      exact glue _ _ [] (by simpa [-List.length_flatten] using jb_open t h) (by simp [-List.length_flatten])
    · rw [if_neg h1]
      by_cases h2 : t.kind = 2
      · rw [if_pos h2]
        cases st with
        | nil => exact .inr ⟨ns, t.beg, [], rfl, by simpa [-List.length_flatten] using h, by simp [-List.length_flatten]⟩
        | cons g st' =>
          obtain ⟨new, j, q⟩ := jb_close t.fin h
          refine glue _ _ new j ?_
          intro b hb _
          rw [q b hb]
          exact hP t List.mem_cons_self h2
      · rw [if_neg h2]
        obtain ⟨new, j, q⟩ := jb_atom t h h1
        exact glue _ _ new j (fun b hb e => absurd e (q b hb))
theorem jb_zero : Jb [] [] [] := ⟨by simp [-List.length_flatten], by simp [-List.length_flatten], by simp [-List.length_flatten], by simp [-List.length_flatten], by simp [-List.length_flatten], List.Pairwise.nil, by simp [-List.length_flatten]⟩
theorem pr_cons (t : Tok) (r : List Tok) (ns : List N) (st : List Nat) : pr (t :: r) ns st = if t.kind = 1 then pr r (ns ++ [newL t]) (ns.length :: st) else if t.kind = 2 then
      match st with
      | [] => .inr (ns, t.beg)
      | g :: st' => pr r (shutL ns g t.fin) st'
    else pr r (ns ++ [atom t]) st := rfl
theorem pr_append : ∀ (a b : List Tok) (ns : List N) (st : List Nat), pr (a ++ b) ns st = match pr a ns st with
    | .inl (ns', st') => pr b ns' st'
    | .inr x => .inr x
  | [], b, ns, st => rfl
  | t :: a, b, ns, st => by
    rw [List.cons_append, pr_cons, pr_cons]
    by_cases h1 : t.kind = 1
    · rw [if_pos h1, if_pos h1]
      exact pr_append a b _ _
    · rw [if_neg h1, if_neg h1]
      by_cases h2 : t.kind = 2
      · rw [if_pos h2, if_pos h2]
        cases st with
        | nil => rfl
        | cons g st' => exact pr_append a b _ _
      · rw [if_neg h2, if_neg h2]
        exact pr_append a b _ _
theorem pr_len : ∀ (r : List Tok) (ns : List N) (st : List Nat), (∀ ns' st', pr r ns st = .inl (ns', st') → ns'.length ≤ ns.length + r.length) ∧ ∀ ns' b, pr r ns st = .inr (ns', b) → ns'.length ≤ ns.length + r.length
  | [], ns, st => by
    refine ⟨fun ns' st' e => ?_, fun ns' b e => ?_⟩
    · unfold pr at e
      simp only [Sum.inl.injEq, Prod.mk.injEq] at e
      rw [e.1]
      simp
    · unfold pr at e
      simp at e
  | t :: r, ns, st => by
    have glue : ∀ (ns1 : List N) (st1 : List Nat), ns1.length ≤ ns.length + 1 → (∀ ns' st', pr r ns1 st1 = .inl (ns', st') → ns'.length ≤ ns.length + (t :: r).length) ∧ ∀ ns' b, pr r ns1 st1 = .inr (ns', b) → ns'.length ≤ ns.length + (t :: r).length := by
      intro ns1 st1 h
      obtain ⟨h1, h2⟩ := pr_len r ns1 st1
      refine ⟨fun ns' st' e => ?_, fun ns' b e => ?_⟩
      · have := h1 ns' st' e
        rw [List.length_cons]
        omega
      · have := h2 ns' b e
        rw [List.length_cons]
        omega
    rw [pr_cons]
    by_cases h1 : t.kind = 1
    · rw [if_pos h1]
      exact glue _ _ (by simp)
    · rw [if_neg h1]
      by_cases h2 : t.kind = 2
      · rw [if_pos h2]
        cases st with
        | nil =>
          refine ⟨fun ns' st' e => by simp at e, fun ns' b e => ?_⟩
          simp only [Sum.inr.injEq, Prod.mk.injEq] at e
          rw [← e.1]
          omega
        | cons g st' => exact glue _ _ (by simp [shutL])
      · rw [if_neg h2]
        exact glue _ _ (by simp)
theorem out_len (l : List Tok) (e p : Nat) : (out l e p).1.length ≤ l.length := by
  obtain ⟨h1, h2⟩ := pr_len l [] []
  rw [List.length_nil, Nat.zero_add] at h1 h2
  unfold out
  rcases hq : pr l [] [] with ⟨ns, st⟩ | ⟨ns, b⟩
  · have := h1 ns st hq
    cases st with
    | nil => exact this
    | cons g st =>
      simp only
      rw [List.length_take]
      omega
  · exact h2 ns b hq
theorem out_inl {l : List Tok} {ns : List N} {st : List Nat} {bs : List (List N)} (e p : Nat) (h : pr l [] [] = .inl (ns, st)) (hj : Jb ns st bs) : (out l e p).1 = bs.flatten := by
  obtain ⟨h1, h2, h3, h4, h5, h6, h7⟩ := hj
  unfold out
  rw [h]
  cases st with
  | nil =>
    simp only
    rw [← h3, ← h4 rfl, List.take_length]
  | cons g st =>
    simp only
    rw [h5 (by simp [-List.length_flatten]), h3]
theorem out_inr {l : List Tok} {ns : List N} {b : Nat} {bs : List (List N)} (e p : Nat) (h : pr l [] [] = .inr (ns, b)) (hj : Jb ns [] bs) : (out l e p).1 = bs.flatten := by
  obtain ⟨h1, h2, h3, h4, h5, h6, h7⟩ := hj
  unfold out
  rw [h]
  simp only
  rw [← h3, ← h4 rfl, List.take_length]
/-- Behind the last list. -/
def endOf : List (List N) → Nat → Nat → Nat
  | [], _, e => e
  | b :: bs, i, e => endOf bs (i + b.length) (if (b.headD n0).kind = 1 then i + b.length else e)
theorem endOf_atoms : ∀ (bs : List (List N)) (i e : Nat), (∀ b ∈ bs, (b.headD n0).kind ≠ 1) → endOf bs i e = e
  | [], i, e, _ => rfl
  | b :: bs, i, e, h => by
    unfold endOf
    rw [if_neg (h b List.mem_cons_self)]
    exact endOf_atoms bs _ _ (fun b hb => h b (List.mem_cons_of_mem _ hb))
theorem endOf_cons (b : List N) (bs : List (List N)) (i e : Nat) : endOf (b :: bs) i e = endOf bs (i + b.length) (if (b.headD n0).kind = 1 then i + b.length else e) := rfl
theorem flat_cons (b : List N) (bs : List (List N)) : (b :: bs).flatten.length = b.length + bs.flatten.length := by rw [List.flatten_cons, List.length_append]
theorem endOf_append : ∀ (a b : List (List N)) (i e : Nat), endOf (a ++ b) i e = endOf b (i + a.flatten.length) (endOf a i e)
  | [], b, i, e => by rw [List.nil_append, List.flatten_nil]; rfl
  | x :: a, b, i, e => by
    rw [List.cons_append, endOf_cons, endOf_append a b, flat_cons, endOf_cons, Nat.add_assoc]
theorem endOf_le : ∀ (a : List (List N)) (i e : Nat), e ≤ i → endOf a i e ≤ i + a.flatten.length
  | [], i, e, h => by simpa [endOf] using h
  | x :: a, i, e, h => by
    have := endOf_le a (i + x.length) (if (x.headD n0).kind = 1 then i + x.length else e) (by split <;> omega)
    rw [endOf_cons, flat_cons]
    omega
theorem endOf_ge : ∀ (a : List (List N)) (i e : Nat), e ≤ i → e ≤ endOf a i e
  | [], i, e, h => Nat.le_refl _
  | x :: a, i, e, h => by
    have := endOf_ge a (i + x.length) (if (x.headD n0).kind = 1 then i + x.length else e) (by split <;> omega)
    rw [endOf_cons]
    by_cases h' : (x.headD n0).kind = 1
    · rw [if_pos h'] at this ⊢
      omega
    · rw [if_neg h'] at this ⊢
      exact this
/-- A list among blocks ends ahead of the end of the last one. -/
theorem endOf_list : ∀ (a b : List (List N)) (x : List N) (i e : Nat), e ≤ i → (x.headD n0).kind = 1 → i + a.flatten.length + x.length ≤ endOf (a ++ x :: b) i e
  | [], b, x, i, e, h, hk => by
    rw [List.nil_append, endOf_cons, if_pos hk]
    have := endOf_ge b (i + x.length) (i + x.length) (Nat.le_refl _)
    rw [List.flatten_nil, List.length_nil]
    omega
  | y :: a, b, x, i, e, h, hk => by
    have := endOf_list a b x (i + y.length) (if (y.headD n0).kind = 1 then i + y.length else e) (by split <;> omega) hk
    rw [List.cons_append, endOf_cons, flat_cons]
    omega
/-- The front of a text and the whole: blocks that both have, then atoms alone in the front, and in the whole lists that end behind the cut. -/
theorem cut_blocks (res : List UInt8 → Bool) (s : List UInt8) (n : Nat) (hn : n ≤ s.length) (e p e' p' : Nat) :
    ∃ bs f a : List (List N), (∀ b ∈ bs ++ f, Blk b) ∧ (∀ b ∈ bs ++ a, Blk b) ∧ (out (run res .idle (s.take n) 0).1 e' p').1 = (bs ++ f).flatten ∧ (out (run res .idle s 0).1 e p).1 = (bs ++ a).flatten ∧
      (∀ b ∈ f, (b.headD n0).kind ≠ 1) ∧ (∀ b ∈ a, (b.headD n0).kind = 1 → n < (b.headD n0).fin) := by
  obtain ⟨R, h1, h2, h3⟩ := feed_certain res s n hn
  obtain ⟨S, k1, k2⟩ : ∃ S, (run res .idle (s.take n) 0).1 = (feed res .idle (s.take n) 0).1 ++ S ∧ ∀ t ∈ S, t.kind ≠ 1 ∧ t.kind ≠ 2 := by
    have ha := run_append res [] (s.take n) .idle 0
    rw [List.append_nil] at ha
    obtain ⟨g1, g2⟩ := feed_fits res s (s.take n) (s.drop n) .idle 0 (by simp [-List.length_flatten]) trivial
    rcases hq : (feed res .idle (s.take n) 0).2 with q' | ⟨e, p⟩
    · rw [hq] at ha
      simp only at ha
      refine ⟨(stop res q' (0 + (s.take n).length)).1, by rw [ha]; rfl, ?_⟩
      intro t ht
      have := (stop_fits res s q' _ (g2 q' hq) t ht).2
      exact ⟨fun e => this (.inl e), fun e => this (.inr (.inl e))⟩
    · rw [hq] at ha
      exact ⟨[], by rw [ha, List.append_nil], by simp [-List.length_flatten]⟩
  have hR : ∀ t ∈ R, t.kind = 2 → n < t.fin := by
    intro t ht hk
    rcases h3 t ht with h | h
    · exact h
    · exact absurd (.inr (.inl hk)) h.2
  rw [h1, k1]
  generalize (feed res .idle (s.take n) 0).1 = C at *
  rcases pr_blocks (fun _ => True) C [] [] [] jb_zero (fun _ _ _ => trivial) with ⟨ns, st, bs, e1, j, _⟩ | ⟨ns, q, bs, e1, j, _⟩
  · rw [List.nil_append] at j
    have hf : ∃ f, (∀ b ∈ bs ++ f, Blk b) ∧ (out (C ++ S) e' p').1 = (bs ++ f).flatten ∧ ∀ b ∈ f, (b.headD n0).kind ≠ 1 := by
      have ea := pr_append C S [] []
      rw [e1] at ea
      simp only at ea
      rcases pr_blocks (fun _ => False) S ns st bs j (fun t ht e => absurd e (k2 t ht).2) with ⟨ns', st', f, e2, j2, q2⟩ | ⟨ns', q, f, e2, j2, q2⟩
      · rw [e2] at ea
        exact ⟨f, j2.1, out_inl e' p' ea j2, q2⟩
      · rw [e2] at ea
        exact ⟨f, j2.1, out_inr e' p' ea j2, q2⟩
    have hA : ∃ a, (∀ b ∈ bs ++ a, Blk b) ∧ (out (C ++ R) e p).1 = (bs ++ a).flatten ∧ ∀ b ∈ a, (b.headD n0).kind = 1 → n < (b.headD n0).fin := by
      have ea := pr_append C R [] []
      rw [e1] at ea
      simp only at ea
      rcases pr_blocks (fun z => n < z) R ns st bs j hR with ⟨ns', st', f, e2, j2, q2⟩ | ⟨ns', q, f, e2, j2, q2⟩
      · rw [e2] at ea
        exact ⟨f, j2.1, out_inl e p ea j2, q2⟩
      · rw [e2] at ea
        exact ⟨f, j2.1, out_inr e p ea j2, q2⟩
    obtain ⟨f, f1, f2, f3⟩ := hf
    obtain ⟨a, a1, a2, a3⟩ := hA
    exact ⟨bs, f, a, f1, a1, f2, a2, f3, a3⟩
  · rw [List.nil_append] at j
    have e3 : ∀ x, pr (C ++ x) [] [] = .inr (ns, q) := by
      intro x
      rw [pr_append C x [] [], e1]
    exact ⟨bs, [], [], by simpa [-List.length_flatten] using j.1, by simpa [-List.length_flatten] using j.1, by simpa [-List.length_flatten] using out_inr e' p' (e3 S) j, by simpa [-List.length_flatten] using out_inr e p (e3 R) j, by simp [-List.length_flatten], by simp [-List.length_flatten]⟩
/-- Where a block begins. -/
theorem starts {bs : List (List N)} {k : Nat} (hk : k < bs.length) (hB : ∀ b ∈ bs, Blk b) :
    (bs.take k).flatten.length < bs.flatten.length ∧ bs.flatten.getD (bs.take k).flatten.length n0 = (bs.getD k []).headD n0 ∧ ((bs.getD k []).headD n0).size = (bs.getD k []).length ∧ 0 < (bs.getD k []).length ∧ (bs.take (k + 1)).flatten.length = (bs.take k).flatten.length + (bs.getD k []).length ∧ (bs.take (k + 1)).flatten.length ≤ bs.flatten.length := by
  obtain ⟨x, hx⟩ : ∃ x, bs[k] = x := ⟨_, rfl⟩
  have hb := hB _ (List.getElem_mem hk)
  rw [hx] at hb
  have hg : bs.getD k [] = x := by rw [List.getD_eq_getElem?_getD, List.getElem?_eq_getElem hk, hx]; rfl
  have e : bs.flatten = (bs.take k).flatten ++ (x ++ (bs.drop (k + 1)).flatten) := by
    conv => lhs; rw [← List.take_append_drop k bs, List.drop_eq_getElem_cons hk, hx]
    simp [-List.length_flatten]
  have e1 : (bs.take (k + 1)).flatten.length = (bs.take k).flatten.length + x.length := by
    rw [List.take_succ_eq_append_getElem hk, hx]
    simp [-List.length_flatten]
  have hp : 0 < x.length := List.length_pos_iff.2 hb.1
  rw [hg]
  have el := congrArg List.length e
  rw [List.length_append, List.length_append] at el
  refine ⟨by omega, ?_, hb.2.1, hp, e1, by omega⟩
  conv => lhs; arg 1; rw [e]
  rw [List.getD_eq_getElem?_getD, List.getElem?_append_right (Nat.le_refl _), Nat.sub_self]
  cases x with
  | nil => exact absurd rfl hb.1
  | cons y ys => rfl
theorem endOf_take {bs : List (List N)} {k : Nat} (hk : k < bs.length) : endOf (bs.take (k + 1)) 0 0 = if ((bs.getD k []).headD n0).kind = 1 then (bs.take k).flatten.length + (bs.getD k []).length else endOf (bs.take k) 0 0 := by
  have hg : bs.getD k [] = bs[k] := by rw [List.getD_eq_getElem?_getD, List.getElem?_eq_getElem hk]; rfl
  rw [List.take_succ_eq_append_getElem hk, endOf_append, hg]
  rw [endOf_cons, Nat.zero_add]
  rfl
/-- What TopCut looks at behind the end: no list that stands outermost ends within the front. -/
theorem cut_behind {bs a : List (List N)} {n k : Nat} (hA : ∀ b ∈ a, (b.headD n0).kind = 1 → n < (b.headD n0).fin) (hk : k < (bs ++ a).length)
    (he : endOf bs 0 0 ≤ ((bs ++ a).take k).flatten.length) (h1 : (((bs ++ a).getD k []).headD n0).kind = 1) (hB : ∀ b ∈ bs ++ a, Blk b) : n < (((bs ++ a).getD k []).headD n0).fin := by
  have hg : (bs ++ a).getD k [] = (bs ++ a)[k] := by rw [List.getD_eq_getElem?_getD, List.getElem?_eq_getElem hk]; rfl
  rw [hg] at h1 ⊢
  by_cases hkb : k < bs.length
  · exfalso
    have hx : (bs ++ a)[k] = bs[k] := List.getElem_append_left hkb
    rw [hx] at h1
    have h2 := endOf_list (bs.take k) (bs.drop (k + 1)) bs[k] 0 0 (Nat.le_refl _) h1
    rw [← List.drop_eq_getElem_cons hkb, List.take_append_drop] at h2
    rw [List.take_append_of_le_length (by omega)] at he
    have := hB bs[k] (List.mem_append_left _ (List.getElem_mem hkb))
    have := List.length_pos_iff.2 this.1
    omega
  · have hx : (bs ++ a)[k] = a[k - bs.length]'(by rw [List.length_append] at hk; omega) := List.getElem_append_right (by omega)
    rw [hx] at h1 ⊢
    exact hA _ (List.getElem_mem _) h1
end Go.Proofs.YtackibimlpkcmaaDoor.X
