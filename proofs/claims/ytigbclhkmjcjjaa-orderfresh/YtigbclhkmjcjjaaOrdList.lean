/-
  Those that wait, in their order: one list; what Take and Waiting answer of it.
-/
import Derived.Test.YtigbclhkmjcjjaaOrdFit
namespace Go.Proofs.Ytigbclhkmjcjjaa
open Go.RowKit
set_option linter.unusedVariables false
namespace O
theorem pw_uniq {A : List Nat} : ∀ {l l' : List Nat}, l.Pairwise (fun a b => ahd A a b = true) → l'.Pairwise (fun a b => ahd A a b = true) → (∀ v, v ∈ l ↔ v ∈ l') → l = l'
  | [], [], _, _, _ => rfl
  | [], y :: t, _, _, h => absurd ((h y).2 (List.mem_cons_self ..)) (by simp)
  | x :: t, [], _, _, h => absurd ((h x).1 (List.mem_cons_self ..)) (by simp)
  | x :: t, y :: t', hx, hy, h => by
    rw [List.pairwise_cons] at hx hy
    have e : x = y := by
      by_cases c : x = y
      · exact c
      · have m1 : x ∈ t' := by
          rcases List.mem_cons.1 ((h x).1 (List.mem_cons_self ..)) with q | q
          · exact absurd q c
          · exact q
        have m2 : y ∈ t := by
          rcases List.mem_cons.1 ((h y).2 (List.mem_cons_self ..)) with q | q
          · exact absurd q.symm c
          · exact q
        have b := hy.1 x m1
        rw [ahd_asymm (hx.1 y m2)] at b
        cases b
    subst e
    have nt : ∀ {l : List Nat}, (∀ b, b ∈ l → ahd A x b = true) → x ∉ l := fun hl c => by
      have := hl x c
      rw [ahd_irr] at this
      cases this
    have et : t = t' := pw_uniq hx.2 hy.2 (fun v => by
      constructor
      · intro hv
        rcases List.mem_cons.1 ((h v).1 (List.mem_cons_of_mem _ hv)) with q | q
        · subst q; exact absurd hv (nt hx.1)
        · exact q
      · intro hv
        rcases List.mem_cons.1 ((h v).2 (List.mem_cons_of_mem _ hv)) with q | q
        · subst q; exact absurd hv (nt hy.1)
        · exact q)
    rw [et]
/-- The list of those that wait, in their order. -/
def Lst (A : List Nat) (n : Nat) (W : Nat → Prop) (l : List Nat) : Prop := l.Pairwise (fun a b => ahd A a b = true) ∧ ∀ v, v ∈ l ↔ (1 ≤ v ∧ v ≤ n ∧ W v)
theorem Lst.uniq {A : List Nat} {n : Nat} {W : Nat → Prop} {l l' : List Nat} (h : Lst A n W l) (h' : Lst A n W l') : l = l' :=
  pw_uniq h.1 h'.1 (fun v => (h.2 v).trans (h'.2 v).symm)
theorem Lst.congr {A : List Nat} {n : Nat} {W W' : Nat → Prop} {l : List Nat} (h : Lst A n W l) (e : ∀ v, 1 ≤ v → v ≤ n → (W v ↔ W' v)) : Lst A n W' l :=
  ⟨h.1, fun v => (h.2 v).trans ⟨fun ⟨a, b, c⟩ => ⟨a, b, (e v a b).1 c⟩, fun ⟨a, b, c⟩ => ⟨a, b, (e v a b).2 c⟩⟩⟩
theorem Lst.nodup {A : List Nat} {n : Nat} {W : Nat → Prop} {l : List Nat} (h : Lst A n W l) : l.Nodup :=
  h.1.imp (fun {a b} hab c => by subst c; rw [ahd_irr] at hab; cases hab)
/-- Who is ahead of all stands first. -/
theorem Lst.first {A : List Nat} {n : Nat} {W : Nat → Prop} {l : List Nat} {v : Nat} (h : Lst A n W l) (h1 : 1 ≤ v) (h2 : v ≤ n) (hW : W v) (hb : ∀ u, 1 ≤ u → u ≤ n → W u → u ≠ v → ahd A v u = true) : ∃ t, l = v :: t ∧ Lst A n (fun u => W u ∧ u ≠ v) t := by
  obtain ⟨p, m⟩ := h
  cases l with
  | nil => exact absurd ((m v).2 ⟨h1, h2, hW⟩) (by simp)
  | cons x t =>
    rw [List.pairwise_cons] at p
    have hx := (m x).1 (List.mem_cons_self ..)
    have e : x = v := by
      by_cases c : x = v
      · exact c
      · rcases List.mem_cons.1 ((m v).2 ⟨h1, h2, hW⟩) with q | q
        · exact q.symm
        · have a := p.1 v q
          rw [ahd_asymm (hb x hx.1 hx.2.1 hx.2.2 c)] at a
          cases a
    subst e
    refine ⟨t, rfl, p.2, fun u => ?_⟩
    constructor
    · intro hu
      have hm := (m u).1 (List.mem_cons_of_mem _ hu)
      refine ⟨hm.1, hm.2.1, hm.2.2, fun c => ?_⟩
      subst c
      have := p.1 u hu
      rw [ahd_irr] at this
      cases this
    · rintro ⟨a, b, c, d⟩
      rcases List.mem_cons.1 ((m u).2 ⟨a, b, c⟩) with q | q
      · exact absurd q d
      · exact q
theorem Lst.head {A : List Nat} {n : Nat} {W : Nat → Prop} {v : Nat} {t : List Nat} (h : Lst A n W (v :: t)) : (1 ≤ v ∧ v ≤ n ∧ W v) ∧ ∀ u, 1 ≤ u → u ≤ n → W u → u ≠ v → ahd A v u = true := by
  refine ⟨(h.2 v).1 (List.mem_cons_self ..), fun u a b c d => ?_⟩
  rcases List.mem_cons.1 ((h.2 u).2 ⟨a, b, c⟩) with q | q
  · exact absurd q d
  · exact (List.pairwise_cons.1 h.1).1 u q
theorem mem_getD {H : List Nat} {v : Nat} : v ∈ H ↔ ∃ i, i < H.length ∧ H.getD i 0 = v := by
  rw [List.mem_iff_getElem]
  constructor
  · rintro ⟨i, hi, e⟩
    exact ⟨i, hi, by rw [List.getD_eq_getElem?_getD, List.getElem?_eq_getElem hi]; exact e⟩
  · rintro ⟨i, hi, e⟩
    refine ⟨i, hi, ?_⟩
    rw [List.getD_eq_getElem?_getD, List.getElem?_eq_getElem hi] at e
    exact e
theorem HV.mem {n : Nat} {H : List Nat} {pl : List Int} (h : HV n H pl) (v : Nat) : v ∈ H ↔ (1 ≤ v ∧ v ≤ n ∧ pl.getD v 0 ≠ -1) := by
  rw [mem_getD]
  constructor
  · rintro ⟨i, hi, rfl⟩
    have := h.2.2.1 i hi
    refine ⟨this.1, this.2.1, ?_⟩
    rw [this.2.2]
    omega
  · rintro ⟨a, b, c⟩
    rcases h.2.2.2 v a b with d | ⟨i, hi, _, e⟩
    · exact absurd d c
    · exact ⟨i, hi, e⟩
theorem HV.nodup {n : Nat} {H : List Nat} {pl : List Int} (h : HV n H pl) : H.Nodup := by
  rw [List.nodup_iff_pairwise_ne, List.pairwise_iff_getElem]
  intro i j hi hj hij c
  have := h.inj hi hj (by rw [List.getD_eq_getElem?_getD, List.getElem?_eq_getElem hi, List.getD_eq_getElem?_getD, List.getElem?_eq_getElem hj]; exact c)
  omega
theorem lst_of_perm {n : Nat} {A H l : List Nat} {pl : List Int} (h : HV n H pl) (p : l.Perm H) (hs : l.Pairwise (fun a b => ahd A b a = false)) : Lst A n (fun v => pl.getD v 0 ≠ -1) l := by
  have nd : l.Nodup := p.nodup_iff.2 h.nodup
  refine ⟨?_, fun v => (p.mem_iff).trans (h.mem v)⟩
  refine (hs.and nd).imp ?_
  rintro a b ⟨h1, h2⟩
  rcases ahd_total (A := A) h2 with q | q
  · exact q
  · rw [h1] at q; cases q
theorem lst_nil {n : Nat} {A H : List Nat} {pl : List Int} (h : HV n H pl) (h0 : Lst A n (fun v => pl.getD v 0 ≠ -1) []) : H = [] := by
  cases H with
  | nil => rfl
  | cons x t => exact absurd ((h0.2 x).2 ((h.mem x).1 (List.mem_cons_self ..))) (by simp)
end O
/-- The list of an order. -/
abbrev Wl (o : Oid) (s : OS) (l : List Nat) : Prop := O.Lst s.A o.n (fun v => s.pl.getD v 0 ≠ -1) l
theorem take_end (w : World) (o : Oid) (s : OS) (h : Good w o s) (hl : Wl o s []) : Calls Try.prog 16 #[optr o] w fun e w' => e = .returned (.int .i64 0) ∧ w' = w := by
  refine take_none w o s h.ord ?_
  have := O.lst_nil h.hv hl
  have hn := h.len
  rw [this] at hn
  exact hn.symm
theorem take_next (w : World) (o : Oid) (s : OS) (h : Good w o s) (v : Nat) (t : List Nat) (hl : Wl o s (v :: t)) :
    Calls Try.prog 16 #[optr o] w fun e w' => e = .returned (.int .i64 (v : Nat)) ∧
      (∃ s', Good w' o s' ∧ s'.A = s.A ∧ s'.r = s.r ∧ s'.ph = s.ph ∧ Wl o s' t ∧ ∀ u, s'.pl.getD u 0 = -1 ↔ (s.pl.getD u 0 = -1 ∨ u = v)) ∧ Chg (blks o) w w' := by
  have hlen := h.len
  have h0 : 0 < s.hl := by
    rcases Nat.eq_zero_or_pos s.hl with c | c
    · have e : s.Z.take s.hl = [] := List.eq_nil_of_length_eq_zero (by omega)
      have := (h.hv.mem v).2 ((hl.2 v).1 (List.mem_cons_self ..))
      rw [e] at this
      cases this
    · exact c
  have et : (s.Z.take s.hl).getD 0 0 = s.Z.getD 0 0 := O.take_getD h0
  have b0 := h.hv.2.2.1 0 (by omega)
  have ht := O.heap_top h.heap
  rw [et] at b0 ht
  obtain ⟨t', e, ht'⟩ := hl.first b0.1 b0.2.1 (by show _ ≠ _; rw [b0.2.2]; omega) (fun u u1 u2 hu hne => by
    obtain ⟨i, hi, e⟩ := O.mem_getD.1 ((h.hv.mem u).2 ⟨u1, u2, hu⟩)
    rcases O.ahd_total (A := s.A) hne with q | q
    · rw [← e, ht i hi] at q; cases q
    · exact q)
  cases e
  refine (take_calls w o s h h0).mono ?_
  rintro e w' ⟨rfl, ⟨s', g, eA, eR, eP, eL, eW⟩, c⟩
  refine ⟨rfl, ⟨s', g, eA, eR, eP, ?_, eW⟩, c⟩
  show O.Lst s'.A o.n _ t
  rw [eA]
  refine ht'.congr (fun u _ _ => ?_)
  have := eW u
  constructor
  · rintro ⟨a, b⟩ c
    exact (this.1 c).elim a b
  · intro c
    exact ⟨fun a => c (this.2 (.inl a)), fun a => c (this.2 (.inr a))⟩
end Go.Proofs.Ytigbclhkmjcjjaa
