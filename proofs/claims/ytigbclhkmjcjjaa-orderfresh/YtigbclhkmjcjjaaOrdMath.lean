/-
  The order of variables and the heap, as plain functions of lists: what lift and sink do.
-/
namespace Go.Proofs.Ytigbclhkmjcjjaa.O
set_option linter.unusedVariables false
/-- Is a to be taken ahead of b? -/
def ahd (A : List Nat) (a b : Nat) : Bool := if A.getD a 0 = A.getD b 0 then decide (a < b) else decide (A.getD b 0 < A.getD a 0)
theorem ahd_irr (A : List Nat) (a : Nat) : ahd A a a = false := by simp [ahd]
theorem ahd_asymm {A : List Nat} {a b : Nat} (h : ahd A a b = true) : ahd A b a = false := by
  unfold ahd at *
  generalize A.getD a 0 = x at *
  generalize A.getD b 0 = y at *
  by_cases e : x = y
  · rw [if_pos e] at h
    rw [if_pos e.symm]
    simp only [decide_eq_true_eq, decide_eq_false_iff_not] at h ⊢
    omega
  · rw [if_neg e] at h
    rw [if_neg (Ne.symm e)]
    simp only [decide_eq_true_eq, decide_eq_false_iff_not] at h ⊢
    omega
/-- Who is ahead of c is ahead of b, or b is ahead of c. -/
theorem ahd_neg {A : List Nat} {a b c : Nat} (h : ahd A a c = true) : ahd A a b = true ∨ ahd A b c = true := by
  unfold ahd at *
  generalize A.getD a 0 = x at *
  generalize A.getD b 0 = y at *
  generalize A.getD c 0 = z at *
  by_cases e1 : x = z <;> by_cases e2 : x = y <;> by_cases e3 : y = z <;> simp only [e1, e2, e3, if_true, if_false, decide_eq_true_eq] at h ⊢ <;> (try subst e1) <;> (try subst e2) <;> (try subst e3) <;> first | omega | (simp_all; omega)
theorem ahd_trans {A : List Nat} {a b c : Nat} (h1 : ahd A a b = true) (h2 : ahd A b c = true) : ahd A a c = true := by
  rcases ahd_neg (b := c) h1 with h | h
  · exact h
  · rw [ahd_asymm h2] at h
    cases h
theorem not_trans {A : List Nat} {a b c : Nat} (h1 : ahd A a b = false) (h2 : ahd A b c = false) : ahd A a c = false := by
  cases h : ahd A a c
  · rfl
  · rcases ahd_neg (b := b) h with h' | h'
    · rw [h1] at h'; cases h'
    · rw [h2] at h'; cases h'
theorem ahd_total {A : List Nat} {a b : Nat} (h : a ≠ b) : ahd A a b = true ∨ ahd A b a = true := by
  unfold ahd
  generalize A.getD a 0 = x at *
  generalize A.getD b 0 = y at *
  by_cases e : x = y
  · rw [if_pos e, if_pos e.symm]
    simp only [decide_eq_true_eq]
    omega
  · rw [if_neg e, if_neg (Ne.symm e)]
    simp only [decide_eq_true_eq]
    omega
/-- Two places changed over. -/
def swp (H : List Nat) (i j : Nat) : List Nat := (H.set i (H.getD j 0)).set j (H.getD i 0)
theorem swp_length (H : List Nat) (i j : Nat) : (swp H i j).length = H.length := by simp [swp]
theorem getD_set' {α : Type} (l : List α) (i k : Nat) (x d : α) : (l.set i x).getD k d = if i = k ∧ k < l.length then x else l.getD k d := by
  rw [List.getD_eq_getElem?_getD, List.getElem?_set]
  by_cases h : i = k
  · subst h
    rw [if_pos rfl]
    by_cases h2 : i < l.length
    · rw [if_pos h2, if_pos ⟨rfl, h2⟩]; rfl
    · rw [if_neg h2, if_neg (fun c => h2 c.2), List.getD_eq_getElem?_getD, List.getElem?_eq_none (by omega)]
  · rw [if_neg h, if_neg (fun c => h c.1), ← List.getD_eq_getElem?_getD]
theorem swp_at (H : List Nat) {i j : Nat} (hi : i < H.length) (hj : j < H.length) (k : Nat) : (swp H i j).getD k 0 = if k = j then H.getD i 0 else if k = i then H.getD j 0 else H.getD k 0 := by
  unfold swp
  rw [getD_set', getD_set', List.length_set]
  by_cases h1 : k = j
  · subst h1
    rw [if_pos ⟨rfl, hj⟩, if_pos rfl]
  · rw [if_neg (fun c => h1 c.1.symm), if_neg h1]
    by_cases h2 : k = i
    · subst h2
      rw [if_pos ⟨rfl, hi⟩, if_pos rfl]
    · rw [if_neg (fun c => h2 c.1.symm), if_neg h2]
abbrev par (i : Nat) : Nat := (i - 1) / 2
def ok (A H : List Nat) (i : Nat) : Prop := ahd A (H.getD i 0) (H.getD (par i) 0) = false
/-- From the place k on nobody is behind those below. -/
def HeapFrom (A H : List Nat) (k : Nat) : Prop := ∀ i, 0 < i → i < H.length → k ≤ par i → ok A H i
abbrev Heap (A H : List Nat) : Prop := HeapFrom A H 0
/-- All is well but for the place i, which may be ahead of its parent. -/
def Up (A H : List Nat) (p : Nat) : Prop :=
  (∀ i, 0 < i → i < H.length → i ≠ p → ok A H i) ∧ (0 < p → ∀ i, 0 < i → i < H.length → par i = p → ahd A (H.getD i 0) (H.getD (par p) 0) = false)
theorem up_done {A H : List Nat} {p : Nat} (h : Up A H p) (hp : p = 0 ∨ ok A H p) : Heap A H := by
  intro i h0 hl _
  by_cases e : i = p
  · subst e
    rcases hp with hp | hp
    · omega
    · exact hp
  · exact h.1 i h0 hl e
theorem up_step {A H : List Nat} {p : Nat} (h : Up A H p) (hp : 0 < p) (hl : p < H.length) (ha : ahd A (H.getD p 0) (H.getD (par p) 0) = true) : Up A (swp H p (par p)) (par p) := by
  have hpp : par p < p := by unfold par; omega
  have hs := fun k => swp_at H hl (by omega : par p < H.length) k
  have eP : (swp H p (par p)).getD (par p) 0 = H.getD p 0 := by rw [hs, if_pos rfl]
  have eC : (swp H p (par p)).getD p 0 = H.getD (par p) 0 := by rw [hs, if_neg (by omega), if_pos rfl]
  have eO : ∀ k, k ≠ p → k ≠ par p → (swp H p (par p)).getD k 0 = H.getD k 0 := fun k h1 h2 => by rw [hs, if_neg h2, if_neg h1]
  refine ⟨fun i h0 hi hne => ?_, fun h0p i h0 hi hpi => ?_⟩
  · rw [swp_length] at hi
    unfold ok
    by_cases e1 : i = p
    · subst e1
      rw [eC, eP]
      exact ahd_asymm ha
    · rw [eO i e1 hne]
      have hi2 := h.1 i h0 hi e1
      by_cases e2 : par i = p
      · rw [e2, eC]
        exact h.2 hp i h0 hi e2
      · by_cases e3 : par i = par p
        · rw [e3, eP]
          unfold ok at hi2
          rw [e3] at hi2
          exact not_trans hi2 (ahd_asymm ha)
        · rw [eO (par i) e2 e3]
          exact hi2
  · rw [swp_length] at hi
    have hq : par (par p) ≠ p ∧ par (par p) ≠ par p := by unfold par at *; omega
    rw [eO (par (par p)) hq.1 hq.2]
    have hpo := h.1 (par p) h0p (by omega) (by omega)
    by_cases e1 : i = p
    · subst e1
      rw [eC]
      exact hpo
    · have e2 : i ≠ par p := by unfold par at *; omega
      rw [eO i e1 e2]
      have hi2 := h.1 i h0 hi e1
      unfold ok at hi2 hpo
      rw [hpi] at hi2
      exact not_trans hi2 hpo
/-- From k on all is well but for the place p, whose children may be ahead of it. -/
def Dn (A H : List Nat) (k p : Nat) : Prop :=
  (∀ i, 0 < i → i < H.length → k ≤ par i → par i ≠ p → ok A H i) ∧ (0 < p → k ≤ par p → ∀ i, 0 < i → i < H.length → par i = p → ahd A (H.getD i 0) (H.getD (par p) 0) = false)
/-- The foremost of a place and its children. -/
def best (A H : List Nat) (p : Nat) : Nat :=
  let f1 := if 2 * p + 1 < H.length ∧ ahd A (H.getD (2 * p + 1) 0) (H.getD p 0) = true then 2 * p + 1 else p
  if 2 * p + 2 < H.length ∧ ahd A (H.getD (2 * p + 2) 0) (H.getD f1 0) = true then 2 * p + 2 else f1
theorem best_is (A H : List Nat) (p : Nat) : (best A H p = p ∨ ((best A H p = 2 * p + 1 ∨ best A H p = 2 * p + 2) ∧ best A H p < H.length ∧ ahd A (H.getD (best A H p) 0) (H.getD p 0) = true)) ∧
    (∀ i, 0 < i → i < H.length → par i = p → ahd A (H.getD i 0) (H.getD (best A H p) 0) = false) := by
  unfold best
  have hpar : ∀ i, 0 < i → par i = p → i = 2 * p + 1 ∨ i = 2 * p + 2 := fun i h0 h => by unfold par at h; omega
  by_cases c1 : 2 * p + 1 < H.length ∧ ahd A (H.getD (2 * p + 1) 0) (H.getD p 0) = true
  · simp only [if_pos c1]
    by_cases c2 : 2 * p + 2 < H.length ∧ ahd A (H.getD (2 * p + 2) 0) (H.getD (2 * p + 1) 0) = true
    · rw [if_pos c2]
      refine ⟨.inr ⟨.inr rfl, c2.1, ahd_trans c2.2 c1.2⟩, fun i h0 hl hp => ?_⟩
      rcases hpar i h0 hp with rfl | rfl
      · exact ahd_asymm c2.2
      · exact ahd_irr _ _
    · rw [if_neg c2]
      refine ⟨.inr ⟨.inl rfl, c1.1, c1.2⟩, fun i h0 hl hp => ?_⟩
      rcases hpar i h0 hp with rfl | rfl
      · exact ahd_irr _ _
      · cases h : ahd A (H.getD (2 * p + 2) 0) (H.getD (2 * p + 1) 0)
        · rfl
        · exact absurd ⟨hl, h⟩ c2
  · simp only [if_neg c1]
    by_cases c2 : 2 * p + 2 < H.length ∧ ahd A (H.getD (2 * p + 2) 0) (H.getD p 0) = true
    · rw [if_pos c2]
      refine ⟨.inr ⟨.inr rfl, c2.1, c2.2⟩, fun i h0 hl hp => ?_⟩
      rcases hpar i h0 hp with rfl | rfl
      · cases h : ahd A (H.getD (2 * p + 1) 0) (H.getD (2 * p + 2) 0)
        · rfl
        · exact absurd ⟨hl, ahd_trans h c2.2⟩ c1
      · exact ahd_irr _ _
    · rw [if_neg c2]
      refine ⟨.inl rfl, fun i h0 hl hp => ?_⟩
      rcases hpar i h0 hp with rfl | rfl
      · cases h : ahd A (H.getD (2 * p + 1) 0) (H.getD p 0)
        · rfl
        · exact absurd ⟨hl, h⟩ c1
      · cases h : ahd A (H.getD (2 * p + 2) 0) (H.getD p 0)
        · rfl
        · exact absurd ⟨hl, h⟩ c2
theorem dn_done {A H : List Nat} {k p : Nat} (h : Dn A H k p) (hb : best A H p = p) : HeapFrom A H k := by
  intro i h0 hl hk
  by_cases e : par i = p
  · have := (best_is A H p).2 i h0 hl e
    rw [hb] at this
    unfold ok
    rw [e]
    exact this
  · exact h.1 i h0 hl hk e
theorem dn_step {A H : List Nat} {k p : Nat} (h : Dn A H k p) (hk : k ≤ p) (hb : best A H p ≠ p) (hp : p < H.length) : Dn A (swp H p (best A H p)) k (best A H p) ∧ best A H p < H.length ∧ p < best A H p := by
  obtain ⟨b1, b2⟩ := best_is A H p
  rcases b1 with b1 | ⟨b1, bl, ba⟩
  · exact absurd b1 hb
  have hpb : par (best A H p) = p := by unfold par; omega
  have hlt : p < best A H p := by omega
  generalize best A H p = c at *
  have hs := fun x => swp_at H hp bl x
  have eC : (swp H p c).getD c 0 = H.getD p 0 := by rw [hs, if_pos rfl]
  have eP : (swp H p c).getD p 0 = H.getD c 0 := by rw [hs, if_neg (by omega), if_pos rfl]
  have eO : ∀ x, x ≠ p → x ≠ c → (swp H p c).getD x 0 = H.getD x 0 := fun x h1 h2 => by rw [hs, if_neg h2, if_neg h1]
  refine ⟨⟨fun i h0 hi hki hne => ?_, fun h0c hkc i h0 hi hpi => ?_⟩, bl, hlt⟩
  · rw [swp_length] at hi
    unfold ok
    by_cases e1 : par i = p
    · rw [e1, eP]
      by_cases e2 : i = c
      · subst e2
        rw [eC]
        exact ahd_asymm ba
      · rw [eO i (by unfold par at e1; omega) e2]
        exact b2 i h0 hi e1
    · by_cases e2 : i = p
      · subst e2
        rw [eP, eO (par i) (by unfold par; omega) hne]
        exact h.2 h0 hki c (by omega) bl hpb
      · have e3 : i ≠ c := by rintro rfl; exact e1 hpb
        rw [eO i e2 e3, eO (par i) e1 hne]
        exact h.1 i h0 hi hki e1
  · rw [swp_length] at hi
    have e1 : i ≠ p := by unfold par at hpi; omega
    have e2 : i ≠ c := by unfold par at hpi; omega
    rw [eO i e1 e2, hpb, eP]
    have := h.1 i h0 hi (by rw [hpi]; omega) (by omega)
    unfold ok at this
    rw [hpi] at this
    exact this
/- Places. -/
def cnt (pl : List Int) : Nat := (pl.drop 1).countP (fun z => z != -1)
/-- Who waits is where the places say, and nobody else. -/
def HV (n : Nat) (H : List Nat) (pl : List Int) : Prop :=
  pl.length = n + 1 ∧ H.length = cnt pl ∧ (∀ i, i < H.length → 1 ≤ H.getD i 0 ∧ H.getD i 0 ≤ n ∧ pl.getD (H.getD i 0) 0 = i) ∧
    ∀ v, 1 ≤ v → v ≤ n → pl.getD v 0 = -1 ∨ ∃ i, i < H.length ∧ pl.getD v 0 = (i : Int) ∧ H.getD i 0 = v
theorem HV.inj {n : Nat} {H : List Nat} {pl : List Int} (h : HV n H pl) {i j : Nat} (hi : i < H.length) (hj : j < H.length) (e : H.getD i 0 = H.getD j 0) : i = j := by
  have a := (h.2.2.1 i hi).2.2
  have b := (h.2.2.1 j hj).2.2
  rw [e] at a
  omega
theorem cnt_set {pl : List Int} {v : Nat} (h1 : 1 ≤ v) (h2 : v < pl.length) (x : Int) : cnt (pl.set v x) + (if pl.getD v 0 = -1 then 0 else 1) = cnt pl + (if x = -1 then 0 else 1) := by
  obtain ⟨y, t, rfl⟩ : ∃ y t, pl = y :: t := by
    cases pl with
    | nil => simp at h2
    | cons y t => exact ⟨y, t, rfl⟩
  obtain ⟨v, rfl⟩ : ∃ u, v = u + 1 := ⟨v - 1, by omega⟩
  have hv : v < t.length := by simpa using h2
  unfold cnt
  rw [List.set_cons_succ, List.drop_succ_cons, List.drop_succ_cons, List.drop_zero, List.drop_zero, List.getD_cons_succ]
  clear h1 h2
  induction t generalizing v with
  | nil => simp at hv
  | cons z t ih =>
    cases v with
    | zero =>
      rw [List.set_cons_zero, List.getD_cons_zero, List.countP_cons, List.countP_cons]
      by_cases a : z = -1 <;> by_cases b : x = -1 <;> simp [a, b] <;> omega
    | succ v =>
      rw [List.set_cons_succ, List.getD_cons_succ, List.countP_cons, List.countP_cons]
      have := ih v (by simpa using hv)
      omega
theorem cnt_lt {n : Nat} {pl : List Int} (hl : pl.length = n + 1) {v : Nat} (h1 : 1 ≤ v) (h2 : v ≤ n) (h : pl.getD v 0 = -1) : cnt pl < n := by
  have := cnt_set (pl := pl) h1 (by omega) 0
  have hb : cnt (pl.set v 0) ≤ n := by
    unfold cnt
    refine Nat.le_trans List.countP_le_length ?_
    rw [List.length_drop, List.length_set]
    omega
  rw [if_pos h, if_neg (by decide)] at this
  omega
theorem cnt_le {n : Nat} {pl : List Int} (hl : pl.length = n + 1) : cnt pl ≤ n := by
  unfold cnt
  refine Nat.le_trans List.countP_le_length ?_
  rw [List.length_drop]
  omega
/-- The places behind a change of two places. -/
def swpl (H : List Nat) (pl : List Int) (i j : Nat) : List Int := (pl.set ((swp H i j).getD i 0) (i : Int)).set ((swp H i j).getD j 0) (j : Int)
theorem hv_swp {n : Nat} {H : List Nat} {pl : List Int} (h : HV n H pl) {i j : Nat} (hi : i < H.length) (hj : j < H.length) :
    HV n (swp H i j) (swpl H pl i j) ∧ ∀ v, (swpl H pl i j).getD v 0 = -1 ↔ pl.getD v 0 = -1 := by
  obtain ⟨h1, h2, h3, h4⟩ := h
  have hs := fun k => swp_at H hi hj k
  have ei : (swp H i j).getD i 0 = H.getD j 0 := by
    rw [hs]
    by_cases e : i = j
    · rw [if_pos e, e]
    · rw [if_neg e, if_pos rfl]
  have ej : (swp H i j).getD j 0 = H.getD i 0 := by rw [hs, if_pos rfl]
  have bi := h3 i hi
  have bj := h3 j hj
  have hinj : ∀ a b, a < H.length → b < H.length → H.getD a 0 = H.getD b 0 → a = b := fun a b ha hb e => HV.inj ⟨h1, h2, h3, h4⟩ ha hb e
  have hpl : ∀ v, (swpl H pl i j).getD v 0 = if v = H.getD i 0 then (j : Int) else if v = H.getD j 0 then (i : Int) else pl.getD v 0 := by
    intro v
    unfold swpl
    rw [ei, ej, getD_set', getD_set', List.length_set]
    by_cases c1 : v = H.getD i 0
    · rw [if_pos ⟨c1.symm, by omega⟩, if_pos c1]
    · rw [if_neg (fun c => c1 c.1.symm), if_neg c1]
      by_cases c2 : v = H.getD j 0
      · rw [if_pos ⟨c2.symm, by omega⟩, if_pos c2]
      · rw [if_neg (fun c => c2 c.1.symm), if_neg c2]
  have hiff : ∀ v, (swpl H pl i j).getD v 0 = -1 ↔ pl.getD v 0 = -1 := by
    intro v
    rw [hpl]
    by_cases c1 : v = H.getD i 0
    · rw [if_pos c1, c1, bi.2.2]
      omega
    · rw [if_neg c1]
      by_cases c2 : v = H.getD j 0
      · rw [if_pos c2, c2, bj.2.2]
        omega
      · rw [if_neg c2]
  have hlen : (swpl H pl i j).length = n + 1 := by unfold swpl; rw [List.length_set, List.length_set, h1]
  refine ⟨⟨hlen, ?_, fun k hk => ?_, fun v v1 v2 => ?_⟩, hiff⟩
  · rw [swp_length, h2]
    have a1 := cnt_set (pl := pl) (v := H.getD j 0) bj.1 (by omega) (i : Int)
    have a2 := cnt_set (pl := pl.set (H.getD j 0) (i : Int)) (v := H.getD i 0) bi.1 (by rw [List.length_set]; omega) (j : Int)
    rw [if_neg (by rw [bj.2.2]; omega), if_neg (by omega)] at a1
    rw [getD_set'] at a2
    unfold swpl
    rw [ei, ej]
    split at a2
    · rw [if_neg (by omega), if_neg (by omega)] at a2
      omega
    · rw [if_neg (by rw [bi.2.2]; omega), if_neg (by omega)] at a2
      omega
  · rw [swp_length] at hk
    rw [hs, hpl]
    by_cases c1 : k = j
    · rw [if_pos c1]
      exact ⟨bi.1, bi.2.1, by rw [if_pos rfl, c1]⟩
    · rw [if_neg c1]
      by_cases c2 : k = i
      · rw [if_pos c2]
        refine ⟨bj.1, bj.2.1, ?_⟩
        rw [if_neg (fun e => c1 (by rw [c2]; exact (hinj j i hj hi e).symm)), if_pos rfl, c2]
      · rw [if_neg c2]
        have bk := h3 k hk
        refine ⟨bk.1, bk.2.1, ?_⟩
        rw [if_neg (fun e => c2 (hinj k i hk hi e)), if_neg (fun e => c1 (hinj k j hk hj e))]
        exact bk.2.2
  · rw [swp_length, hpl]
    by_cases c1 : v = H.getD i 0
    · exact .inr ⟨j, hj, by rw [if_pos c1], by rw [ej, c1]⟩
    · rw [if_neg c1]
      by_cases c2 : v = H.getD j 0
      · exact .inr ⟨i, hi, by rw [if_pos c2], by rw [ei, c2]⟩
      · rw [if_neg c2]
        rcases h4 v v1 v2 with e | ⟨k, hk, e1, e2⟩
        · exact .inl e
        · refine .inr ⟨k, hk, e1, ?_⟩
          rw [hs, if_neg (fun e => c2 (by rw [← e2, e])), if_neg (fun e => c1 (by rw [← e2, e]))]
          exact e2
end Go.Proofs.Ytigbclhkmjcjjaa.O
