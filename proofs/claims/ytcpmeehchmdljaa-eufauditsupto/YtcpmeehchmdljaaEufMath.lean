/-
  Nodes and links in plain words: which links follow (folB), what nodes are worth in a structure (wsTo), and that a link that follows is true in each structure in which the given ones are (fol_holds).
-/
namespace Go.Proofs.Ytcpmeehchmdljaa.E
set_option linter.unusedVariables false
structure Fl where
  fn : Int
  args : List Int
structure Lk where
  kind : Int
  a : Int
  b : Int
  tag : Int
  kids : List Int
abbrev f0 : Fl := ⟨0, []⟩
abbrev l0 : Lk := ⟨0, 0, 0, 0, []⟩
def inB (n : Nat) (x : Int) : Bool := decide (0 ≤ x ∧ x < n)
/-- Each of xs stands ahead of i. -/
def ahead (i : Nat) (xs : List Int) : Bool := xs.all (inB i)
def soundB (fs : List Fl) : Bool := (List.range fs.length).all fun i => ahead i (fs.getD i f0).args
def at_ (ls : List Lk) (k : Int) : Lk := ls.getD k.toNat l0
def says (ls : List Lk) (k a b : Int) : Bool := decide ((at_ ls k).a = a ∧ (at_ ls k).b = b)
def congB (fs : List Fl) (ls : List Lk) (l : Lk) : Bool :=
  decide (0 ≤ (fs.getD l.a.toNat f0).fn ∧ (fs.getD l.a.toNat f0).fn = (fs.getD l.b.toNat f0).fn ∧ (fs.getD l.a.toNat f0).args.length = (fs.getD l.b.toNat f0).args.length ∧ l.kids.length = (fs.getD l.a.toNat f0).args.length) &&
    (List.range l.kids.length).all fun j => says ls (l.kids.getD j 0) ((fs.getD l.a.toNat f0).args.getD j 0) ((fs.getD l.b.toNat f0).args.getD j 0)
def factB (gs : List Lk) (a b tag : Int) : Bool := gs.any fun g => decide (g.kind = 1 ∧ g.a = a ∧ g.b = b ∧ g.tag = tag)
def kindB (fs : List Fl) (gs ls : List Lk) (l : Lk) : Bool :=
  if l.kind = 1 then factB gs l.a l.b l.tag && decide (l.kids.length = 0)
  else if l.kind = 2 then decide (l.kids.length = 0) && decide (l.a = l.b)
  else if l.kind = 3 then decide (l.kids.length = 1) && says ls (l.kids.getD 0 0) l.b l.a
  else if l.kind = 4 then decide (l.kids.length = 2) && (says ls (l.kids.getD 0 0) l.a (at_ ls (l.kids.getD 1 0)).a && decide ((at_ ls (l.kids.getD 1 0)).b = l.b))
  else if l.kind = 5 then congB fs ls l else false
def preB (fs : List Fl) (l : Lk) : Bool := inB fs.length l.a && (inB fs.length l.b && decide (l.kind = 1 ∨ l.tag = 0))
/-- The link i follows. -/
def folB (fs : List Fl) (gs ls : List Lk) (i : Nat) : Bool := preB fs (ls.getD i l0) && (ahead i (ls.getD i l0).kids && kindB fs gs ls (ls.getD i l0))
/-- The first link that does not follow, from k on; -1: none. -/
def firstNo (p : Nat → Bool) (n : Nat) : Nat → Nat → Int
  | 0, _ => -1
  | m + 1, k => if k < n then (if p k then firstNo p n m (k + 1) else (k : Int)) else -1
theorem firstNo_spec (p : Nat → Bool) (n : Nat) : ∀ (m k : Nat), n ≤ k + m → (firstNo p n m k = -1 ∧ ∀ i, k ≤ i → i < n → p i = true) ∨ ∃ j : Nat, firstNo p n m k = j ∧ k ≤ j ∧ j < n ∧ p j = false ∧ ∀ i, k ≤ i → i < j → p i = true
  | 0, k, h => .inl ⟨rfl, fun i h1 h2 => by omega⟩
  | m + 1, k, h => by
    unfold firstNo
    by_cases hk : k < n
    · rw [if_pos hk]
      by_cases hp : p k = true
      · rw [if_pos hp]
        rcases firstNo_spec p n m (k + 1) (by omega) with ⟨e, g⟩ | ⟨j, e, g1, g2, g3, g4⟩
        · refine .inl ⟨e, fun i h1 h2 => ?_⟩
          rcases Nat.eq_or_lt_of_le h1 with rfl | h1
          · exact hp
          · exact g i h1 h2
        · refine .inr ⟨j, e, by omega, g2, g3, fun i h1 h2 => ?_⟩
          rcases Nat.eq_or_lt_of_le h1 with rfl | h1
          · exact hp
          · exact g4 i h1 h2
      · rw [if_neg hp]
        exact .inr ⟨k, rfl, Nat.le_refl _, hk, by simpa using hp, fun i h1 h2 => by omega⟩
    · rw [if_neg hk]
      exact .inl ⟨rfl, fun i h1 h2 => by omega⟩
def auditI (fs : List Fl) (gs ls : List Lk) : Int := if soundB fs then firstNo (folB fs gs ls) ls.length ls.length 0 else 0
def auditE (fs : List Fl) : Int := if soundB fs then 0 else 80
theorem inB_iff {n : Nat} {x : Int} : inB n x = true ↔ 0 ≤ x ∧ x < n := decide_eq_true_iff
theorem ahead_at {i : Nat} {xs : List Int} (h : ahead i xs = true) {j : Nat} (hj : j < xs.length) : 0 ≤ xs.getD j 0 ∧ xs.getD j 0 < i := by
  have := List.all_eq_true.1 h (xs[j]) (List.getElem_mem hj)
  rw [List.getD_eq_getElem?_getD, List.getElem?_eq_getElem hj]
  exact inB_iff.1 this
theorem says_iff {ls : List Lk} {k a b : Int} : says ls k a b = true ↔ (at_ ls k).a = a ∧ (at_ ls k).b = b := decide_eq_true_iff
theorem sound_at {fs : List Fl} (h : soundB fs = true) {i : Nat} (hi : i < fs.length) : ahead i (fs.getD i f0).args = true :=
  List.all_eq_true.1 h i (List.mem_range.2 hi)
/-- A link that follows is true where the given ones are. -/
theorem fol_holds {fs : List Fl} {gs ls : List Lk} (W : Int → Int)
    (hcong : ∀ a b : Nat, a < fs.length → b < fs.length → 0 ≤ (fs.getD a f0).fn → (fs.getD a f0).fn = (fs.getD b f0).fn → (fs.getD a f0).args.length = (fs.getD b f0).args.length →
      (∀ j, j < (fs.getD a f0).args.length → W ((fs.getD a f0).args.getD j 0) = W ((fs.getD b f0).args.getD j 0)) → W a = W b)
    (hg : ∀ g ∈ gs, g.kind = 1 → inB fs.length g.a = true → inB fs.length g.b = true → W g.a = W g.b) (n : Nat) (hf : ∀ i, i < n → folB fs gs ls i = true) :
    ∀ i, i < n → inB fs.length (ls.getD i l0).a = true ∧ inB fs.length (ls.getD i l0).b = true ∧ W (ls.getD i l0).a = W (ls.getD i l0).b := by
  intro i
  induction i using Nat.strongRecOn with
  | _ i ih =>
    intro hi
    have h := hf i hi
    unfold folB at h
    simp only [Bool.and_eq_true, preB] at h
    obtain ⟨⟨ha, hb, -⟩, hk, h⟩ := h
    refine ⟨ha, hb, ?_⟩
    generalize ls.getD i l0 = l at *
    have kid : ∀ j, j < l.kids.length → ∃ q : Nat, l.kids.getD j 0 = q ∧ q < i ∧ W (ls.getD q l0).a = W (ls.getD q l0).b := by
      intro j hj
      obtain ⟨k1, k2⟩ := ahead_at hk hj
      refine ⟨(l.kids.getD j 0).toNat, by omega, by omega, (ih _ (by omega) (by omega)).2.2⟩
    unfold kindB at h
    split at h
    · next hkd =>
      simp only [Bool.and_eq_true] at h
      obtain ⟨g, hm, he⟩ := List.any_eq_true.1 h.1
      obtain ⟨e1, e2, e3, -⟩ := of_decide_eq_true he
      rw [← e2, ← e3]
      exact hg g hm e1 (by rw [e2]; exact ha) (by rw [e3]; exact hb)
    · split at h
      · simp only [Bool.and_eq_true] at h
        rw [of_decide_eq_true h.2]
      · split at h
        · simp only [Bool.and_eq_true] at h
          obtain ⟨q, e1, e2, e3⟩ := kid 0 (by have := of_decide_eq_true h.1; omega)
          obtain ⟨s1, s2⟩ := says_iff.1 h.2
          unfold at_ at s1 s2
          rw [e1, Int.toNat_natCast] at s1 s2
          rw [← s1, ← s2, e3]
        · split at h
          · simp only [Bool.and_eq_true] at h
            have hl := of_decide_eq_true h.1
            obtain ⟨q, e1, e2, e3⟩ := kid 0 (by omega)
            obtain ⟨r, r1, r2, r3⟩ := kid 1 (by omega)
            obtain ⟨s1, s2⟩ := says_iff.1 h.2.1
            have s3 := of_decide_eq_true h.2.2
            unfold at_ at s1 s2 s3
            rw [e1, Int.toNat_natCast] at s1
            rw [e1, r1, Int.toNat_natCast, Int.toNat_natCast] at s2
            rw [r1, Int.toNat_natCast] at s3
            rw [← s1, e3, s2, r3, s3]
          · split at h
            · unfold congB at h
              simp only [Bool.and_eq_true] at h
              obtain ⟨c1, c2, c3, c4⟩ := of_decide_eq_true h.1
              have ha' := inB_iff.1 ha
              have hb' := inB_iff.1 hb
              have := hcong l.a.toNat l.b.toNat (by omega) (by omega) c1 c2 c3 (fun j hj => by
                have hs := List.all_eq_true.1 h.2 j (List.mem_range.2 (by omega))
                obtain ⟨q, e1, e2, e3⟩ := kid j (by omega)
                obtain ⟨s1, s2⟩ := says_iff.1 hs
                unfold at_ at s1 s2
                rw [e1, Int.toNat_natCast] at s1 s2
                rw [← s1, ← s2, e3])
              rw [Int.toNat_of_nonneg ha'.1, Int.toNat_of_nonneg hb'.1] at this
              exact this
            · cases h
/-- One round of a node's number. -/
def hstep (h v : Int) (j : Nat) : Int := (h * 31 + v + 5 * j).tmod 1000003
def hTo (h : Int) (vs : List Int) : Nat → Int
  | 0 => h
  | j + 1 => hstep (hTo h vs j) (vs.getD j 0) j
def hOf (fs : List Fl) (ws : List Int) (i : Nat) : Int :=
  if 0 ≤ (fs.getD i f0).fn then hTo (3 + (fs.getD i f0).fn.tmod 1000003) ((fs.getD i f0).args.map fun x => ws.getD x.toNat 0) (fs.getD i f0).args.length + (fs.getD i f0).args.length else 7 * i + 1
def vOf (tb : List Int) (sz : Int) (h : Int) : Int := if tb.length = 0 then h.tmod sz else (tb.getD (h.tmod tb.length).toNat 0).tmod sz
def pos (v : Int) : Int := if v < 0 then -v else v
/-- What the first nodes are worth. -/
def wsTo (tb : List Int) (sz : Int) (fs : List Fl) : Nat → List Int
  | 0 => []
  | i + 1 => wsTo tb sz fs i ++ [pos (vOf tb sz (hOf fs (wsTo tb sz fs i) i))]
theorem wsTo_len (tb : List Int) (sz : Int) (fs : List Fl) : ∀ i, (wsTo tb sz fs i).length = i
  | 0 => rfl
  | i + 1 => by simp [wsTo, wsTo_len tb sz fs i]
theorem wsTo_at (tb : List Int) (sz : Int) (fs : List Fl) {i : Nat} : ∀ n, i < n → (wsTo tb sz fs n).getD i 0 = pos (vOf tb sz (hOf fs (wsTo tb sz fs i) i))
  | 0, h => by omega
  | n + 1, h => by
    show (wsTo tb sz fs n ++ [pos (vOf tb sz (hOf fs (wsTo tb sz fs n) n))]).getD i 0 = _
    rcases Nat.lt_or_ge i n with c | c
    · rw [List.getD_eq_getElem?_getD, List.getElem?_append_left (by rw [wsTo_len]; exact c), ← List.getD_eq_getElem?_getD]
      exact wsTo_at tb sz fs n c
    · obtain rfl : i = n := by omega
      rw [List.getD_eq_getElem?_getD, List.getElem?_append_right (by rw [wsTo_len]; exact Nat.le_refl _), wsTo_len]
      simp
theorem wsTo_same (tb : List Int) (sz : Int) (fs : List Fl) {j i n : Nat} (h1 : j < i) (h2 : i ≤ n) : (wsTo tb sz fs i).getD j 0 = (wsTo tb sz fs n).getD j 0 := by
  rw [wsTo_at tb sz fs i h1, wsTo_at tb sz fs n (by omega)]
/-- The same function of the same is worth the same. -/
theorem worth_cong {tb : List Int} {sz : Int} {fs : List Fl} (hs : soundB fs = true) {a b : Nat} (ha : a < fs.length) (hb : b < fs.length) (h0 : 0 ≤ (fs.getD a f0).fn) (hfn : (fs.getD a f0).fn = (fs.getD b f0).fn) (hl : (fs.getD a f0).args.length = (fs.getD b f0).args.length)
    (h : ∀ j, j < (fs.getD a f0).args.length → (wsTo tb sz fs fs.length).getD ((fs.getD a f0).args.getD j 0).toNat 0 = (wsTo tb sz fs fs.length).getD ((fs.getD b f0).args.getD j 0).toNat 0) :
    (wsTo tb sz fs fs.length).getD a 0 = (wsTo tb sz fs fs.length).getD b 0 := by
  rw [wsTo_at tb sz fs _ ha, wsTo_at tb sz fs _ hb]
  have e : hOf fs (wsTo tb sz fs a) a = hOf fs (wsTo tb sz fs b) b := by
    unfold hOf
    rw [if_pos h0, if_pos (by rw [← hfn]; exact h0), ← hfn, ← hl]
    have e2 : ((fs.getD a f0).args.map fun x => (wsTo tb sz fs a).getD x.toNat 0) = ((fs.getD b f0).args.map fun x => (wsTo tb sz fs b).getD x.toNat 0) := by
      apply List.ext_getElem
      · rw [List.length_map, List.length_map, hl]
      · intro j h1 h2
        rw [List.length_map] at h1 h2
        rw [List.getElem_map, List.getElem_map]
        have xa := ahead_at (sound_at hs ha) h1
        have xb := ahead_at (sound_at hs hb) h2
        have := h j h1
        rw [List.getD_eq_getElem?_getD (l := (fs.getD a f0).args), List.getElem?_eq_getElem h1] at this xa
        rw [List.getD_eq_getElem?_getD (l := (fs.getD b f0).args), List.getElem?_eq_getElem h2] at this xb
        simp only [Option.getD_some] at this xa xb
        rw [wsTo_same tb sz fs (i := a) (n := fs.length) (by omega) (by omega), wsTo_same tb sz fs (i := b) (n := fs.length) (by omega) (by omega)]
        exact this
    rw [e2]
  rw [e]
/- Bounds. -/
theorem hstep_bd {h v : Int} {j : Nat} (h1 : 0 ≤ h) (h2 : 0 ≤ v) : 0 ≤ hstep h v j ∧ hstep h v j < 1000003 := by
  unfold hstep
  have e : 0 ≤ h * 31 + v + 5 * j := by omega
  exact ⟨Int.tmod_nonneg _ e, Int.tmod_lt_of_pos _ (by decide)⟩
theorem pos_bd {v sz : Int} (h1 : -sz < v) (h2 : v < sz) : 0 ≤ pos v ∧ pos v < sz := by
  unfold pos
  split <;> omega
theorem vOf_bd (tb : List Int) {sz : Int} (h : 0 < sz) (x : Int) : -sz < vOf tb sz x ∧ vOf tb sz x < sz := by
  unfold vOf
  split
  · exact ⟨Int.lt_tmod_of_pos _ h, Int.tmod_lt_of_pos _ h⟩
  · exact ⟨Int.lt_tmod_of_pos _ h, Int.tmod_lt_of_pos _ h⟩
theorem ws_bd (tb : List Int) {sz : Int} (hz : 0 < sz) (fs : List Fl) (n j : Nat) : 0 ≤ (wsTo tb sz fs n).getD j 0 ∧ (wsTo tb sz fs n).getD j 0 < sz := by
  rcases Nat.lt_or_ge j n with c | c
  · rw [wsTo_at tb sz fs n c]
    exact pos_bd (vOf_bd tb hz _).1 (vOf_bd tb hz _).2
  · rw [List.getD_eq_getElem?_getD, List.getElem?_eq_none (by rw [wsTo_len]; exact c)]
    exact ⟨Int.le_refl _, hz⟩
theorem hTo_bd {h : Int} {vs : List Int} (h1 : 0 ≤ h) (h2 : h ≤ 1000005) (hv : ∀ j, 0 ≤ vs.getD j 0) : ∀ j, 0 ≤ hTo h vs j ∧ hTo h vs j ≤ 1000005
  | 0 => ⟨h1, h2⟩
  | j + 1 => by
    have := hTo_bd h1 h2 hv j
    have := hstep_bd (j := j) this.1 (hv j)
    unfold hTo
    omega
end Go.Proofs.Ytcpmeehchmdljaa.E
