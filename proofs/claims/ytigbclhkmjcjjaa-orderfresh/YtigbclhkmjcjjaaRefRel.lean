/-
  The program's order and the document's side by side: what holds between them, and that each pair of calls answers alike and keeps it.
-/
import Derived.Test.YtigbclhkmjcjjaaRefWait
import Derived.Test.YtigbclhkmjcjjaaRefBump
import Derived.Test.YtigbclhkmjcjjaaRefDecay
import Derived.Test.YtigbclhkmjcjjaaOrdWait
namespace Go.Proofs.Ytigbclhkmjcjjaa
open Go.RowKit
set_option linter.unusedVariables false
/-- The document's order says of each variable what the program's does. -/
structure Rel (n : Nat) (s : OS) (t : RS) : Prop where
  rise : t.r = s.r
  acts : ∀ v, 1 ≤ v → v ≤ n → t.A.getD v 0 = s.A.getD v 0
  waits : ∀ v, 1 ≤ v → v ≤ n → (t.W.getD v false = true ↔ s.pl.getD v 0 ≠ -1)
  ups : ∀ v, 1 ≤ v → v ≤ n → t.U.getD v false = s.ph.getD v false
/-- Which error. -/
def errOf (n : Nat) (v : Int) : Int := if v < 1 ∨ (n : Int) < v then 70 else 0
theorem err_bad {n : Nat} {v : Int} (h : v < 1 ∨ (n : Int) < v) : errOf n v = 70 := if_pos h
theorem err_ok {n : Nat} {v : Nat} (h1 : 1 ≤ v) (h2 : v ≤ n) : errOf n (v : Int) = 0 := if_neg (by omega)
theorem lst_move {n : Nat} {A A' : List Nat} {W W' : Nat → Prop} {l : List Nat} (h : O.Lst A n W l) (hA : ∀ v, 1 ≤ v → v ≤ n → A'.getD v 0 = A.getD v 0) (hW : ∀ v, 1 ≤ v → v ≤ n → (W' v ↔ W v)) : O.Lst A' n W' l := by
  refine ⟨?_, fun v => (h.2 v).trans ⟨fun ⟨a, b, c⟩ => ⟨a, b, (hW v a b).2 c⟩, fun ⟨a, b, c⟩ => ⟨a, b, (hW v a b).1 c⟩⟩⟩
  refine List.Pairwise.imp_of_mem ?_ h.1
  intro a b ha hb hab
  have ma := (h.2 a).1 ha
  have mb := (h.2 b).1 hb
  unfold O.ahd at *
  rw [hA a ma.1 ma.2.1, hA b mb.1 mb.2.1]
  exact hab
theorem Rel.lst {o : Oid} {q : Rid} {s : OS} {t : RS} (h : Rel o.n s t) (hq : q.n = o.n) {l : List Nat} (hl : Wl o s l) : Rl q t l := by
  unfold Rl
  rw [hq]
  exact lst_move hl h.acts h.waits
theorem Rel.fin {n : Nat} {s : OS} {t : RS} (h : Rel n s t) (f : Fit s) : (∀ j, 1 ≤ j → j ≤ n → t.A.getD j 0 < FL.inf) ∧ t.r < FL.inf := by
  refine ⟨fun j a b => ?_, ?_⟩
  · rw [h.acts j a b]
    exact Nat.lt_of_le_of_lt (f.act j) fin_top
  · rw [h.rise]
    exact Nat.lt_of_le_of_lt f.rise fin_top
/- Bump. -/
def BumpTo (n : Nat) (v : Int) (s s' : OS) : Prop := (∃ u : Nat, v = u ∧ 1 ≤ u ∧ u ≤ n ∧ Like s s' ∧ (s'.A, s'.r) = s.bump u) ∨ ((v < 1 ∨ (n : Int) < v) ∧ s' = s)
theorem bumpP (w : World) (o : Oid) (s : OS) (h : Good w o s) (f : Fit s) (v : Int) : Calls Try.prog 11 #[optr o, .int .i64 v] w fun e w' => e = .returned (.int .i64 (errOf o.n v)) ∧ (∃ s', Good w' o s' ∧ Fit s' ∧ BumpTo o.n v s s') ∧ Chg (blks o) w w' := by
  rcases in_or_out o v with ⟨n, rfl, h1, h2⟩ | hv
  · refine (bump_calls w o s h n h1 h2).mono ?_
    rintro e w' ⟨rfl, ⟨s', g, l, e⟩, c⟩
    exact ⟨by rw [err_ok h1 h2], ⟨s', g, fit_of e (bump_fit f (by rw [h.alen]; omega)), .inl ⟨n, rfl, h1, h2, l, e⟩⟩, c⟩
  · refine (bump_bad w o s h.ord v hv).mono ?_
    rintro e w' ⟨rfl, rfl⟩
    exact ⟨by rw [err_bad hv], ⟨s, h, f, .inr ⟨hv, rfl⟩⟩, Chg.refl _ _⟩
theorem bumpR (W : World) (o : Oid) (q : Rid) (hq : q.n = o.n) (s : OS) (t : RS) (f : Fit s) (hl : s.A.length = o.n + 1) (r : Rel o.n s t) (h : ROrd W q t) (v : Int) :
    Calls Try.prog 40 #[rptr q, .int .i64 v] W fun e w' => e = .returned (.int .i64 (errOf o.n v)) ∧ (∃ t', ROrd w' q t' ∧ ∀ s', BumpTo o.n v s s' → Rel o.n s' t') ∧ Chg (rblks q) W w' := by
  obtain ⟨fa, fr⟩ := r.fin f
  rcases in_or_out o v with ⟨u, rfl, h1, h2⟩ | hv
  · have ea := r.acts u h1 h2
    have le2 := FL.fadd_le (f.act u) f.rise
    have l1 := FL.tTOP2_lt
    refine (rbump_calls W q t h u h1 (by omega) (fun j a b => fa j a (by omega)) fr (by rw [ea, r.rise]; omega)).mono ?_
    rintro e w' ⟨rfl, ⟨t', g, er, ew, eu, eA⟩, c⟩
    refine ⟨by rw [err_ok h1 h2], ⟨t', g, fun s' hb => ?_⟩, c⟩
    rcases hb with ⟨u', e, _, _, ⟨lp, lh, ll⟩, eb⟩ | ⟨hv, _⟩
    · obtain rfl : u = u' := by omega
      have hg : (bumpA s u).getD u 0 = FL.fadd (s.A.getD u 0) s.r := by unfold bumpA; rw [O.set_eq (by omega)]
      have e1 : s'.A = (s.bump u).1 := congrArg Prod.fst eb
      have e2 : s'.r = (s.bump u).2 := congrArg Prod.snd eb
      rw [ea, r.rise] at er eA
      have hset : ∀ j, 1 ≤ j → j ≤ o.n → (t.A.set u (FL.fadd (s.A.getD u 0) s.r)).getD j 0 = (bumpA s u).getD j 0 := by
        intro j a b
        have hlt : t.A.length = q.n + 1 := h.2.2.2.2.1
        unfold bumpA
        by_cases c : j = u
        · subst c
          rw [O.set_eq (by omega), O.set_eq (by omega)]
        · rw [O.set_ne c, O.set_ne c, r.acts j a b]
      refine ⟨?_, fun j a b => ?_, fun j a b => ?_, fun j a b => ?_⟩
      · rw [er, e2]
        unfold OS.bump
        rw [hg]
        split <;> rfl
      · rw [eA j a (by omega), e1]
        unfold OS.bump
        rw [hg, hset j a b]
        split
        · rw [getD_map_fmul, if_pos (by unfold bumpA; rw [List.length_set]; omega)]
        · rfl
      · rw [ew, r.waits j a b]
        exact not_congr (ll j).symm
      · rw [eu, r.ups j a b, lp]
    · omega
  · refine (rbump_bad W q t h v (by rw [hq]; exact hv)).mono ?_
    rintro e w' ⟨rfl, rfl⟩
    refine ⟨by rw [err_bad hv], ⟨t, h, fun s' hb => ?_⟩, Chg.refl _ _⟩
    rcases hb with ⟨u', e, a, b, _⟩ | ⟨_, rfl⟩
    · omega
    · exact r
/- Decay. -/
def DecayTo (s s' : OS) : Prop := Like s s' ∧ (s'.A, s'.r) = s.decay
theorem decayP (w : World) (o : Oid) (s : OS) (h : Good w o s) (f : Fit s) : Calls Try.prog 22 #[optr o] w fun e w' => e = .returned (.tuple #[]) ∧ (∃ s', Good w' o s' ∧ Fit s' ∧ DecayTo s s') ∧ Chg (blks o) w w' := by
  refine (decay_calls w o s h).mono ?_
  rintro e w' ⟨rfl, ⟨s', g, l, e⟩, c⟩
  exact ⟨rfl, ⟨s', g, fit_of e (decay_fit f), l, e⟩, c⟩
theorem decayR (W : World) (o : Oid) (q : Rid) (hq : q.n = o.n) (s : OS) (t : RS) (f : Fit s) (hl : s.A.length = o.n + 1) (r : Rel o.n s t) (h : ROrd W q t) :
    Calls Try.prog 41 #[rptr q] W fun e w' => e = .returned (.tuple #[]) ∧ (∃ t', ROrd w' q t' ∧ ∀ s', DecayTo s s' → Rel o.n s' t') ∧ Chg (rblks q) W w' := by
  obtain ⟨fa, fr⟩ := r.fin f
  have le2 := FL.fdiv_le f.pos f.rise
  have l1 := FL.tTOP2_lt
  have hx : FL.fdiv s.r DCY < FL.inf := Nat.lt_of_le_of_lt le2 l1
  refine (rdecay_calls W q t h (fun j a b => fa j a (by omega)) (by rw [r.rise]; exact f.pos) fr (by rw [r.rise]; exact hx)).mono ?_
  rintro e w' ⟨rfl, ⟨t', g, er, ew, eu, eA⟩, c⟩
  refine ⟨rfl, ⟨t', g, ?_⟩, c⟩
  rintro s' ⟨⟨lp, lh, ll⟩, eb⟩
  have e1 : s'.A = s.decay.1 := congrArg Prod.fst eb
  have e2 : s'.r = s.decay.2 := congrArg Prod.snd eb
  rw [r.rise] at er eA
  refine ⟨?_, fun j a b => ?_, fun j a b => ?_, fun j a b => ?_⟩
  · rw [er, e2]
    unfold OS.decay
    split <;> rfl
  · rw [eA j a (by omega), e1, r.acts j a b]
    unfold OS.decay
    split
    · rw [getD_map_fmul, if_pos (by omega)]
    · rfl
  · rw [ew, r.waits j a b]
    exact not_congr (ll j).symm
  · rw [eu, r.ups j a b, lp]
/- Put. -/
def PutTo (n : Nat) (v : Int) (s s' : OS) : Prop := s'.A = s.A ∧ s'.r = s.r ∧ s'.ph = s.ph ∧ ∀ u : Nat, 1 ≤ u → u ≤ n → (s'.pl.getD u 0 ≠ -1 ↔ (s.pl.getD u 0 ≠ -1 ∨ (u : Int) = v))
theorem fit_same {s s' : OS} (f : Fit s) (e1 : s'.A = s.A) (e2 : s'.r = s.r) : Fit s' := ⟨by rw [e1]; exact f.act, by rw [e2]; exact f.pos, by rw [e2]; exact f.rise⟩
theorem putP (w : World) (o : Oid) (s : OS) (h : Good w o s) (f : Fit s) (v : Int) : Calls Try.prog 20 #[optr o, .int .i64 v] w fun e w' => e = .returned (.int .i64 (errOf o.n v)) ∧ (∃ s', Good w' o s' ∧ Fit s' ∧ PutTo o.n v s s') ∧ Chg (blks o) w w' := by
  rcases in_or_out o v with ⟨n, rfl, h1, h2⟩ | hv
  · by_cases hw : s.pl.getD n 0 = -1
    · refine (put_calls w o s h n h1 h2 hw).mono ?_
      rintro e w' ⟨rfl, ⟨s', g, eA, eR, eP, eL, eW⟩, c⟩
      refine ⟨by rw [err_ok h1 h2], ⟨s', g, fit_same f eA eR, eA, eR, eP, fun u _ _ => ?_⟩, c⟩
      have := eW u
      constructor
      · intro z
        by_cases c1 : u = n
        · exact .inr (by omega)
        · exact .inl (fun y => z (this.2 ⟨y, c1⟩))
      · rintro (z | z) y
        · exact z (this.1 y).1
        · exact (this.1 y).2 (by omega)
    · refine (put_has w o s h.ord n h1 h2 hw).mono ?_
      rintro e w' ⟨rfl, rfl⟩
      refine ⟨by rw [err_ok h1 h2], ⟨s, h, f, rfl, rfl, rfl, fun u _ _ => ?_⟩, Chg.refl _ _⟩
      constructor
      · exact .inl
      · rintro (z | z)
        · exact z
        · obtain rfl : u = n := by omega
          exact hw
  · refine (put_bad w o s h.ord v hv).mono ?_
    rintro e w' ⟨rfl, rfl⟩
    refine ⟨by rw [err_bad hv], ⟨s, h, f, rfl, rfl, rfl, fun u a b => ?_⟩, Chg.refl _ _⟩
    constructor
    · exact .inl
    · rintro (z | z)
      · exact z
      · omega
theorem putR (W : World) (o : Oid) (q : Rid) (hq : q.n = o.n) (s : OS) (t : RS) (r : Rel o.n s t) (h : ROrd W q t) (v : Int) :
    Calls Try.prog 43 #[rptr q, .int .i64 v] W fun e w' => e = .returned (.int .i64 (errOf o.n v)) ∧ (∃ t', ROrd w' q t' ∧ ∀ s', PutTo o.n v s s' → Rel o.n s' t') ∧ Chg (rblks q) W w' := by
  rcases in_or_out o v with ⟨u, rfl, h1, h2⟩ | hv
  · refine (rput_calls W q t h u h1 (by omega)).mono ?_
    rintro e w' ⟨rfl, g, c⟩
    have hlW : t.W.length = q.n + 1 := h.2.2.2.2.2.1
    refine ⟨by rw [err_ok h1 h2], ⟨_, g, ?_⟩, c⟩
    rintro s' ⟨eA, eR, eP, eW⟩
    refine ⟨by rw [eR]; exact r.rise, fun j a b => by rw [eA]; exact r.acts j a b, fun j a b => ?_, fun j a b => by rw [eP]; exact r.ups j a b⟩
    show (t.W.set u true).getD j false = true ↔ _
    rw [O.getD_set', eW j a b]
    by_cases c1 : u = j
    · rw [if_pos ⟨c1, by omega⟩]
      exact ⟨fun _ => .inr (by omega), fun _ => rfl⟩
    · rw [if_neg (fun z => c1 z.1), r.waits j a b]
      exact ⟨.inl, fun z => z.elim id (fun y => by omega)⟩
  · refine (rput_bad W q t h v (by rw [hq]; exact hv)).mono ?_
    rintro e w' ⟨rfl, rfl⟩
    refine ⟨by rw [err_bad hv], ⟨t, h, ?_⟩, Chg.refl _ _⟩
    rintro s' ⟨eA, eR, eP, eW⟩
    refine ⟨by rw [eR]; exact r.rise, fun j a b => by rw [eA]; exact r.acts j a b, fun j a b => ?_, fun j a b => by rw [eP]; exact r.ups j a b⟩
    rw [eW j a b, r.waits j a b]
    exact ⟨.inl, fun z => z.elim id (fun y => by omega)⟩
/- Take. -/
def TakeTo (n b : Nat) (s s' : OS) : Prop := s'.A = s.A ∧ s'.r = s.r ∧ s'.ph = s.ph ∧ ∀ u : Nat, 1 ≤ u → u ≤ n → (s'.pl.getD u 0 ≠ -1 ↔ (s.pl.getD u 0 ≠ -1 ∧ u ≠ b))
theorem takeP (w : World) (o : Oid) (s : OS) (h : Good w o s) (f : Fit s) (l : List Nat) (hl : Wl o s l) : Calls Try.prog 16 #[optr o] w fun e w' => e = .returned (.int .i64 (l.headD 0 : Nat)) ∧ (∃ s', Good w' o s' ∧ Fit s' ∧ TakeTo o.n (l.headD 0) s s') ∧ Chg (blks o) w w' := by
  cases l with
  | nil =>
    refine (take_end w o s h hl).mono ?_
    rintro e w' ⟨rfl, rfl⟩
    refine ⟨rfl, ⟨s, h, f, rfl, rfl, rfl, fun u a b => ?_⟩, Chg.refl _ _⟩
    constructor
    · intro z
      exact absurd ((hl.2 u).2 ⟨a, b, z⟩) (by simp)
    · exact fun z => z.1
  | cons x t =>
    refine (take_next w o s h x t hl).mono ?_
    rintro e w' ⟨rfl, ⟨s', g, eA, eR, eP, _, eW⟩, c⟩
    refine ⟨rfl, ⟨s', g, fit_same f eA eR, eA, eR, eP, fun u a b => ?_⟩, c⟩
    have := eW u
    constructor
    · intro z
      exact ⟨fun y => z (this.2 (.inl y)), fun y => z (this.2 (.inr y))⟩
    · rintro ⟨z1, z2⟩ y
      exact (this.1 y).elim z1 z2
theorem takeR (W : World) (o : Oid) (q : Rid) (hq : q.n = o.n) (s : OS) (t : RS) (r : Rel o.n s t) (h : ROrd W q t) (l : List Nat) (hl : Wl o s l) :
    Calls Try.prog 44 #[rptr q] W fun e w' => e = .returned (.int .i64 (l.headD 0 : Nat)) ∧ (∃ t', ROrd w' q t' ∧ ∀ s', TakeTo o.n (l.headD 0) s s' → Rel o.n s' t') ∧ Chg (rblks q) W w' := by
  refine (rtake_calls W q t h l (r.lst hq hl)).mono ?_
  rintro e w' ⟨rfl, ⟨t', g, eA, eR, eU, eW⟩, c⟩
  refine ⟨rfl, ⟨t', g, ?_⟩, c⟩
  rintro s' ⟨fA, fR, fP, fW⟩
  refine ⟨by rw [eR, fR]; exact r.rise, fun j a b => by rw [eA, fA]; exact r.acts j a b, fun j a b => ?_, fun j a b => by rw [eU, fP]; exact r.ups j a b⟩
  rw [eW j a (by omega), fW j a b, Bool.and_eq_true, r.waits j a b, bne_iff_ne]
/- Save. -/
def SaveTo (n : Nat) (v : Int) (b : Bool) (s s' : OS) : Prop := s'.A = s.A ∧ s'.r = s.r ∧ s'.pl = s.pl ∧ ∀ u : Nat, 1 ≤ u → u ≤ n → s'.ph.getD u false = if (u : Int) = v then b else s.ph.getD u false
theorem saveP (w : World) (o : Oid) (s : OS) (h : Good w o s) (f : Fit s) (v : Int) (b : Bool) : Calls Try.prog 23 #[optr o, .int .i64 v, .bool b] w fun e w' => e = .returned (.int .i64 (errOf o.n v)) ∧ (∃ s', Good w' o s' ∧ Fit s' ∧ SaveTo o.n v b s s') ∧ Chg (blks o) w w' := by
  rcases in_or_out o v with ⟨n, rfl, h1, h2⟩ | hv
  · refine (save_calls w o s h n h1 h2 b).mono ?_
    rintro e w' ⟨rfl, g, c⟩
    have hl : s.ph.length = o.n + 1 := h.ord.2.2.2.2.2.2.1
    refine ⟨by rw [err_ok h1 h2], ⟨_, g, fit_same f rfl rfl, rfl, rfl, rfl, fun u a z => ?_⟩, c⟩
    show (s.ph.set n b).getD u false = _
    rw [O.getD_set']
    by_cases c1 : n = u
    · rw [if_pos ⟨c1, by omega⟩, if_pos (by omega)]
    · rw [if_neg (fun y => c1 y.1), if_neg (by omega)]
  · refine (save_bad w o s h.ord v hv b).mono ?_
    rintro e w' ⟨rfl, rfl⟩
    exact ⟨by rw [err_bad hv], ⟨s, h, f, rfl, rfl, rfl, fun u a z => by rw [if_neg (by omega)]⟩, Chg.refl _ _⟩
theorem saveR (W : World) (o : Oid) (q : Rid) (hq : q.n = o.n) (s : OS) (t : RS) (r : Rel o.n s t) (h : ROrd W q t) (v : Int) (b : Bool) :
    Calls Try.prog 47 #[rptr q, .int .i64 v, .bool b] W fun e w' => e = .returned (.int .i64 (errOf o.n v)) ∧ (∃ t', ROrd w' q t' ∧ ∀ s', SaveTo o.n v b s s' → Rel o.n s' t') ∧ Chg (rblks q) W w' := by
  rcases in_or_out o v with ⟨u, rfl, h1, h2⟩ | hv
  · refine (rsave_calls W q t h u h1 (by omega) b).mono ?_
    rintro e w' ⟨rfl, g, c⟩
    have hlU : t.U.length = q.n + 1 := h.2.2.2.2.2.2.1
    refine ⟨by rw [err_ok h1 h2], ⟨_, g, ?_⟩, c⟩
    rintro s' ⟨eA, eR, eP, eH⟩
    refine ⟨by rw [eR]; exact r.rise, fun j a z => by rw [eA]; exact r.acts j a z, fun j a z => by rw [eP]; exact r.waits j a z, fun j a z => ?_⟩
    show (t.U.set u b).getD j false = _
    rw [O.getD_set', eH j a z]
    by_cases c1 : u = j
    · rw [if_pos ⟨c1, by omega⟩, if_pos (by omega)]
    · rw [if_neg (fun y => c1 y.1), if_neg (by omega), r.ups j a z]
  · refine (rsave_bad W q t h v (by rw [hq]; exact hv) b).mono ?_
    rintro e w' ⟨rfl, rfl⟩
    refine ⟨by rw [err_bad hv], ⟨t, h, ?_⟩, Chg.refl _ _⟩
    rintro s' ⟨eA, eR, eP, eH⟩
    refine ⟨by rw [eR]; exact r.rise, fun j a z => by rw [eA]; exact r.acts j a z, fun j a z => by rw [eP]; exact r.waits j a z, fun j a z => ?_⟩
    rw [eH j a z, if_neg (by omega), r.ups j a z]
end Go.Proofs.Ytigbclhkmjcjjaa
