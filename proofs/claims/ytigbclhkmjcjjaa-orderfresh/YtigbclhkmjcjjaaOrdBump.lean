/-
  Bump and Decay.
-/
import Derived.Test.YtigbclhkmjcjjaaOrdShrink
namespace Go.Proofs.Ytigbclhkmjcjjaa
open Go.RowKit
set_option linter.unusedVariables false
namespace O
theorem set_ne {A : List Nat} {v x a : Nat} (ha : a ≠ v) : (A.set v x).getD a 0 = A.getD a 0 := by
  rw [getD_set', if_neg (fun c => ha c.1.symm)]
theorem set_eq {A : List Nat} {v x : Nat} (hv : v < A.length) : (A.set v x).getD v 0 = x := by
  rw [getD_set', if_pos ⟨rfl, hv⟩]
theorem ahd_set_ne {A : List Nat} {v x a b : Nat} (ha : a ≠ v) (hb : b ≠ v) : ahd (A.set v x) a b = ahd A a b := by
  unfold ahd
  rw [set_ne ha, set_ne hb]
theorem ahd_raise {A : List Nat} {v x a : Nat} (hv : v < A.length) (ha : a ≠ v) (hx : A.getD v 0 ≤ x) (h : ahd A a v = false) : ahd (A.set v x) a v = false := by
  unfold ahd at *
  rw [set_ne ha, set_eq hv]
  generalize A.getD a 0 = p at *
  generalize A.getD v 0 = q at *
  by_cases e1 : p = q <;> by_cases e2 : p = x
  · rw [if_pos e1] at h; rw [if_pos e2]; exact h
  · rw [if_neg e2]; simp; omega
  · rw [if_neg e1] at h; simp at h; omega
  · rw [if_neg e1] at h; rw [if_neg e2]; simp at h ⊢; omega
theorem up_raise {n : Nat} {A H : List Nat} {pl : List Int} {p v x : Nat} (hH : Heap A H) (hv : HV n H pl) (hl : v < A.length) (hp : p < H.length) (e : H.getD p 0 = v) (hx : A.getD v 0 ≤ x) : Up (A.set v x) H p := by
  have ne : ∀ i, i < H.length → i ≠ p → H.getD i 0 ≠ v := fun i hi hne c => hne (hv.inj hi hp (c.trans e.symm))
  refine ⟨fun i h0 hi hne => ?_, fun h0 i hi0 hi hpar => ?_⟩
  · have hok := hH i h0 hi (Nat.zero_le _)
    unfold ok at *
    by_cases c : par i = p
    · rw [c, e] at hok ⊢
      exact ahd_raise hl (ne i hi hne) hx hok
    · rw [ahd_set_ne (ne i hi hne) (ne (par i) (by unfold par; omega) c)]
      exact hok
  · have h1 := hH i hi0 hi (Nat.zero_le _)
    have h2 := hH p h0 hp (Nat.zero_le _)
    unfold ok at h1 h2
    rw [hpar] at h1
    rw [ahd_set_ne (ne i hi (by unfold par at hpar; omega)) (ne (par p) (by unfold par; omega) (by unfold par; omega))]
    exact not_trans h1 h2
theorem heap_raise {n : Nat} {A H : List Nat} {pl : List Int} {v x : Nat} (hH : Heap A H) (hv : HV n H pl) (hn : pl.getD v 0 = -1) : Heap (A.set v x) H := by
  have ne : ∀ i, i < H.length → H.getD i 0 ≠ v := fun i hi c => by
    have := (hv.2.2.1 i hi).2.2
    rw [c, hn] at this
    omega
  intro i h0 hi _
  have hok := hH i h0 hi (Nat.zero_le _)
  unfold ok at *
  rw [ahd_set_ne (ne i hi) (ne (par i) (by unfold par; omega))]
  exact hok
end O
/-- An order that holds together. -/
structure Good (w : World) (o : Oid) (s : OS) : Prop where
  ord : Ord w o s
  hv : O.HV o.n (s.Z.take s.hl) s.pl
  heap : O.Heap s.A (s.Z.take s.hl)
  act : ∀ j, s.A.getD j 0 ≤ FL.inf
  rise : s.r ≤ FL.inf
theorem Good.drewN {w : World} {o : Oid} {s : OS} (h : Good w o s) (k : Nat) : Good (w.drewN k) o s := ⟨h.ord, h.hv, h.heap, h.act, h.rise⟩
theorem Good.keep {w w' : World} {o : Oid} {s : OS} {S : List Nat} (h : Good w o s) (q : Chg S w w') (hS : ∀ b, b ∈ blks o → b ∉ S) : Good w' o s := ⟨h.ord.keep q hS, h.hv, h.heap, h.act, h.rise⟩
/-- The same but for the heap. -/
def Like (s s' : OS) : Prop := s'.ph = s.ph ∧ s'.hl = s.hl ∧ ∀ v, s'.pl.getD v 0 = -1 ↔ s.pl.getD v 0 = -1
def bumpA (s : OS) (v : Nat) : List Nat := s.A.set v (FL.fadd (s.A.getD v 0) s.r)
def OS.bump (s : OS) (v : Nat) : List Nat × Nat := if TOPB < (bumpA s v).getD v 0 then ((bumpA s v).map (FL.fmul · SHR), FL.fmul s.r SHR) else (bumpA s v, s.r)
def OS.decay (s : OS) : List Nat × Nat := if TOPB < FL.fdiv s.r DCY then (s.A.map (FL.fmul · SHR), FL.fmul (FL.fdiv s.r DCY) SHR) else (s.A, FL.fdiv s.r DCY)
set_option maxHeartbeats 1600000 in
theorem check_ok (w : World) (o : Oid) (s : OS) (h : Ord w o s) (v : Nat) (h1 : 1 ≤ v) (h2 : v ≤ o.n) : Calls Try.prog 25 #[optr o, .int .i64 v] w fun e w' => e = .returned (.int .i64 0) ∧ w' = w := by
  have c0 := h.c0
  have hn := h.hn
  have d1 : decide ((v : Int) < 1) = false := by simp; omega
  have d2 : ¬ ((o.n : Int) + 1 ≤ (v : Int)) := by omega
  clear h
  go_enter Try.func25, Try.ntmps25
  go_wp2
  go_ret
  exact ⟨rfl, rfl⟩
set_option maxHeartbeats 1600000 in
theorem check_bad (w : World) (o : Oid) (s : OS) (h : Ord w o s) (v : Int) (hv : v < 1 ∨ (o.n : Int) < v) : Calls Try.prog 25 #[optr o, .int .i64 v] w fun e w' => e = .returned (.int .i64 70) ∧ w' = w := by
  have c0 := h.c0
  have hn := h.hn
  clear h
  by_cases d1 : v < 1
  · clear hv
    go_enter Try.func25, Try.ntmps25
    go_wp2
    go_ret
    exact ⟨rfl, rfl⟩
  · have d2 : decide (v < 1) = false := by simpa using d1
    have d3 : (o.n : Int) + 1 ≤ v := by omega
    clear hv d1
    go_enter Try.func25, Try.ntmps25
    go_wp2
    go_ret
    exact ⟨rfl, rfl⟩
set_option maxHeartbeats 1600000 in
theorem bump_bad (w : World) (o : Oid) (s : OS) (h : Ord w o s) (v : Int) (hv : v < 1 ∨ (o.n : Int) < v) : Calls Try.prog 11 #[optr o, .int .i64 v] w fun e w' => e = .returned (.int .i64 70) ∧ w' = w := by
  have C := hide (check_bad w o s h v hv)
  clear h hv
  go_enter Try.func11, Try.ntmps11
  go_wp2_with (go_at_call 25; refine C.out.mono ?_; rintro e w1 ⟨rfl, rfl⟩)
  go_ret
  exact ⟨rfl, rfl⟩
set_option maxRecDepth 100000 in
set_option maxHeartbeats 8000000 in
theorem bump_calls (w : World) (o : Oid) (s : OS) (h : Good w o s) (v : Nat) (h1 : 1 ≤ v) (h2 : v ≤ o.n) :
    Calls Try.prog 11 #[optr o, .int .i64 v] w fun e w' => e = .returned (.int .i64 0) ∧ (∃ s', Good w' o s' ∧ Like s s' ∧ (s'.A, s'.r) = s.bump v) ∧ Chg (blks o) w w' := by
  have C := hide (check_ok w o s h.ord v h1 h2)
  have hn := h.ord.hn
  have hAl : s.A.length = o.n + 1 := h.ord.2.2.2.2.2.1
  have c0 := h.ord.c0
  have c1 := h.ord.c1
  have ca := h.ord.act h2
  have fa := h.ord.actFree v
  obtain ⟨a1, a2, a3⟩ := FL.add_ok (h.act v) h.rise
  have hAdd := add_run (h.act v) h.rise
  have O1 := h.ord.setAct v (FL.fadd (s.A.getD v 0) s.r)
  have C1 : Chg (blks o) w (w.setCell ⟨o.ga, v, none⟩ (.float .f32 (FL.fadd (s.A.getD v 0) s.r))) := (Chg.refl _ w).set (by simp [blks]) _
  have eB : bumpA s v = s.A.set v (FL.fadd (s.A.getD v 0) s.r) := rfl
  have eg : (bumpA s v).getD v 0 = FL.fadd (s.A.getD v 0) s.r := by rw [eB, O.set_eq (by omega)]
  have act1 : ∀ j, (bumpA s v).getD j 0 ≤ FL.inf := by
    intro j
    by_cases e : j = v
    · rw [e, eg]; exact a2
    · rw [eB, O.set_ne e]; exact h.act j
  have hUp : ∀ p, p < s.hl → s.pl.getD v 0 = (p : Int) → O.Up (bumpA s v) (s.Z.take s.hl) p := by
    intro p hp e
    have hlen : (s.Z.take s.hl).length = s.hl := by
      have h1 : s.Z.length = o.n := h.ord.2.2.2.2.2.2.2.1
      have h2 := h.ord.hhl
      rw [List.length_take]; omega
    rcases h.hv.2.2.2 v h1 h2 with c | ⟨i, hi, c, d⟩
    · rw [e] at c; omega
    · obtain rfl : i = p := by rw [e] at c; omega
      exact O.up_raise h.heap h.hv (by omega) hi d a3
  have hNo : s.pl.getD v 0 = -1 → O.Heap (bumpA s v) (s.Z.take s.hl) := fun e => O.heap_raise h.heap h.hv e
  rw [← eB] at O1
  replace eB := hide eB
  replace a1 := hide a1
  replace a2 := hide a2
  replace act1 := hide act1
  replace O1 := hide O1
  replace C1 := hide C1
  replace hUp := hide hUp
  replace hNo := hide hNo
  replace hAl := hide hAl
  have H := hide h
  clear h a3
  obtain ⟨x, hx⟩ : ∃ x, FL.fadd (s.A.getD v 0) s.r = x := ⟨_, rfl⟩
  rw [hx] at eg O1 C1 a2
  obtain ⟨y, hy⟩ : ∃ y, s.A.getD v 0 = y := ⟨_, rfl⟩
  rw [hy] at hAdd ca hx
  rw [hx] at hAdd
  clear hx hy
  have hS := flt_store
  have v1 : (v : Int) < (o.n : Int) + 1 := by omega
  have hF : ∀ W : World, (callFunc 26 #[.int .u32 1621981420]).run Try.prog W = .ok (.value (.float .f32 1621981420)) W := from_run 1621981420
  go_enter Try.func11, Try.ntmps11
  go_wp2_with (go_at_call 25; refine C.out.mono ?_; rintro e w1 ⟨rfl, rfl⟩)
  go_region
  clear c0 c1 ca fa hAdd hS
  generalize (World.setCell w1 _ _) = W1 at O1 C1 ⊢
  have c0 := O1.out.c0
  have ca := O1.out.act h2
  have c4 := O1.out.c4
  have cp := O1.out.pla h2
  simp only [eg] at ca
  simp only at cp
  have ht := order_gt a2.out (Nat.le_of_lt fin_top)
  have hvv := H.out.hv
  have T0 : Hid (s.bump v = if TOPB < x then ((bumpA s v).map (FL.fmul · SHR), FL.fmul s.r SHR) else (bumpA s v, s.r)) := by
    show _ = _
    unfold OS.bump
    rw [eg]
  replace hvv := hide hvv
  replace eg := hide eg
  clear C
  by_cases htop : TOPB < x
  · have SH := hide (fun n => shrink_calls (W1.drewN n) o _ (O1.out.drewN n) hvv.out act1.out H.out.rise)
    rw [if_pos htop] at T0
    have ht' : (FloatKind.f32.format.order x 1621981420 == some .gt) = true := by rw [show (1621981420 : Nat) = TOPB from rfl, ht]; simp [htop]
    replace htop := hide htop
    clear ht c4 cp
    go_wp2_with fail
    go_quiet (fail)
    go_wp2_with fail
    refine (unhide SH _).mono ?_
    rintro e w2 ⟨rfl, ⟨Z, pl, hh, hp⟩, C2⟩
    go_wp2
    go_ret
    refine ⟨rfl, ⟨_, ⟨hh.ord, hh.hv, hp, ?_, ?_⟩, ⟨rfl, rfl, hh.same⟩, ?_⟩, (C1.out.drewN _).trans C2⟩
    · exact map_inf act1.out
    · exact (FL.mul_ok H.out.rise fin_shr.1 fin_shr.2).2
    · rw [T0.out]; rfl
  · have ht' : (FloatKind.f32.format.order x 1621981420 == some .gt) = false := by rw [show (1621981420 : Nat) = TOPB from rfl, ht]; simpa using htop
    rw [if_neg htop] at T0
    replace htop := hide htop
    clear ht
    have hc := hvv.out.2.2.2 v h1 h2
    by_cases hw : s.pl.getD v 0 = -1
    · clear hc
      have hHp := hide (hNo.out hw)
      have hw2 := hide hw
      rw [hw] at cp
      clear hw
      go_wp2_with fail
      go_quiet (fail)
      go_wp2
      go_ret
      exact ⟨rfl, ⟨_, ⟨O1.out, hvv.out, hHp.out, act1.out, H.out.rise⟩, ⟨rfl, rfl, fun _ => Iff.rfl⟩, T0.out.symm⟩, C1.out.drewN _⟩
    · have hlen : (s.Z.take s.hl).length = s.hl := by
        have h1 : s.Z.length = o.n := H.out.ord.2.2.2.2.2.2.2.1
        have h2 := H.out.ord.hhl
        rw [List.length_take]; omega
      rcases hc with c | ⟨p, hp, c, d⟩
      · exact absurd c hw
      rw [hlen] at hp
      have LF := hide (fun n => lift_calls (W1.drewN n) o _ (O1.out.drewN n) hvv.out act1.out p hp (hUp.out p hp c))
      rw [c] at cp
      have np : ¬ ((p : Int) = -1) := by omega
      replace c := hide c
      replace hlen := hide hlen
      replace d := hide d
      clear hw
      go_wp2_with fail
      go_quiet (fail)
      go_wp2_with fail
      refine (unhide LF _).mono ?_
      rintro e w2 ⟨rfl, ⟨Z, pl, hh, hp⟩, C2⟩
      go_wp2
      go_ret
      exact ⟨rfl, ⟨_, ⟨hh.ord, hh.hv, hp, act1.out, H.out.rise⟩, ⟨rfl, rfl, hh.same⟩, T0.out.symm⟩, (C1.out.drewN _).trans (C2.mono (S' := blks o) (fun b hb => by simp [blks] at *; rcases hb with rfl | rfl <;> simp))⟩
end Go.Proofs.Ytigbclhkmjcjjaa
