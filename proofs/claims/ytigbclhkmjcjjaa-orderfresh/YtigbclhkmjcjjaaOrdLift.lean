/-
  lift: a variable comes up to where it belongs.
-/
import Derived.Test.YtigbclhkmjcjjaaOrdAhead
import Derived.Test.YtigbclhkmjcjjaaOrdSwap
namespace Go.Proofs.Ytigbclhkmjcjjaa
open Go.RowKit
set_option linter.unusedVariables false
namespace O
theorem take_getD {Z : List Nat} {m k : Nat} (h : k < m) : (Z.take m).getD k 0 = Z.getD k 0 := by
  rw [List.getD_eq_getElem?_getD, List.getD_eq_getElem?_getD, List.getElem?_take, if_pos h]
theorem swp_take {Z : List Nat} {m i j : Nat} (hi : i < m) (hj : j < m) : (swp Z i j).take m = swp (Z.take m) i j := by
  unfold swp
  rw [take_getD hi, take_getD hj, List.take_set, List.take_set]
theorem swpl_take {Z : List Nat} {pl : List Int} {m i j : Nat} (hi : i < m) (hj : j < m) : swpl Z pl i j = swpl (Z.take m) pl i j := by
  unfold swpl
  rw [← swp_take hi hj, take_getD hi, take_getD hj]
end O
/-- What an order is behind a walk of its heap: another heap over the same. -/
structure Heaped (w : World) (o : Oid) (s : OS) (Z : List Nat) (pl : List Int) : Prop where
  ord : Ord w o { s with Z := Z, pl := pl }
  hv : O.HV o.n (Z.take s.hl) pl
  same : ∀ v, pl.getD v 0 = -1 ↔ s.pl.getD v 0 = -1
theorem Heaped.drewN {w : World} {o : Oid} {s : OS} {Z : List Nat} {pl : List Int} (h : Heaped w o s Z pl) (k : Nat) : Heaped (w.drewN k) o s Z pl := ⟨h.ord, h.hv, h.same⟩
theorem Heaped.len {w : World} {o : Oid} {s : OS} {Z : List Nat} {pl : List Int} (h : Heaped w o s Z pl) : (Z.take s.hl).length = s.hl := by
  have h1 : Z.length = o.n := h.ord.2.2.2.2.2.2.2.1
  have h2 : s.hl ≤ o.n := h.ord.hhl
  rw [List.length_take, h1]
  omega
theorem Heaped.at_ {w : World} {o : Oid} {s : OS} {Z : List Nat} {pl : List Int} (h : Heaped w o s Z pl) {i : Nat} (hi : i < s.hl) : Z.getD i 0 ≤ o.n := by
  have := (h.hv.2.2.1 i (by rw [h.len]; exact hi)).2.1
  rw [O.take_getD hi] at this
  exact this
theorem Heaped.swap {w w' : World} {o : Oid} {s : OS} {Z : List Nat} {pl : List Int} (h : Heaped w o s Z pl) {i j : Nat} (hi : i < s.hl) (hj : j < s.hl) (q : Ord w' o (OS.swp { s with Z := Z, pl := pl } i j)) :
    Heaped w' o s (O.swp Z i j) (O.swpl Z pl i j) ∧ (O.swp Z i j).take s.hl = O.swp (Z.take s.hl) i j := by
  obtain ⟨a, b⟩ := O.hv_swp h.hv (i := i) (j := j) (by rw [h.len]; exact hi) (by rw [h.len]; exact hj)
  refine ⟨⟨q, ?_, fun v => ?_⟩, O.swp_take hi hj⟩
  · rw [O.swp_take hi hj, O.swpl_take hi hj]
    exact a
  · rw [O.swpl_take hi hj]
    exact (b v).trans (h.same v)
set_option maxRecDepth 100000 in
set_option maxHeartbeats 4000000 in
theorem lift_calls (w : World) (o : Oid) (s : OS) (h : Ord w o s) (hv : O.HV o.n (s.Z.take s.hl) s.pl) (hA : ∀ j, s.A.getD j 0 ≤ FL.inf) (p0 : Nat) (hp : p0 < s.hl) (hu : O.Up s.A (s.Z.take s.hl) p0) :
    Calls Try.prog 28 #[optr o, .int .i64 p0] w fun e w' => e = .returned (.tuple #[]) ∧ (∃ Z pl, Heaped w' o s Z pl ∧ O.Heap s.A (Z.take s.hl)) ∧ Chg [o.gh, o.gl] w w' := by
  have hn := h.hn
  have hl := h.hhl
  have H0 : Hid (Heaped w o s s.Z s.pl) := ⟨h, hv, fun _ => Iff.rfl⟩
  have C0 : Hid (Chg [o.gh, o.gl] w w) := Chg.refl _ w
  replace hA := hide hA
  replace hu := hide hu
  clear h hv
  replace hn := hide hn
  replace hl := hide hl
  go_enter Try.func28, Try.ntmps28
  go_wp2
  go_loopw [1] (fun a wr => ∃ (p : Nat) (Z : List Nat) (pl : List Int), a = .int .i64 p ∧ p < s.hl ∧ Hid (Heaped wr o s Z pl) ∧ Hid (O.Up s.A (Z.take s.hl) p) ∧ Hid (Chg [o.gh, o.gl] w wr)) (fun a _ => (intOf a).toNat)
  case atStart => exact ⟨p0, s.Z, s.pl, rfl, hp, H0, hu, C0⟩
  case round =>
    obtain ⟨p, Z, pl, rfl, hp, HH, hU, hC⟩ := hrel
    clear hu H0 C0
    rcases Nat.eq_zero_or_pos p with rfl | hpos
    · have hd : decide ((0 : Int) < ((0 : Nat) : Int)) = false := by decide
      go_wp2_with fail
      go_quiet (fail)
      go_wp2
      go_end0
      exact ⟨rfl, ⟨Z, pl, HH.out.drewN _, O.up_done hU.out (.inl rfl)⟩, hC.out.drewN _⟩
    · obtain ⟨m, hm⟩ : ∃ m, O.par p = m := ⟨_, rfl⟩
      have g2 : ((p : Int) - 1).tdiv 2 = (m : Int) := by
        rw [Int.tdiv_eq_ediv_of_nonneg (by omega), ← hm]
        unfold O.par
        omega
      have mp : m < p := by rw [← hm]; unfold O.par; omega
      have hlen := HH.out.len
      have pn : p < o.n := by have := hl.out; omega
      have p6 : (p : Int) < 1000000 := by have := hn.out; omega
      have m1 : m < s.hl := by omega
      have c3 := HH.out.ord.c3
      have cp := HH.out.ord.hea (j := p) pn
      have cq := HH.out.ord.hea (j := m) (by omega)
      have AH := fun n => ahead_calls (wr.drewN n) o _ (HH.out.ord.drewN n) hA.out (Z.getD p 0) (Z.getD m 0) (HH.out.at_ hp) (HH.out.at_ m1)
      have g1 : (0 : Int) < (p : Int) := by omega
      have g3 : (m : Int) < (s.hl : Int) := by omega
      have g4 : (p : Int) < (s.hl : Int) := by omega
      obtain ⟨x, hx⟩ : ∃ x, Z.getD p 0 = x := ⟨_, rfl⟩
      obtain ⟨y, hy⟩ : ∃ y, Z.getD m 0 = y := ⟨_, rfl⟩
      simp only [hx, hy] at AH cp cq
      have T1 : Hid ((Z.take s.hl).getD p 0 = x) := by show _ = _; rw [O.take_getD hp, hx]
      have T2 : Hid ((Z.take s.hl).getD m 0 = y) := by show _ = _; rw [O.take_getD m1, hy]
      replace hlen := hide hlen
      replace hm := hide hm
      clear hx hy
      by_cases ha : O.ahd s.A x y = true
      · simp only [ha] at AH
        replace AH := hide AH
        replace ha := hide ha
        go_wp2_with fail
        go_quiet ((go_at_call 33; exact Calls.quiet_of (unhide AH _)))
        go_wp2_with fail
        refine (swap_calls _ o _ (HH.out.drewN _).ord p m hp m1 (HH.out.at_ hp) (HH.out.at_ m1)).mono ?_
        rintro e w2 ⟨rfl, O2, C2⟩
        obtain ⟨S1, S2⟩ := HH.out.swap hp m1 O2
        have C3 := (hC.out.drewN _).trans C2
        go_wp2
        go_roundw
        case rel =>
          refine ⟨m, _, _, by go_num, m1, S1, ?_, C3⟩
          show O.Up _ _ _
          rw [S2]
          have := O.up_step hU.out hpos (by rw [hlen.out]; exact hp) (by rw [T1.out, hm.out, T2.out]; exact ha.out)
          rw [hm.out] at this
          exact this
        case measure => simp [intOf]; omega
      · have ha' : O.ahd s.A x y = false := by simpa using ha
        simp only [ha'] at AH
        replace AH := hide AH
        replace ha' := hide ha'
        clear ha
        go_wp2_with fail
        go_quiet ((go_at_call 33; exact Calls.quiet_of (unhide AH _)))
        go_wp2
        go_end0
        refine ⟨rfl, ⟨Z, pl, HH.out.drewN _, O.up_done hU.out (.inr ?_)⟩, hC.out.drewN _⟩
        show O.ahd _ _ _ = false
        rw [T1.out, hm.out, T2.out]
        exact ha'.out
end Go.Proofs.Ytigbclhkmjcjjaa
