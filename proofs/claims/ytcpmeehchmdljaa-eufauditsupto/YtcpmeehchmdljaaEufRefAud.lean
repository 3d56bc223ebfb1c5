/-
  The document's looking over of links: given, kid, Alike.
-/
import Derived.Test.YtcpmeehchmdljaaHoldKept
namespace Go.Proofs.Ytcpmeehchmdljaa
open Go.RowKit
set_option linter.unusedVariables false
theorem beq_no {a b : Int} (h : a ≠ b) : (a == b) = false := by simpa using h
theorem bne_no {a b : Int} (h : a ≠ b) : (a != b) = true := by simpa using h
def matches4 (g : E.Lk) (a b tg : Int) : Prop := g.kind = 1 ∧ g.a = a ∧ g.b = b ∧ g.tag = tg
theorem fact_no {gs : List E.Lk} {a b tg : Int} (h : ∀ q, q < gs.length → ¬ matches4 (gs.getD q E.l0) a b tg) : E.factB gs a b tg = false := by
  refine List.any_eq_false.2 fun x hx => ?_
  obtain ⟨j, hj, rfl⟩ := List.getElem_of_mem hx
  have := h j hj
  rw [List.getD_eq_getElem?_getD, List.getElem?_eq_getElem hj] at this
  simpa [matches4] using this
theorem fact_yes {gs : List E.Lk} {a b tg : Int} {q : Nat} (hq : q < gs.length) (h : matches4 (gs.getD q E.l0) a b tg) : E.factB gs a b tg = true := by
  rw [List.getD_eq_getElem?_getD, List.getElem?_eq_getElem hq] at h
  exact List.any_eq_true.2 ⟨gs[q], List.getElem_mem hq, decide_eq_true h⟩
set_option maxRecDepth 100000 in
set_option maxHeartbeats 4000000 in
theorem given_calls (w : World) (B : Nat) (v : Value) (gs : List E.Lk) (kd a b tg : Int) (ua : Option Addr) (un uc : Nat) (h : Links B w v gs) (hB : B ≤ w.heap.size) :
    Calls Try.prog 22 #[v, .agg #[.int .i64 kd, .int .i64 a, .int .i64 b, .int .i64 tg, .slice ua un uc]] w fun e w' => e = .returned (.bool (E.factB gs a b tg)) ∧ Below w.heap.size w w' := by
  obtain ⟨av, cv, rfl, ln⟩ := h.shape
  have X0 := hide (heap_alloc_new w (.cells #[.int .i64 kd, .int .i64 a, .int .i64 b, .int .i64 tg, .slice ua un uc] 26))
  have B0 := hide ((Below.refl _ w).alloc (Nat.le_refl _) (.cells #[.int .i64 kd, .int .i64 a, .int .i64 b, .int .i64 tg, .slice ua un uc] 26))
  have L0 := hide (h.below (B0.out.mono hB))
  clear h
  have ea : (a == a) = true := by simp
  have eb : (b == b) = true := by simp
  have et : (tg == tg) = true := by simp
  go_enter Try.func22, Try.ntmps22
  go_wp2_with fail
  generalize w.alloc (.cells #[.int .i64 kd, .int .i64 a, .int .i64 b, .int .i64 tg, .slice ua un uc] 26) = W0 at *
  go_loopw [5] (fun x wr => ∃ k : Nat, x = .int .i64 (k : Int) ∧ k ≤ gs.length ∧ Hid (∀ q, q < k → ¬ matches4 (gs.getD q E.l0) a b tg) ∧ Hid (∃ m, wr = W0.drewN m)) (fun x _ => gs.length - (intOf x).toNat)
  case atStart => exact ⟨0, rfl, Nat.zero_le _, fun q hq => absurd hq (Nat.not_lt_zero _), ⟨0, rfl⟩⟩
  case round =>
    obtain ⟨k, rfl, hk, HN, HW⟩ := hrel
    have HWn : Hid (∀ m', ∃ m, wr.drewN m' = W0.drewN m) := by
      intro m'
      obtain ⟨m, e⟩ := HW.out
      exact ⟨m + m', by rw [e]; exact World.drewN_drewN _ _ _⟩
    have HWb : Hid (∀ m', Below w.heap.size w (wr.drewN m')) := by
      intro m'
      obtain ⟨m, e⟩ := HWn.out m'
      rw [e]
      exact below_drewN B0.out m
    by_cases hlt : k < gs.length
    · obtain ⟨b', off, rfl, hb', x0, x1, x2, x3, -⟩ := L0.out.at_ hlt
      have YES := hide (fun (h : matches4 (gs.getD k E.l0) a b tg) => fact_yes hlt h)
      have NO : Hid (¬ matches4 (gs.getD k E.l0) a b tg → ∀ q, q < k + 1 → ¬ matches4 (gs.getD q E.l0) a b tg) := fun h q hq => by
        rcases Nat.lt_or_ge q k with c | c
        · exact HN.out q c
        · obtain rfl : q = k := by omega
          exact h
      have g1 : (k : Int) < (gs.length : Int) := by omega
      have g0 : (0 : Int) ≤ (k : Int) := by omega
      obtain ⟨⟨i0, i1, i2, i3, -⟩, -⟩ := five_box X0.out
      have CW : Hid (∀ p, wr.cell? p = W0.cell? p) := fun p => by obtain ⟨m, e⟩ := HW.out; rw [e]; rfl
      rw [← CW.out] at x0 x1 x2 x3 i0 i1 i2 i3
      unfold matches4 at YES NO
      generalize (gs.getD k E.l0).kind = gk at *
      generalize (gs.getD k E.l0).a = ga at *
      generalize (gs.getD k E.l0).b = gb at *
      generalize (gs.getD k E.l0).tag = gt at *
      by_cases e1 : gk = 1
      · subst e1
        by_cases e2 : ga = a
        · subst e2
          by_cases e3 : gb = b
          · subst e3
            by_cases e4 : gt = tg
            · subst e4
              have Y1 := hide (YES.out ⟨rfl, rfl, rfl, rfl⟩)
              clear YES NO HN
              go_wp2_with fail
              go_quiet (fail)
              go_wp2
              go_ret
              exact ⟨by rw [Y1.out]; rfl, HWb.out _⟩
            · have N1 := hide (NO.out (fun h => e4 h.2.2.2))
              replace e4 := beq_no e4
              clear YES NO HN
              go_wp2_with fail
              go_quiet (fail)
              go_wp2
              go_roundw
              case rel => exact ⟨k + 1, by go_num, by omega, N1, HWn.out _⟩
              case measure => simp [intOf]; omega
          · have N1 := hide (NO.out (fun h => e3 h.2.2.1))
            replace e3 := beq_no e3
            clear YES NO HN
            go_wp2_with fail
            go_quiet (fail)
            go_wp2
            go_roundw
            case rel => exact ⟨k + 1, by go_num, by omega, N1, HWn.out _⟩
            case measure => simp [intOf]; omega
        · have N1 := hide (NO.out (fun h => e2 h.2.1))
          replace e2 := beq_no e2
          clear YES NO HN
          go_wp2_with fail
          go_quiet (fail)
          go_wp2
          go_roundw
          case rel => exact ⟨k + 1, by go_num, by omega, N1, HWn.out _⟩
          case measure => simp [intOf]; omega
      · have N1 := hide (NO.out (fun h => e1 h.1))
        replace e1 := beq_no e1
        clear YES NO HN
        go_wp2_with fail
        go_quiet (fail)
        go_wp2
        go_roundw
        case rel => exact ⟨k + 1, by go_num, by omega, N1, HWn.out _⟩
        case measure => simp [intOf]; omega
    · obtain rfl : k = gs.length := by omega
      have N1 := hide (fact_no HN.out)
      clear hlt hk HN
      go_wp2
      go_ret
      exact ⟨by rw [N1.out]; rfl, by have := HWb.out 0; exact this⟩
set_option maxRecDepth 100000 in
set_option maxHeartbeats 4000000 in
theorem kid_calls (w : World) (B : Nat) (v : Value) (ls : List E.Lk) (at_ k : Nat) (h : Links B w v ls) (ha : at_ < ls.length) (hk : k < (ls.getD at_ E.l0).kids.length) (h0 : 0 ≤ (ls.getD at_ E.l0).kids.getD k 0) (h1 : (ls.getD at_ E.l0).kids.getD k 0 < at_) :
    Calls Try.prog 23 #[v, .int .i64 (at_ : Int), .int .i64 (k : Int)] w fun e w' => e = .returned (.tuple #[.int .i64 (E.at_ ls ((ls.getD at_ E.l0).kids.getD k 0)).a, .int .i64 (E.at_ ls ((ls.getD at_ E.l0).kids.getD k 0)).b]) ∧ ∃ m, w' = w.drewN m := by
  obtain ⟨av, cv, rfl, ln⟩ := h.shape
  obtain ⟨b, off, rfl, hb, -, -, -, -, ⟨u, c4, R⟩, -⟩ := h.at_ ha
  obtain ⟨ua, uc, rfl, un⟩ := R.shape
  obtain ⟨b2, off2, rfl, -, d0⟩ := R.at_ hk
  obtain ⟨z, hz⟩ : ∃ z : Nat, (ls.getD at_ E.l0).kids.getD k 0 = (z : Int) := ⟨((ls.getD at_ E.l0).kids.getD k 0).toNat, by omega⟩
  have hzl : z < ls.length := by omega
  obtain ⟨b3, off3, e3, -, -, x1, x2, -, -⟩ := h.at_ hzl
  cases e3
  rw [hz] at d0 ⊢
  have ez : E.at_ ls (z : Int) = ls.getD z E.l0 := by unfold E.at_; rw [Int.toNat_natCast]
  rw [ez]
  generalize (ls.getD z E.l0).a = A at *
  generalize (ls.getD z E.l0).b = B' at *
  have k0 : (0 : Int) ≤ (k : Int) := by omega
  have k1 : (k : Int) < ((ls.getD at_ E.l0).kids.length : Int) := by omega
  have k2 : (0 : Int) ≤ (at_ : Int) := by omega
  have k3 : (at_ : Int) < (ls.length : Int) := by omega
  have k4 : (0 : Int) ≤ (z : Int) := by omega
  have k5 : (z : Int) < (ls.length : Int) := by omega
  generalize (ls.getD at_ E.l0).kids.length = kn at *
  clear h R hz ez h0 h1
  go_enter Try.func23, Try.ntmps23
  go_wp2_with fail
  go_quiet (fail)
  go_wp2
  go_ret2
  exact ⟨rfl, _, rfl⟩
set_option maxRecDepth 100000 in
set_option maxHeartbeats 4000000 in
theorem alike_calls (w : World) (f1 f2 : Int) (a1 a2 : Option Addr) (n1 c1 n2 c2 : Nat) :
    Calls Try.prog 25 #[.agg #[.int .i64 f1, .slice a1 n1 c1], .agg #[.int .i64 f2, .slice a2 n2 c2]] w fun e w' => e = .returned (.bool (decide (0 ≤ f1 ∧ f1 = f2 ∧ n1 = n2))) ∧ Below w.heap.size w w' := by
  obtain ⟨bb, hbb⟩ : ∃ bb, decide (0 ≤ f1 ∧ f1 = f2 ∧ n1 = n2) = bb := ⟨_, rfl⟩
  rw [hbb]
  replace hbb := hide hbb
  have X0 := heap_alloc_new w (.cells #[.int .i64 f1, .slice a1 n1 c1] 31)
  have Y0 := heap_alloc_new (w.alloc (.cells #[.int .i64 f1, .slice a1 n1 c1] 31)) (.cells #[.int .i64 f2, .slice a2 n2 c2] 31)
  have Q1 : Below w.heap.size w (w.alloc (.cells #[.int .i64 f1, .slice a1 n1 c1] 31)) := (Below.refl _ w).alloc (Nat.le_refl _) _
  have Q2 := hide (Q1.alloc Q1.size (.cells #[.int .i64 f2, .slice a2 n2 c2] 31))
  have X1 := kept_blockK (w' := (w.alloc (.cells #[.int .i64 f1, .slice a1 n1 c1] 31)).alloc (.cells #[.int .i64 f2, .slice a2 n2 c2] 31)) X0 ((Below.refl _ _).alloc (Nat.le_refl _) _)
  have sx : (w.alloc (.cells #[.int .i64 f1, .slice a1 n1 c1] 31)).heap.size = w.heap.size + 1 := by show (w.heap.push _).size = _; simp
  rw [sx] at Y0
  have i0 := cell_of_row _ _ 0 _ _ _ X1
  have i1 := cell_of_row _ _ 1 _ _ _ X1
  have j0 := cell_of_row _ _ 0 _ _ _ Y0
  have j1 := cell_of_row _ _ 1 _ _ _ Y0
  simp only [List.getElem?_toArray, List.getElem?_cons_zero, List.getElem?_cons_succ] at i0 i1 j0 j1
  replace X0 := hide X0
  clear X0 Y0 X1 sx Q1
  go_enter Try.func25, Try.ntmps25
  go_upto_region 1 with fail
  by_cases e1 : 0 ≤ f1
  · by_cases e2 : f1 = f2
    · by_cases e3 : n1 = n2
      · subst e2
        subst e3
        have t1 : (f1 == f1) = true := by simp
        have t2 : decide (0 ≤ f1) = true := decide_eq_true e1
        have E : Hid (bb = true) := hbb.out.symm.trans (decide_eq_true ⟨e1, rfl, rfl⟩)
        go_wp2_with fail
        go_ret
        exact ⟨by rw [E.out]; rfl, Q2.out⟩
      · subst e2
        have t1 : (f1 == f1) = true := by simp
        have t2 : decide (0 ≤ f1) = true := decide_eq_true e1
        have t3 : ((n1 : Int) == (n2 : Int)) = false := beq_no (by omega)
        have E : Hid (bb = false) := hbb.out.symm.trans (decide_eq_false (fun h => e3 h.2.2))
        go_wp2_with fail
        go_ret
        exact ⟨by rw [E.out]; rfl, Q2.out⟩
    · have t1 := beq_no e2
      have t2 : decide (0 ≤ f1) = true := decide_eq_true e1
      have E : Hid (bb = false) := hbb.out.symm.trans (decide_eq_false (fun h => e2 h.2.1))
      clear e2
      go_wp2_with fail
      go_ret
      exact ⟨by rw [E.out]; rfl, Q2.out⟩
  · have t2 : decide (0 ≤ f1) = false := decide_eq_false e1
    have E : Hid (bb = false) := hbb.out.symm.trans (decide_eq_false (fun h => e1 h.1))
    go_wp2_with fail
    go_ret
    exact ⟨by rw [E.out]; rfl, Q2.out⟩
end Go.Proofs.Ytcpmeehchmdljaa
