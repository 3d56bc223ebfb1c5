/-
  shrinkAll: all activities and the rise are made small, and the heap is built anew.
-/
import Derived.Test.YtigbclhkmjcjjaaOrdSink
import Derived.Laws.Externs
namespace Go.Proofs.Ytigbclhkmjcjjaa
open Go.RowKit
set_option linter.unusedVariables false
theorem from_run (n : Nat) (w : World) : (callFunc 26 #[.int .u32 (n : Int)]).run Try.prog w = .ok (.value (.float .f32 n)) w := by
  rw [run_callFunc_extern Try.func26 (by kernel_rfl) (by kernel_rfl) (by kernel_rfl) (e := fun args => Extern.MathFloatBits.float32frombits args) (by kernel_rfl) _ w]
  rfl
theorem bits_run (n : Nat) (w : World) : (callFunc 29 #[.float .f32 n]).run Try.prog w = .ok (.value (.int .u32 (n : Int))) w := by
  rw [run_callFunc_extern Try.func29 (by kernel_rfl) (by kernel_rfl) (by kernel_rfl) (e := fun args => Extern.MathFloatBits.float32bits args) (by kernel_rfl) _ w]
  rfl
def SHR : Nat := 507307272
def TOPB : Nat := 1621981420
def DCY : Nat := 1064514355
theorem fin_shr : SHR < FL.inf ∧ FL.mg SHR ≠ 0 := ⟨by rw [FL.inf_eq]; decide, by unfold FL.mg SHR; rw [if_neg (by decide)]; omega⟩
theorem fin_dcy : DCY < FL.inf ∧ FL.mg DCY ≠ 0 := ⟨by rw [FL.inf_eq]; decide, by unfold FL.mg DCY; rw [if_neg (by decide)]; omega⟩
theorem fin_top : TOPB < FL.inf := by rw [FL.inf_eq]; decide
theorem mul_run {x y : Nat} (hx : x ≤ FL.inf) (hy : y < FL.inf) (h0 : FL.mg y ≠ 0) (w : World) : (binOp .mul 50 (.float .f32 x) (.float .f32 y)).run Try.prog w = .ok (.float .f32 (FL.fmul x y)) w :=
  run_float_arith w .mul 50 .f32 x y _ (FL.mul_ok hx hy h0).1
theorem add_run {x y : Nat} (hx : x ≤ FL.inf) (hy : y ≤ FL.inf) (w : World) : (binOp .add 50 (.float .f32 x) (.float .f32 y)).run Try.prog w = .ok (.float .f32 (FL.fadd x y)) w :=
  run_float_arith w .add 50 .f32 x y _ (FL.add_ok hx hy).1
theorem quo_run {x y : Nat} (hx : x ≤ FL.inf) (hy : y < FL.inf) (h0 : FL.mg y ≠ 0) (w : World) : (binOp .quo 50 (.float .f32 x) (.float .f32 y)).run Try.prog w = .ok (.float .f32 (FL.fdiv x y)) w :=
  run_float_arith w .quo 50 .f32 x y _ (FL.div_ok hx hy h0).1
theorem flt_store (x : Nat) (a : Addr) (m : Mode) (W : World) : (store a (.float .f32 x) m).run Try.prog W = stored Try.prog W a (.float .f32 x) m := run_store Try.prog W a _ m rfl
/-- The first k of a list changed. -/
def mid (f : Nat → Nat) (A : List Nat) (k : Nat) : List Nat := (A.take k).map f ++ A.drop k
theorem mid_zero (f : Nat → Nat) (A : List Nat) : mid f A 0 = A := by simp [mid]
theorem mid_all (f : Nat → Nat) (A : List Nat) : mid f A A.length = A.map f := by simp [mid]
theorem mid_len (f : Nat → Nat) (A : List Nat) (k : Nat) : (mid f A k).length = A.length := by simp [mid]; omega
theorem mid_get (f : Nat → Nat) {A : List Nat} {k : Nat} (h : k < A.length) : (mid f A k).getD k 0 = A.getD k 0 := by
  unfold mid
  rw [List.getD_eq_getElem?_getD, List.getElem?_append_right (by simp; omega), List.getD_eq_getElem?_getD]
  simp
  congr 2
  omega
theorem mid_set (f : Nat → Nat) {A : List Nat} {k : Nat} (h : k < A.length) : (mid f A k).set k (f (A.getD k 0)) = mid f A (k + 1) := by
  unfold mid
  rw [List.set_append_right _ _ (by simp; omega)]
  have e : k - ((A.take k).map f).length = 0 := by simp; omega
  rw [e, List.drop_eq_getElem_cons h, List.set_cons_zero, List.take_succ_eq_append_getElem h, List.map_append, List.append_assoc]
  simp [List.getD_eq_getElem?_getD, List.getElem?_eq_getElem h]
theorem Heaped.then_ {w w' : World} {o : Oid} {s : OS} {Z Z' : List Nat} {pl pl' : List Int} (h : Heaped w o s Z pl) (q : Heaped w' o { s with Z := Z, pl := pl } Z' pl') : Heaped w' o s Z' pl' :=
  ⟨q.ord, q.hv, fun v => (q.same v).trans (h.same v)⟩
theorem heap_start (A H : List Nat) : O.HeapFrom A H (H.length / 2) := by
  intro i h0 hl hk
  unfold O.par at hk
  omega
theorem heap_dn {A H : List Nat} {k : Nat} (h : O.HeapFrom A H (k + 1)) : O.Dn A H k k := by
  refine ⟨fun i h0 hl hk hne => h i h0 hl (by omega), fun h0 hk => ?_⟩
  exfalso
  unfold O.par at hk
  omega
/-- What all is when it is made small. -/
def OS.shr (s : OS) : OS := { s with A := s.A.map (FL.fmul · SHR), r := FL.fmul s.r SHR }
theorem map_inf {A : List Nat} (h : ∀ j, A.getD j 0 ≤ FL.inf) : ∀ j, (A.map (FL.fmul · SHR)).getD j 0 ≤ FL.inf := by
  intro j
  by_cases hj : j < A.length
  · have e := h j
    simp only [List.getD_eq_getElem?_getD, List.getElem?_map, List.getElem?_eq_getElem hj, Option.map_some, Option.getD_some] at e ⊢
    exact (FL.mul_ok e fin_shr.1 fin_shr.2).2
  · rw [List.getD_eq_getElem?_getD, List.getElem?_eq_none (by simpa using hj)]
    exact Nat.zero_le _
set_option maxRecDepth 100000 in
set_option maxHeartbeats 8000000 in
theorem shrink_calls (w : World) (o : Oid) (s : OS) (h : Ord w o s) (hv : O.HV o.n (s.Z.take s.hl) s.pl) (hA : ∀ j, s.A.getD j 0 ≤ FL.inf) (hr : s.r ≤ FL.inf) :
    Calls Try.prog 27 #[optr o] w fun e w' => e = .returned (.tuple #[]) ∧ (∃ Z pl, Heaped w' o s.shr Z pl ∧ O.Heap s.shr.A (Z.take s.hl)) ∧ Chg (blks o) w w' := by
  have hn := h.hn
  have hl := h.hhl
  have hAl : s.A.length = o.n + 1 := h.2.2.2.2.2.1
  have hF : ∀ W : World, (callFunc 26 #[.int .u32 507307272]).run Try.prog W = .ok (.value (.float .f32 507307272)) W := from_run 507307272
  have c0 := h.c0
  have O0 : Hid (Ord w o { s with A := mid (FL.fmul · SHR) s.A 0 }) := by show Ord _ _ _; rw [mid_zero]; exact h
  have C0 : Hid (Chg (blks o) w w) := Chg.refl _ w
  replace hA := hide hA
  replace hr := hide hr
  replace hv := hide hv
  replace hAl := hide hAl
  replace hl := hide hl
  clear h
  go_enter Try.func27, Try.ntmps27
  go_wp2
  clear c0 hF
  go_loopw [12] (fun j wr => ∃ k : Nat, j = .int .i64 k ∧ k ≤ o.n + 1 ∧ Hid (Ord wr o { s with A := mid (FL.fmul · SHR) s.A k }) ∧ Hid (Chg (blks o) w wr)) (fun j _ => o.n + 1 - (intOf j).toNat)
  case atStart => exact ⟨0, rfl, Nat.zero_le _, O0, C0⟩
  case round =>
    obtain ⟨k, rfl, hk, HO, HC⟩ := hrel
    clear O0 C0
    by_cases hlt : k < o.n + 1
    · have hkl : k < s.A.length := by rw [hAl.out]; exact hlt
      have c0 := HO.out.c0
      have ck := HO.out.act (j := k) (by omega)
      have fk := HO.out.actFree k
      have eg : (mid (FL.fmul · SHR) s.A k).getD k 0 = s.A.getD k 0 := mid_get _ hkl
      have es := mid_set (FL.fmul · SHR) hkl
      simp only [eg] at ck
      have xk := hA.out k
      have O1 := HO.out.setAct k (FL.fmul (s.A.getD k 0) SHR)
      simp only [es] at O1
      have C1 := HC.out.set (g := o.ga) (j := k) (by simp [blks]) (.float .f32 (FL.fmul (s.A.getD k 0) SHR))
      clear eg es
      generalize s.A.getD k 0 = x at *
      have hM := mul_run xk fin_shr.1 fin_shr.2
      replace O1 := hide O1
      replace C1 := hide C1
      replace xk := hide xk
      rw [show SHR = 507307272 from rfl] at hM
      have g1 : (k : Int) < (o.n : Int) + 1 := by omega
      have hS := flt_store
      go_wp2
      go_roundw
      case rel => exact ⟨k + 1, by go_num, by omega, O1, C1⟩
      case measure => simp [intOf]; omega
    · have hkk : k = o.n + 1 := by omega
      have emid : mid (FL.fmul · SHR) s.A k = s.A.map (FL.fmul · SHR) := by rw [hkk, ← hAl.out, mid_all]
      have hlt' : ¬ (k : Int) < (o.n : Int) + 1 := by omega
      clear hkk hlt hk
      have HO2 := HO.out
      simp only [emid] at HO2
      have c1 := HO2.c1
      have f1 := HO2.free 1
      simp only at c1
      have O1 : Ord (wr.setCell ⟨o.P, 1, none⟩ (.float .f32 (FL.fmul s.r SHR))) o s.shr := HO2.setRise (FL.fmul s.r SHR)
      have C1 := HC.out.set (g := o.P) (j := 1) (by simp [blks]) (.float .f32 (FL.fmul s.r SHR))
      have hM := mul_run hr.out fin_shr.1 fin_shr.2
      rw [show SHR = 507307272 from rfl] at hM O1 C1
      have hS := flt_store
      have d3 := O1.c3
      replace O1 := hide O1
      replace C1 := hide C1
      clear HO2 HO HC emid
      have hle : s.shr.hl = s.hl := rfl
      rw [hle] at d3
      generalize s.r = rr at *
      obtain ⟨q, hq⟩ : ∃ q, s.hl / 2 = q := ⟨_, rfl⟩
      have q1 : (s.hl : Int).tdiv 2 = (q : Int) := by
        rw [Int.tdiv_eq_ediv_of_nonneg (by omega)]
        omega
      have q2 : q ≤ 1000000 := by have := hl.out; omega
      replace hq := hide hq
      replace hle := hide hle
      go_wp2
      clear c1 f1 hM hS d3 q1
      generalize (World.setCell wr _ _) = W1 at O1 C1 ⊢
      have H1 : Hid (Heaped W1 o s.shr s.Z s.pl) := ⟨O1.out, hv.out, fun _ => Iff.rfl⟩
      have HL := hide (H1.out.len)
      have hA' : Hid (∀ j, s.shr.A.getD j 0 ≤ FL.inf) := map_inf hA.out
      go_loopw [5] (fun j wr => ∃ (k : Nat) (Z : List Nat) (pl : List Int), j = .int .i64 ((k : Int) - 1) ∧ k ≤ q ∧ Hid (Heaped wr o s.shr Z pl) ∧ Hid (O.HeapFrom s.shr.A (Z.take s.hl) k) ∧ Hid (Chg (blks o) w wr)) (fun j _ => (intOf j + 1).toNat)
      case atStart =>
        refine ⟨q, s.Z, s.pl, by go_num, Nat.le_refl _, H1, ?_, C1⟩
        have := heap_start s.shr.A (s.Z.take s.hl)
        have e : (s.Z.take s.hl).length = s.hl := HL.out
        rw [e, hq.out] at this
        exact this
      case round =>
        obtain ⟨k, Z, pl, rfl, hk, HH, HF, HC⟩ := hrel
        clear H1 O1 C1
        rcases k with _ | k
        · go_wp2
          go_end0
          exact ⟨rfl, ⟨Z, pl, HH.out, HF.out⟩, HC.out⟩
        · have ek : ((k + 1 : Nat) : Int) - 1 = (k : Int) := by omega
          rw [ek]
          have kl : k < s.hl := by have := hq.out; omega
          have SK := hide (sink_calls wr o { s.shr with Z := Z, pl := pl } HH.out.ord HH.out.hv hA'.out k k (Nat.le_refl _) (.inl kl) (heap_dn HF.out))
          go_wp2_with fail
          refine SK.out.mono ?_
          rintro e w2 ⟨rfl, ⟨Z2, pl2, HH2, HF2⟩, C2⟩
          have HH3 := HH.out.then_ HH2
          have C3 := HC.out.trans (C2.mono (S' := blks o) (fun b hb => by simp [blks] at *; rcases hb with rfl | rfl <;> simp))
          go_wp2
          go_roundw
          case rel => exact ⟨k, Z2, pl2, by go_num, by omega, HH3, HF2, C3⟩
          case measure => simp [intOf]
end Go.Proofs.Ytigbclhkmjcjjaa
