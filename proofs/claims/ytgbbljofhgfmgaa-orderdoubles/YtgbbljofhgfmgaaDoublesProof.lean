/-
  For every whole number k the numbers of Luby's row up to place 2^K - 1 add up as the document says, each power of two coming as often as it says. No condition.
-/
import Derived.Test.YtgbbljofhgfmgaaRows
import Derived.Test.YtgbbljofhgfmgaaLubyCalls
import Derived.ShutString
import Derived.ChangeOld
import Derived.Below
import Derived.WalkKit
import Derived.ProofKit
import Derived.OpenShut
namespace Go.Proofs.Ytgbbljofhgfmgaa.orderDoubles
open Go.ChangeShapes Go.WideShapes Go.ChangeAt Go.RowKit
set_option linter.unusedVariables false      -- a walk need not use every 'w<i>' (that an integer argument fits its kind)

theorem own : ownKnob Try.prog.godebug = none := by kernel_rfl

theorem sliceI : Try.prog.underlying 30 = some (.slice 3) := by kernel_rfl
theorem infoI : (Try.prog.info? 3).map (fun i => (i.zero, i.size, i.bytes)) = some (some (.int .i64 0), 1, 8) := by kernel_rfl

theorem lubyH_calls (i : Nat) (h1 : 1 ≤ i) (h2 : i ≤ 9223372036854775807) (w : World) :
    Calls Try.prog 12 #[.int .i64 (i : Int)] w fun e w' => e = .returned (.int .i64 (LB.lub i : Nat)) ∧ w' = w := by
  have c1 := fun W => luby_calls i h1 h2 W
  generalize LB.lub i = v at c1 ⊢
  go_enter Try.func12, Try.ntmps12
  go_wp2_with (first | (go_at_call 9; refine (c1 _).mono ?_; rintro e w' ⟨rfl, rfl⟩) | (go_at_call 11; refine (no_calls _ _).mono ?_; rintro e w' ⟨rfl, rfl⟩))
  go_ret
  exact ⟨rfl, rfl⟩

/-- What the counts hold behind the first n numbers. -/
def cs (K n : Nat) : List Int := (List.range K).map fun j => (LB.ct (2 ^ j) n : Int)
theorem cs_len (K n : Nat) : (cs K n).length = K := by simp [cs]
theorem cs_get (K n j : Nat) (h : j < K) : (cs K n).getD j 0 = LB.ct (2 ^ j) n := by
  simp [cs, List.getD_eq_getElem?_getD, h]
theorem cs_zero (K : Nat) : cs K 0 = List.replicate K 0 := by
  apply List.ext_getElem (by simp [cs])
  intro j h1 h2
  simp [cs, LB.ct]
theorem cs_next (K n J : Nat) (h : J < K) (e : LB.lub (n + 1) = 2 ^ J) : (cs K n).set J ((cs K n).getD J 0 + 1) = cs K (n + 1) := by
  apply List.ext_getElem (by simp [cs])
  intro j h1 h2
  have hj : j < K := by simpa [cs] using h2
  have hg := cs_get K n J h
  generalize (cs K n).getD J 0 = X at *
  rw [List.getElem_set]
  simp only [cs, List.getElem_map, List.getElem_range, LB.ct, e, hg]
  by_cases c : J = j
  · subst c; simp
  · rw [if_neg c, if_neg (fun x => c (LB.pow_inj2 x))]; simp

theorem sm_le (n : Nat) : LB.sm n ≤ n * n := by
  induction n with
  | zero => exact Nat.le_refl _
  | succ n ih =>
    have := LB.lub_bd (n + 1) (n + 1) (Nat.le_refl _) (by omega)
    show LB.sm n + LB.lub (n + 1) ≤ _
    have e : (n + 1) * (n + 1) = n * n + 2 * n + 1 := by grind
    omega

/-- The powers of two that the walk writes. -/
theorem shl_pow (j : Nat) (h : j ≤ 12) : wrap64 ((2 : Int) ^ j) = ((2 ^ j : Nat) : Int) ∧ 2 ^ j ≤ 4096 := by
  have a : 2 ^ j ≤ 2 ^ 12 := Nat.pow_le_pow_right (by omega) h
  rw [show ((2 : Int) ^ j) = ((2 ^ j : Nat) : Int) by simp]
  generalize 2 ^ j = B at *
  exact ⟨wrap_id _ (by omega) (by omega), a⟩

set_option maxRecDepth 100000 in
set_option maxHeartbeats 1600000 in
theorem walk_big (a0 : Int) (h1 : 1 ≤ a0) (h2 : a0 ≤ 9223372036854775807) (K : Nat) (hK : 1 + a0 % 12 = (K : Int)) (w : World) :
    Calls Try.prog 4 #[.int .i64 a0] w fun e w' => e = .returned (.bool true) ∧ Below w.heap.size w w' := by
  have k1 : 1 ≤ K := by omega
  have k2 : K ≤ 12 := by omega
  obtain ⟨sK, bK⟩ := shl_pow K k2
  obtain ⟨A, hA⟩ : ∃ A, 2 ^ K = A := ⟨_, rfl⟩
  rw [hA] at sK bK
  replace hA := hide hA
  have A1 : 2 ≤ A := by rw [← hA.out]; have := Nat.pow_le_pow_right (n := 2) (by omega) k1; omega
  go_enter Try.func4, Try.ntmps4
  go_wp2_with (at_make; refine wpList_make_row _ rfl _ _ _ rfl .i64 _ 8 sliceI infoI .i64 .i64 _ _ K rfl rfl (by omega) (by omega) (by decide) (by omega) ?_; intro w1 z1 hz1 ho1 hg1 hs1)
  have z0 : Hid (z1 = cs K 0) := by rw [cs_zero]; exact hz1
  rw [z0.out] at ho1
  have hb1 := grown_below hg1
  clear hz1 z0 hg1 hs1
  go_loopw [4, 6] (fun sv iv wr => ∃ n : Nat, n + 1 ≤ A ∧ iv = .int .i64 ((n : Int) + 1) ∧ sv = .int .i64 (LB.sm n : Nat) ∧ Own .i64 3 wr w.heap.size (cs K n) ∧ Below w.heap.size w wr) (fun _ iv _ => A - (intOf iv).toNat)
  case atStart => exact ⟨0, by omega, rfl, rfl, ho1, hb1⟩
  case round =>
    clear ho1 hb1
    obtain ⟨n, hn, rfl, rfl, ho, hb⟩ := hrel
    have sl := sm_le n
    have sq : n * n ≤ 4096 * 4096 := Nat.mul_le_mul (by omega) (by omega)
    have sl' : LB.sm n ≤ 16777216 := by omega
    clear sl sq
    by_cases hlt : n + 1 < A
    · obtain ⟨J, hJ, eJ⟩ := LB.lub_pow K (n + 1) (by omega) (by rw [hA.out]; omega)
      have lb := LB.lub_bd (n + 1) (n + 1) (Nat.le_refl _) (by omega)
      have c1 := fun W => lubyH_calls (n + 1) (by omega) (by omega) W
      have hnext := cs_next K n J hJ eJ
      have hsm : Hid (LB.sm (n + 1) = LB.sm n + LB.lub (n + 1)) := rfl
      replace hnext := hide hnext
      replace eJ := hide eJ
      have hcell := ho.cell J (by rw [cs_len]; omega)
      have hfr := ho.frozen J
      have hct : Hid ((cs K n).getD J 0 = LB.ct (2 ^ J) n) := cs_get K n J hJ
      generalize LB.lub (n + 1) = v at *
      obtain ⟨X, hX⟩ : ∃ X, Hid ((cs K n).getD J 0 = X) := ⟨_, rfl⟩
      rw [hX.out] at hcell
      have hXb : 0 ≤ X ∧ X ≤ 4096 := by
        rw [← hX.out, hct.out]
        have : ∀ m u, LB.ct u m ≤ m := by
          intro m u
          induction m with
          | zero => exact Nat.le_refl _
          | succ m ih => show LB.ct u m + (if LB.lub (m + 1) = u then 1 else 0) ≤ _; split <;> omega
        have := this n (2 ^ J)
        omega
      clear hct
      have hv : Hid (((n + 1 : Nat) : Int) = (n : Int) + 1) := by show _ = _; omega
      rw [hv.out] at c1
      go_wp2_with (go_at_call 12; refine (c1 _).mono ?_; rintro e w' ⟨rfl, rfl⟩)
      go_loop [8, 9] (fun av jv => ∃ j : Nat, j ≤ K ∧ jv = .int .i64 j ∧ av = .int .i64 (if J < j then (J : Int) else -1)) (fun _ jv => K - (intOf jv).toNat)
      case atStart => exact ⟨0, by omega, rfl, rfl⟩
      case round =>
        obtain ⟨j, hj, rfl, rfl⟩ := hrel
        by_cases hjl : j < K
        · obtain ⟨sj, bj⟩ := shl_pow j (by omega)
          have hpj : Hid ((v : Int) = ((2 ^ j : Nat) : Int) ↔ J = j) := by
            show _ ↔ _
            rw [eJ.out]
            constructor
            · intro h; exact LB.pow_inj2 (by exact_mod_cast h)
            · rintro rfl; rfl
          generalize 2 ^ j = B at *
          by_cases hjJ : J = j
          · have hq : ((v : Int) == (B : Int)) = true := by rw [beq_iff_eq]; exact hpj.out.2 hjJ
            go_wp2
            go_round
            case rel => exact ⟨j + 1, by omega, by go_num, by rw [if_pos (by omega)]; congr 1; omega⟩
            case measure => simp [intOf]; omega
          · have hq : ((v : Int) == (B : Int)) = false := by rw [beq_eq_false_iff_ne]; exact fun h => hjJ (hpj.out.1 h)
            go_wp2
            go_round
            case rel => exact ⟨j + 1, by omega, by go_num, by congr 1; by_cases c : J < j <;> simp [c] <;> omega⟩
            case measure => simp [intOf]; omega
        · obtain rfl : j = K := by omega
          rw [if_pos hJ]
          go_wp2
          go_roundw
          case rel =>
            refine ⟨n + 1, by omega, by go_num, by rw [hsm.out]; congr 1, ?_, hb.then_grown (grown_set _ _ _ _) (by simp)⟩
            rw [← hnext.out, hX.out]
            exact ho.set _ _
          case measure => simp [intOf]; omega
    · obtain ⟨m, rfl⟩ : ∃ m, A = m + 1 := ⟨n, by omega⟩
      obtain rfl : n = m := by omega
      have eN : n = 2 ^ K - 1 := by rw [hA.out]; omega
      have hall := LB.sm_all K
      have hcs : ∀ j, j < K → (cs K n).getD j 0 = ((2 ^ (K - 1 - j) : Nat) : Int) := by
        intro j hj
        rw [cs_get K n j hj, eN, LB.ct_all, if_pos hj]
      rw [← eN] at hall
      replace eN := hide eN
      replace hcs := hide hcs
      obtain ⟨s1, b1⟩ := shl_pow (K - 1) (by omega)
      have hfin : (LB.sm n : Int) = (K : Int) * ((2 ^ (K - 1) : Nat) : Int) := by
        have e2 : 2 ^ K = 2 * 2 ^ (K - 1) := by rw [← Nat.pow_succ', show (K - 1).succ = K by omega]
        rw [e2] at hall
        have : K * (2 * 2 ^ (K - 1)) = 2 * (K * 2 ^ (K - 1)) := by grind
        rw [this] at hall
        have : LB.sm n = K * 2 ^ (K - 1) := by omega
        rw [this]; push_cast; rfl
      clear hall
      replace hfin := hide hfin
      obtain ⟨w4, rfl⟩ : ∃ w4, w4 = wr := ⟨_, rfl⟩
      go_wp2
      go_loopw [10] (fun jv wq => ∃ j k : Nat, j ≤ K ∧ jv = .int .i64 j ∧ Hid (wq = w4.drewN k)) (fun jv _ => K - (intOf jv).toNat)
      case atStart => exact ⟨0, 0, by omega, rfl, rfl⟩
      case round =>
        obtain ⟨j, k, hj, rfl, hw⟩ := hrel
        by_cases hjl : j < K
        · obtain ⟨sj, bj⟩ := shl_pow (K - 1 - j) (by omega)
          have hc : wr.cell? ⟨w.heap.size, j, none⟩ = some (.int .i64 ((2 ^ (K - 1 - j) : Nat) : Int)) := by
            have := ho.cell j (by rw [cs_len]; omega)
            rw [hcs.out j hjl] at this
            rw [hw.out]
            exact this
          have hw2 : Hid (∀ m, wr.drewN m = w4.drewN (k + m)) := fun m => by rw [hw.out, World.drewN_drewN]
          have z1 : (0 : Int) ≤ (j : Int) := by omega
          have z2 : (j : Int) < (K : Int) := by omega
          generalize 2 ^ (K - 1 - j) = B at *
          go_wp2
          go_quiet (fail)
          go_wp2
          go_roundw
          case rel => exact ⟨j + 1, k + nq, by omega, by go_num, hw2.out nq⟩
          case measure => simp [intOf]; omega
        · obtain rfl : j = K := by omega
          have hf := hfin.out
          have hm := Nat.mul_le_mul k2 b1
          generalize 2 ^ (j - 1) = B at *
          have hm1 : (j : Int) * (B : Int) = ((j * B : Nat) : Int) := by push_cast; rfl
          have hq : ((LB.sm n : Int) == (j : Int) * (B : Int)) = true := by rw [beq_iff_eq]; exact hf
          have hm2 : (0 : Int) ≤ (j : Int) * (B : Int) ∧ (j : Int) * (B : Int) ≤ 49152 := by rw [hm1]; omega
          replace hf := hide hf
          clear hm1 hm
          have hbw : Hid (Below w.heap.size w wr) := by rw [hw.out]; exact ⟨hb.os, hb.tape, hb.output, hb.size, hb.block⟩
          go_wp2
          go_ret
          exact ⟨rfl, hbw.out⟩

theorem walk (a0 : Int) (w0 : (Lit.int .i64 a0).wf = true) (w : World) :
    Calls Try.prog 4 #[.int .i64 a0] w fun e w' => e = .returned (.bool true) ∧ Below w.heap.size w w' := by
  have b := wf_i64 _ w0
  by_cases h : a0 < 1
  · have c1 := fun W => lubyH_calls 1 (by omega) (by omega) W
    have c2 := fun W => lubyH_calls 2 (by omega) (by omega) W
    have c3 := fun W => lubyH_calls 3 (by omega) (by omega) W
    rw [show LB.lub 1 = 1 by decide +kernel] at c1
    rw [show LB.lub 2 = 1 by decide +kernel] at c2
    rw [show LB.lub 3 = 2 by decide +kernel] at c3
    go_enter Try.func4, Try.ntmps4
    go_wp2_with fail
    refine (c1 _).mono ?_; rintro e w' ⟨rfl, rfl⟩
    go_wp2_with fail
    refine (c2 _).mono ?_; rintro e w' ⟨rfl, rfl⟩
    go_wp2_with fail
    refine (c3 _).mono ?_; rintro e w' ⟨rfl, rfl⟩
    go_wp2
    go_ret
    exact ⟨rfl, Below.refl _ _⟩
  · obtain ⟨K, hK⟩ : ∃ K : Nat, 1 + a0 % 12 = K := ⟨(1 + a0 % 12).toNat, by omega⟩
    exact walk_big a0 (by omega) b.2 K hK w

/-! ### THE ROW's STEP: WRITTEN OUT: LEAVE IT -/
set_option maxRecDepth 100000 in
theorem lifted (os : Os) (started : os.Started) (H : Type) (enc : TypeId × Value → H) :
    ReturnsInHanded {} Try.checked os 4 .any (Rows.orderDoublesSpec.pre6 enc Try.prog Try.f4 Rows.orderDoublesRow.domain false) (Rows.orderDoublesSpec.post enc Try.prog Try.f4 false true false false) := by
  refine returnsInHanded_of_change (C := Try.checked) own started (by kernel_rfl) Try.func4
    (ChangeSpec.witness6 (enc := enc) (C := Try.checked) false ⟨#[], #[.int .i64 0], []⟩ 8 (by kernel_rfl) (by kernel_rfl) (by kernel_rfl) (by kernel_rfl)) ?_
  intro W base args ds gs before hval0 hW hcnd _
  have hval : ∀ (j : Nat) t v, Try.f4.params[j]? = some t → args[j]? = some v → Value.okWide Try.prog W .any base t v := hval0
  have hW' := hW
  obtain ⟨p, q, hA0, hV, rfl, hfz, hnd⟩ := hW
  have hA : DataW.TrodAll enc Try.prog W 0 (fun _ => true) true Try.f4.params.toList args.toList ds p := hA0
  rw [Try.params4] at hA hval
  obtain ⟨v0, vs0, d0, ds0, p0, q0, hargs, rfl, rfl, h0, r0⟩ := trodAll_cons hA
  obtain ⟨rfl, rfl, rfl⟩ := trodAll_nil r0
  obtain rfl : args = #[v0] := by cases args; simp_all
  obtain ⟨rfl, rfl⟩ := trodVars_none hV
  obtain ⟨a0, rfl, rfl, rfl, w0⟩ := open_int Try.underlying3 (hval 0 3 v0 rfl rfl) h0
  clear hA0 hval0
  simp only [List.append_nil] at hW'
  refine (walk a0 w0 W).mono fun e W' ⟨he, bel⟩ => ?_
  subst he
  exact ⟨_, rfl, _, _, _, [], _, [], hW', trodAll_mk1 (shut_bool Try.underlying4 _), (trodAll_cons_mk (shut_int Try.underlying3 w0) trodAll_mk0), rfl, bel.frame _, fun h => by cases h⟩

theorem over : Rows.orderDoublesRow.holds Try.pinned (OpenSpec.ofChange Rows.orderDoublesSpec) :=
  OpenClaim.holds_of_wide 4 Try.f4 rfl rfl rfl rfl rfl rfl rfl ⟨rfl, rfl, rfl, rfl, rfl⟩ rfl rfl rfl rfl rfl (by kernel_rfl) Try.func4 (by kernel_rfl)
    (of_decide_eq_true (by kernel_rfl)) (by unfold Func.isWrapper; first | (rw [if_pos (by decide +kernel)]; kernel_rfl) | (rw [if_neg (by decide +kernel)]; exact ⟨rfl, rfl⟩))
    (fun os started H enc _ => lifted os started H enc)

/-- ████ THE STATEMENT ████ -/
theorem proved : Rows.OrderDoublesSaid :=
  over
#print axioms proved
end Go.Proofs.Ytgbbljofhgfmgaa.orderDoubles
namespace Go.Proofs.Ytgbbljofhgfmgaa
theorem orderDoubles_holds : Rows.OrderDoublesSaid := orderDoubles.proved
#print axioms orderDoubles_holds
end Go.Proofs.Ytgbbljofhgfmgaa
