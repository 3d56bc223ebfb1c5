/- Proved: ScanLines returns true for every two texts and every number: places of a text behind another one and the end of a line are on the lines of both, at their own column, and places rise. No condition. -/
import Derived.Test.YtnkhdfliiaieeaaRows
import Derived.Test.YtnkhdfliiaieeaaLinesMath
import Derived.WalkKit
import Derived.ProofKit
import Derived.OpenShut
import Derived.ShutString
import Derived.SizedLaws
namespace Go.Proofs.Ytnkhdfliiaieeaa.scanLines
open Go.ChangeShapes Go.WideShapes Go.ChangeAt Go.RowKit
open Go.ChangeMaps (open_string shut_string)
set_option linter.unusedVariables false      -- a walk need not use every 'w<i>' (that an integer argument fits its kind)

theorem own : ownKnob Try.prog.godebug = none := by kernel_rfl

/-! ### STEP 1: THE WALK: the Go text returns true. 'Grown w w'': the world has at most new blocks (Derived/RowKit3.lean). Part the cases AHEAD of 'go_enter' where a test parts the walk; take each callee by a contract of your own. -/
theorem place_at (s : ByteArray) (l : List UInt8) (hs : s.data.toList = l) (hlen : l.length ≤ 281474976710656) (i : Int) (n : Nat) (hi : i = n) (hn : n ≤ l.length) (W : World) :
    Calls Try.prog 6 #[.string s, .int .i64 i] W fun e w' => e = .returned (.tuple #[.int .i64 (lin l n : Nat), .int .i64 (col l n : Nat), .int .i64 0]) ∧ w' = W := by
  subst hi
  have h := place_calls W s l hs hlen n
  rw [placeV_in hn] at h
  exact h
set_option maxRecDepth 100000 in
set_option maxHeartbeats 1600000 in
theorem walk (a0 : ByteArray) (a1 : ByteArray) (a2 : Int) (w0 : a0.size ≤ maxLen) (w1 : a1.size ≤ maxLen) (w2 : (Lit.int .i64 a2).wf = true) (hr0 : a0.data.toList.length ≤ reachBytes) (hr1 : a1.data.toList.length ≤ reachBytes) (w : World) :
    Calls Try.prog 3 #[.string a0, .string a1, .int .i64 a2] w fun e w' => e = .returned (.bool true) ∧ Grown w w' := by
  unfold reachBytes at hr0 hr1
  have hcat : Hid ((a0 ++ ⟨#[13, 10]⟩ ++ a1).data.toList = a0.data.toList ++ ([13, 10] ++ a1.data.toList)) := by simp [Hid]
  clear w0 w1
  generalize hA : a0.data.toList = A at *
  generalize hB : a1.data.toList = B at *
  have s0 := size_of a0 A hA
  have s1 := size_of a1 B hB
  replace hA := hide hA
  replace hB := hide hB
  by_cases hneg : a2 < 0
  · go_enter Try.func3, Try.ntmps3
    go_wp2
    go_ret
    exact ⟨rfl, Grown.refl _⟩
  by_cases hbig : (B.length : Int) < a2
  · go_enter Try.func3, Try.ntmps3
    go_wp2
    go_ret
    exact ⟨rfl, Grown.refl _⟩
  obtain ⟨k, rfl⟩ : ∃ n : Nat, a2 = n := ⟨a2.toNat, by omega⟩
  have hclen : Hid ((A ++ ([13, 10] ++ B)).length = A.length + 2 + B.length) := by simp [Hid]; omega
  have P1 := hide (fun i hi W => place_at a0 A hA.out (by omega) i A.length hi (Nat.le_refl _) W)
  have P2 := hide (fun i hi W => place_at a1 B hB.out (by omega) i k hi (by omega) W)
  have P3 := hide (fun i hi W => place_at _ _ hcat.out (by rw [hclen.out]; omega) i (A.length + 2 + k) hi (by rw [hclen.out]; omega) W)
  rw [(behind A B k).1, (behind A B k).2] at P3
  have b1 := lin_le A A.length
  have b2 := lin_le B k
  have b3 := col_le A A.length
  have b4 := col_le B k
  generalize lin A A.length = L1 at *
  generalize col A A.length = C1 at *
  by_cases hk : k = 0
  · subst hk
    have e1 : lin B 0 = 1 := rfl
    have e2 : col B 0 = 1 := rfl
    rw [e1, e2] at P3 P2
    clear hcat hclen b2 b4 e1 e2
    go_enter Try.func3, Try.ntmps3
    go_wp2_with (first
      | (go_at_call 6; (with_reducible refine (P1.out _ (by omega) _).mono ?_); rintro e w' ⟨rfl, rfl⟩)
      | (go_at_call 6; (with_reducible refine (P2.out _ (by omega) _).mono ?_); rintro e w' ⟨rfl, rfl⟩)
      | (go_at_call 6; (with_reducible refine (P3.out _ (by omega) _).mono ?_); rintro e w' ⟨rfl, rfl⟩)
      | (go_at_call 6; fail))
    go_ret
    exact ⟨by simp, Grown.refl _⟩
  obtain ⟨j, hj⟩ : ∃ j, k = j + 1 := ⟨k - 1, by omega⟩
  have P4 := hide (fun i hi W => place_at a1 B hB.out (by omega) i j hi (by omega) W)
  have hR := rises B j
  rw [← hj] at hR
  replace hj := hide hj
  have hk0 : 0 < k := by omega
  have b5 := lin_le B j
  have b6 := col_le B j
  generalize lin B k = L2 at *
  generalize col B k = C2 at *
  generalize lin B j = L4 at *
  generalize col B j = C4 at *
  clear hcat hclen
  rcases hR with hR | ⟨rfl, hR⟩
  · have hR1 := hR
    go_enter Try.func3, Try.ntmps3
    go_wp2_with (first
      | (go_at_call 6; (with_reducible refine (P1.out _ (by omega) _).mono ?_); rintro e w' ⟨rfl, rfl⟩)
      | (go_at_call 6; (with_reducible refine (P2.out _ (by omega) _).mono ?_); rintro e w' ⟨rfl, rfl⟩)
      | (go_at_call 6; (with_reducible refine (P3.out _ (by omega) _).mono ?_); rintro e w' ⟨rfl, rfl⟩)
      | (go_at_call 6; (with_reducible refine (P4.out _ (by have := hj.out; omega) _).mono ?_); rintro e w' ⟨rfl, rfl⟩)
      | (go_at_call 6; fail))
    go_ret
    exact ⟨by simp, Grown.refl _⟩
  · have hR1 := hR
    go_enter Try.func3, Try.ntmps3
    go_wp2_with (first
      | (go_at_call 6; (with_reducible refine (P1.out _ (by omega) _).mono ?_); rintro e w' ⟨rfl, rfl⟩)
      | (go_at_call 6; (with_reducible refine (P2.out _ (by omega) _).mono ?_); rintro e w' ⟨rfl, rfl⟩)
      | (go_at_call 6; (with_reducible refine (P3.out _ (by omega) _).mono ?_); rintro e w' ⟨rfl, rfl⟩)
      | (go_at_call 6; (with_reducible refine (P4.out _ (by have := hj.out; omega) _).mono ?_); rintro e w' ⟨rfl, rfl⟩)
      | (go_at_call 6; fail))
    go_ret
    exact ⟨by simp, Grown.refl _⟩

/-! ### THE ROW's STEP: WRITTEN OUT: LEAVE IT -/
set_option maxRecDepth 100000 in
theorem lifted (os : Os) (started : os.Started) (H : Type) (enc : TypeId × Value → H) :
    ReturnsInHanded {} Try.checked os 3 .any (Rows.scanLinesSpec.pre6 enc Try.prog Try.f3 Rows.scanLinesRow.domain false) (Rows.scanLinesSpec.post enc Try.prog Try.f3 false true false false) := by
  refine returnsInHanded_of_change_sized (C := Try.checked) own started (by kernel_rfl) Try.func3
    (ChangeSpec.witness6 (enc := enc) (C := Try.checked) false ⟨#[], #[.string ByteArray.empty, .string ByteArray.empty, .int .i64 0], []⟩ 8 (by kernel_rfl) (by kernel_rfl) (by kernel_rfl) (by kernel_rfl)) ?_
  intro W base args ds gs before hval0 hW hcnd hsz0 _
  have hsz : (DataW.weightsEach Try.prog (Try.f3.params.toList ++ Rows.scanLinesSpec.plain.varTypes Try.prog) (ds ++ gs)).all (· ≤ reachBytes) = true := hsz0
  rw [Try.params3] at hsz
  have hval : ∀ (j : Nat) t v, Try.f3.params[j]? = some t → args[j]? = some v → Value.okWide Try.prog W .any base t v := hval0
  have hW' := hW
  obtain ⟨p, q, hA0, hV, rfl, hfz, hnd⟩ := hW
  have hA : DataW.TrodAll enc Try.prog W 0 (fun _ => true) true Try.f3.params.toList args.toList ds p := hA0
  rw [Try.params3] at hA hval
  obtain ⟨v0, vs0, d0, ds0, p0, q0, hargs, rfl, rfl, h0, r0⟩ := trodAll_cons hA
  obtain ⟨v1, vs1, d1, ds1, p1, q1, rfl, rfl, rfl, h1, r1⟩ := trodAll_cons r0
  obtain ⟨v2, vs2, d2, ds2, p2, q2, rfl, rfl, rfl, h2, r2⟩ := trodAll_cons r1
  obtain ⟨rfl, rfl, rfl⟩ := trodAll_nil r2
  obtain rfl : args = #[v0, v1, v2] := by cases args; simp_all
  obtain ⟨rfl, rfl⟩ := trodVars_none hV
  obtain ⟨a0, rfl, rfl, rfl, w0⟩ := open_string Try.underlying9 (hval 0 9 v0 rfl rfl) h0
  obtain ⟨a1, rfl, rfl, rfl, w1⟩ := open_string Try.underlying9 (hval 1 9 v1 rfl rfl) h1
  obtain ⟨a2, rfl, rfl, rfl, w2⟩ := open_int Try.underlying3 (hval 2 3 v2 rfl rfl) h2
  have hr0 := sized_string hsz (j := 0) (t := 9) rfl rfl
  have hr1 := sized_string hsz (j := 1) (t := 9) rfl rfl
  clear hA0 hval0
  simp only [List.append_nil] at hW'
  refine (walk a0 a1 a2 w0 w1 w2 hr0 hr1 W).mono fun e W' ⟨he, hg⟩ => ?_
  subst he
  exact ⟨_, rfl, post_of_same (pa := []) (pv := []) hW' (fun _ _ _ => (trodAll_cons_mk (shut_bool Try.underlying4 _) trodAll_mk0)) (fun sp _ => (trodAll_cons_mk (shut_string Try.underlying9 w0) (trodAll_cons_mk (shut_string Try.underlying9 w1) (trodAll_cons_mk (shut_int Try.underlying3 w2) trodAll_mk0)))) (fun _ _ => rfl) rfl
    (hg.frame _) hg.2.1 (ok_one (by kernel_rfl) rfl (okWide_bool_mk Try.underlying4 _))⟩

theorem over : Rows.scanLinesRow.holds Try.pinned (OpenSpec.ofChange Rows.scanLinesSpec) :=
  OpenClaim.holds_of_wide 3 Try.f3 rfl rfl rfl rfl rfl rfl rfl ⟨rfl, rfl, rfl, rfl, rfl⟩ rfl rfl rfl rfl rfl (by kernel_rfl) Try.func3 (by kernel_rfl)
    (of_decide_eq_true (by kernel_rfl)) (by unfold Func.isWrapper; first | (rw [if_pos (by decide +kernel)]; kernel_rfl) | (rw [if_neg (by decide +kernel)]; exact ⟨rfl, rfl⟩))
    (fun os started H enc _ => lifted os started H enc)

/-- ████ THE STATEMENT ████ -/
theorem proved : Rows.ScanLinesSaid :=
  over
#print axioms proved
end Go.Proofs.Ytnkhdfliiaieeaa.scanLines
namespace Go.Proofs.Ytnkhdfliiaieeaa
theorem scanLines_holds : Rows.ScanLinesSaid := scanLines.proved
#print axioms scanLines_holds
end Go.Proofs.Ytnkhdfliiaieeaa
