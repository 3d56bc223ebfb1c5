/- Proved: EufAudits returns true for all nodes, given links and links that are together of bulk at most 1048576: what Audit answers is what the document's answer is, link by link, and neither the lists that were handed over nor the marks behind them were changed. -/
import Derived.Test.YtcpmeehchmdljaaRows
import Derived.Test.YtcpmeehchmdljaaEufAudLaw
import Derived.Test.YtcpmeehchmdljaaEufOpenB
import Derived.WalkKit
import Derived.ProofKit
import Derived.OpenShut
import Derived.ShutString
import Derived.JoinedCond
import Derived.Deep.CondSized
import Derived.Below
import Derived.SizedLaws
namespace Go.Proofs.Ytcpmeehchmdljaa.eufAudits
open Go.ChangeShapes Go.WideShapes Go.ChangeAt Go.RowKit
set_option linter.unusedVariables false
theorem own : ownKnob Try.prog.godebug = none := by kernel_rfl
theorem laidOut : laidOutB Try.prog = true := by kernel_rfl
set_option maxRecDepth 100000 in
theorem lifted (os : Os) (started : os.Started) (H : Type) (enc : TypeId × Value → H) (F : Stop.Interp) :
    ReturnsInHanded {} Try.checked os 4 .any ((Rows.OpenSpec.upto Rows.eufAuditsSpec).pre6 enc Try.prog Try.f4 Rows.eufAuditsUptoRow.domain false) (((Rows.OpenSpec.upto Rows.eufAuditsSpec).at F).post enc Try.prog Try.f4 false true false false) := by
  refine returnsInHanded_of_cond_sized (C := Try.checked) (s := Rows.OpenSpec.upto Rows.eufAuditsSpec) (k := Rows.uptoSmall) rfl own started (by kernel_rfl) Try.func4
    (OpenSpec.witness (enc := enc) (C := Try.checked) (s := Rows.OpenSpec.upto Rows.eufAuditsSpec) (k := Rows.uptoSmall) rfl false ⟨#[], #[.slice none 0 0, .slice none 0 0, .slice none 0 0], []⟩ 8 (by kernel_rfl) (by kernel_rfl) (by kernel_rfl)
      (x := ([.nil, .nil, .nil], [], [])) (by kernel_rfl) rfl (by kernel_rfl)) ?_
  intro W base args ds gs before hval0 hW hcnd hk hsz0 _
  have hsz : (DataW.weightsEach Try.prog (Try.f4.params.toList ++ (Rows.OpenSpec.upto Rows.eufAuditsSpec).bare.plain.varTypes Try.prog) (ds ++ gs)).all (· ≤ reachBytes) = true := hsz0
  have hval : ∀ (j : Nat) t v, Try.f4.params[j]? = some t → args[j]? = some v → Value.okWide Try.prog W .any base t v := hval0
  have hW' := hW
  obtain ⟨p, q, hA0, hV, rfl, hfz, hnd⟩ := hW
  have hA : DataW.TrodAll enc Try.prog W 0 (fun _ => true) true Try.f4.params.toList args.toList ds p := hA0
  rw [Try.params4] at hA hval hsz
  obtain ⟨v0, vs0, d0, ds0, p0, q0, hargs, rfl, rfl, h0, r0⟩ := trodAll_cons hA
  obtain ⟨v1, vs1, d1, ds1, p1, q1, rfl, rfl, rfl, h1, r1⟩ := trodAll_cons r0
  obtain ⟨v2, vs2, d2, ds2, p2, q2, rfl, rfl, rfl, h2, r2⟩ := trodAll_cons r1
  obtain ⟨rfl, rfl, rfl⟩ := trodAll_nil r2
  obtain rfl : args = #[v0, v1, v2] := by cases args; simp_all
  obtain ⟨rfl, rfl⟩ := trodVars_none hV
  have bk : Rows.uptoBulk d0 ≤ 1048576 ∧ Rows.uptoBulk d1 ≤ 1048576 ∧ Rows.uptoBulk d2 ≤ 1048576 := by
    have := of_decide_eq_true hk
    simp only [List.append_nil, Rows.uptoBulkAll] at this
    omega
  have wt : ∀ {j : Nat} {t : TypeId} {d : DataW H}, ([22, 23, 23] : List TypeId)[j]? = some t → ([d0, d1, d2] : List (DataW H))[j]? = some d → ∀ n ∈ d.weights Try.prog t, n ≤ reachBytes := fun {j t d} ht hd n hn => by
    have := List.all_eq_true.1 hsz n (DataW.weights_mem_each (j := j) (t := t) (d := d) ht hd n hn)
    simpa using this
  have s0 := okWide_slice Try.underlying22 (hval 0 22 v0 rfl rfl)
  have s1 := okWide_slice Try.underlying23 (hval 1 23 v1 rfl rfl)
  have s2 := okWide_slice Try.underlying23 (hval 2 23 v2 rfl rfl)
  have k0 := h0
  have k1 := h1
  have k2 := h2
  have lt0 : ∀ x ∈ p0, x.block < W.heap.size := by obtain ⟨m, hm⟩ := k0; exact DataW.trod_lt m _ _ _ hm
  have lt1 : ∀ x ∈ p1, x.block < W.heap.size := by obtain ⟨m, hm⟩ := k1; exact DataW.trod_lt m _ _ _ hm
  have lt2 : ∀ x ∈ p2, x.block < W.heap.size := by obtain ⟨m, hm⟩ := k2; exact DataW.trod_lt m _ _ _ hm
  obtain ⟨fs, w0, a0, c0⟩ : ∃ fs, Flats W.heap.size W v0 fs ∧ fs.length ≤ Rows.uptoBulk d0 ∧ ∀ j, j < fs.length → (fs.getD j E.f0).args.length ≤ Rows.uptoBulk d0 := by
    obtain ⟨fuel, hf⟩ := h0
    exact open_flats s0 hf (wt (j := 0) rfl rfl)
  obtain ⟨gl, w1, a1, c1⟩ : ∃ gl, Links W.heap.size W v1 gl ∧ gl.length ≤ Rows.uptoBulk d1 ∧ ∀ j, j < gl.length → (gl.getD j E.l0).kids.length ≤ Rows.uptoBulk d1 := by
    obtain ⟨fuel, hf⟩ := h1
    exact open_links s1 hf (wt (j := 1) rfl rfl)
  obtain ⟨ls, w2, a2, c2⟩ : ∃ ls, Links W.heap.size W v2 ls ∧ ls.length ≤ Rows.uptoBulk d2 ∧ ∀ j, j < ls.length → (ls.getD j E.l0).kids.length ≤ Rows.uptoBulk d2 := by
    obtain ⟨fuel, hf⟩ := h2
    exact open_links s2 hf (wt (j := 2) rfl rfl)
  clear hA0 hval0
  obtain ⟨bk0, bk1, bk2⟩ := bk
  refine (eufAudits_calls W v0 v1 v2 fs gl ls w0 w1 w2 (Nat.le_trans a0 bk0) (Nat.le_trans a1 bk1) (Nat.le_trans a2 bk2) (fun j hj => Nat.le_trans (c0 j hj) bk0) (fun j hj => Nat.le_trans (c1 j hj) bk1) (fun j hj => Nat.le_trans (c2 j hj) bk2)).mono fun e W' ⟨he, bel⟩ => ?_
  subst he
  exact ⟨_, rfl, _, _, _, [], _, [], hW', trodAll_mk1 (shut_bool Try.underlying4 _), (trodAll_cons_mk (Below.trod laidOut (by kernel_rfl) (of_decide_eq_true (by kernel_rfl)) k0 bel lt0) (trodAll_cons_mk (Below.trod laidOut (by kernel_rfl) (of_decide_eq_true (by kernel_rfl)) k1 bel lt1) (trodAll_cons_mk (Below.trod laidOut (by kernel_rfl) (of_decide_eq_true (by kernel_rfl)) k2 bel lt2) trodAll_mk0))), rfl, bel.frame _, fun h => by cases h⟩
theorem over : Rows.eufAuditsUptoRow.holds Try.pinned (Rows.OpenSpec.upto Rows.eufAuditsSpec) :=
  OpenClaim.holds_of_cond 4 Try.f4 rfl rfl rfl rfl rfl rfl rfl ⟨rfl, rfl, rfl, rfl, rfl⟩ rfl rfl rfl rfl rfl (by kernel_rfl) Try.func4 (by kernel_rfl)
    (of_decide_eq_true (by kernel_rfl)) (by unfold Func.isWrapper; first | (rw [if_pos (by decide +kernel)]; kernel_rfl) | (rw [if_neg (by decide +kernel)]; exact ⟨rfl, rfl⟩))
    (fun os started H enc _ F => lifted os started H enc F)
theorem proved : Rows.EufAuditsUptoSaid :=
  over
#print axioms proved
end Go.Proofs.Ytcpmeehchmdljaa.eufAudits
namespace Go.Proofs.Ytcpmeehchmdljaa
theorem eufAuditsUpto_holds : Rows.EufAuditsUptoSaid := eufAudits.proved
#print axioms eufAuditsUpto_holds
end Go.Proofs.Ytcpmeehchmdljaa
