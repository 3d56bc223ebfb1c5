/- Proved: SexpKids returns true for every list of nodes and every number: sexp.Kids and the document's Kids answer the same places and the same error. No condition. -/
import Derived.Test.YtnkhdfliiaieeaaRows
import Derived.Test.YtnkhdfliiaieeaaNodeKidsRef
import Derived.Test.YtnkhdfliiaieeaaNodeCopied
import Derived.Test.YtnkhdfliiaieeaaNodeOpen
import Derived.WalkKit
import Derived.ProofKit
import Derived.OpenShut
import Derived.ShutString
import Derived.ChangeOld
import Derived.Below
import Derived.SizedLaws
namespace Go.Proofs.Ytnkhdfliiaieeaa.sexpKids
open Go.ChangeShapes Go.WideShapes Go.ChangeAt Go.RowKit
open Go.ChangeMaps (open_string shut_string)
set_option linter.unusedVariables false

theorem own : ownKnob Try.prog.godebug = none := by kernel_rfl
theorem laidOut : laidOutB Try.prog = true := by kernel_rfl

theorem RowI.at_ {w : World} {v : Value} {l : List Int} (h : RowI w v l) {j : Nat} (hj : j < l.length) :
    ∃ b off cap, v = .slice (some ⟨b, off, none⟩) l.length cap ∧ w.cell? ⟨b, off + j, none⟩ = some (.int .i64 (l.getD j 0)) := by
  obtain ⟨ao, cap, rfl, h1, h2, h3⟩ := h
  obtain ⟨b, off, rfl, hb, hc⟩ := h3 (by intro e; rw [e] at hj; simp at hj)
  exact ⟨b, off, cap, rfl, hc j hj⟩
theorem no_calls (w : World) (c : Int) : Calls Try.prog 11 #[.int .i64 c] w fun e w' => e = .returned (.int .i64 c) ∧ w' = w := by
  go_enter Try.func11, Try.ntmps11
  go_wp2
  go_ret
  exact ⟨rfl, rfl⟩
set_option maxRecDepth 100000 in
set_option maxHeartbeats 2000000 in
theorem walk (w : World) (v : Value) (ns : List Nd) (h : Nds w.heap.size w v ns) (i : Int) :
    Calls Try.prog 5 #[v, .int .i64 i] w fun e w' => e = .returned (.bool true) ∧ Below w.heap.size w w' := by
  have c1 := hide (copied_calls w w.heap.size v ns h (Nat.le_refl _))
  have hN := hide h
  have hX : Hid ((kidsX ns i).length ≤ 2932031007402) := by
    obtain ⟨a, cap, rfl, h1, ⟨h2, h2'⟩, h3, h4⟩ := h
    unfold Hid kidsX
    split
    · rw [List.length_map]; unfold kidsL; exact Nat.le_trans (kl_length _ _ _ _) h2'
    · simp
  obtain ⟨a, cap, rfl, h1, ⟨h2, h2'⟩, h3, h4⟩ := h
  clear h3 h4
  generalize hC : kidsC ns i = C at *
  generalize hL : kidsX ns i = L at *
  replace hC := hide hC
  replace hL := hide hL
  go_enter Try.func5, Try.ntmps5
  go_wp2_with (first
    | (go_at_call 9; refine (c1.out).mono ?_; rintro e w1 ⟨⟨r1, rfl, n1⟩, b1⟩; have c2 := hide (kids_calls w1 _ _ _ n1 (Nat.le_refl _) i); rw [hC.out, hL.out] at c2; replace n1 := hide n1; replace b1 := hide b1; have s1 := b1.out.size)
    | (go_at_call 8; refine (c2.out).mono ?_; rintro e w2 ⟨⟨r2, rfl, n2⟩, b2⟩; replace n2 := hide n2; replace b2 := hide b2; have s2 := b2.out.size; have B2 : Hid (Below w.heap.size w w2) := thenB b1.out b2.out (by omega); have c3 := hide (rkids_calls w2 w.heap.size _ ns (hN.out.below B2.out) (by omega) i); rw [hC.out, hL.out] at c3)
    | (go_at_call 10; refine (c3.out).mono ?_; rintro e w3 ⟨⟨r3, rfl, n3⟩, b3⟩; replace b3 := hide b3; have s3 := b3.out.size; have B3 : Hid (Below w.heap.size w w3) := thenB B2.out b3.out (by omega); have n2' := n2.out.below b3.out; obtain ⟨a2, q2, e2, k2, l2, m2⟩ := n2'; obtain ⟨a3, q3, e3, k3, l3, m3⟩ := n3; subst e2; subst e3; replace m2 := hide m2; replace m3 := hide m3)
    | (go_at_call 11; refine (no_calls _ _).mono ?_; rintro e w4 ⟨rfl, rfl⟩))
  have hX2 := hX.out
  go_loopw [9] (fun j wr => ∃ (q k : Nat), q ≤ L.length ∧ j = .int .i64 q ∧ Hid (wr = w4.drewN k)) (fun j _ => L.length - (intOf j).toNat)
  case atStart => exact ⟨0, 0, Nat.zero_le _, rfl, rfl⟩
  case round =>
    obtain ⟨q, k, hq, rfl, hw⟩ := hrel
    have hBk : Hid (Below w.heap.size w wr) := by rw [hw.out]; exact belowN B3.out k
    by_cases hlt : q < L.length
    · have hne : L ≠ [] := by intro e; rw [e] at hlt; simp at hlt
      obtain ⟨g2, o2, rfl, hg2, hc2⟩ := m2.out hne
      obtain ⟨g3, o3, rfl, hg3, hc3⟩ := m3.out hne
      have d2 : wr.cell? ⟨g2, o2 + q, none⟩ = some (.int .i64 (L.getD q 0)) := by rw [hw.out]; exact hc2 q hlt
      have d3 : wr.cell? ⟨g3, o3 + q, none⟩ = some (.int .i64 (L.getD q 0)) := by rw [hw.out]; exact hc3 q hlt
      clear hc2 hc3 hne
      generalize L.getD q 0 = x at *
      have z1 : (0 : Int) ≤ (q : Int) := by omega
      have z2 : (q : Int) < (L.length : Int) := by omega
      have hw2 : Hid (∀ m, wr.drewN m = w4.drewN (k + m)) := fun m => by rw [hw.out, World.drewN_drewN]
      go_wp2
      go_quiet (fail)
      go_wp2
      go_roundw
      case rel => exact ⟨q + 1, k + nq, by omega, by simp, hw2.out nq⟩
      case measure => simp [intOf]; omega
    · obtain rfl : q = L.length := by omega
      go_wp2
      go_ret
      exact ⟨rfl, hBk.out⟩

set_option maxRecDepth 100000 in
theorem lifted (os : Os) (started : os.Started) (H : Type) (enc : TypeId × Value → H) :
    ReturnsInHanded {} Try.checked os 5 .any (Rows.sexpKidsSpec.pre6 enc Try.prog Try.f5 Rows.sexpKidsRow.domain false) (Rows.sexpKidsSpec.post enc Try.prog Try.f5 false true false false) := by
  refine returnsInHanded_of_change_sized (C := Try.checked) own started (by kernel_rfl) Try.func5
    (ChangeSpec.witness6 (enc := enc) (C := Try.checked) false ⟨#[], #[.slice none 0 0, .int .i64 0], []⟩ 8 (by kernel_rfl) (by kernel_rfl) (by kernel_rfl) (by kernel_rfl)) ?_
  intro W base args ds gs before hval0 hW hcnd hsz0 _
  have hsz : (DataW.weightsEach Try.prog (Try.f5.params.toList ++ Rows.sexpKidsSpec.plain.varTypes Try.prog) (ds ++ gs)).all (· ≤ reachBytes) = true := hsz0
  have hval : ∀ (j : Nat) t v, Try.f5.params[j]? = some t → args[j]? = some v → Value.okWide Try.prog W .any base t v := hval0
  have hW' := hW
  obtain ⟨p, q, hA0, hV, rfl, hfz, hnd⟩ := hW
  have hA : DataW.TrodAll enc Try.prog W 0 (fun _ => true) true Try.f5.params.toList args.toList ds p := hA0
  rw [Try.params5] at hA hval hsz
  obtain ⟨v0, vs0, d0, ds0, p0, q0, hargs, rfl, rfl, h0, r0⟩ := trodAll_cons hA
  obtain ⟨v1, vs1, d1, ds1, p1, q1, rfl, rfl, rfl, h1, r1⟩ := trodAll_cons r0
  obtain ⟨rfl, rfl, rfl⟩ := trodAll_nil r1
  obtain rfl : args = #[v0, v1] := by cases args; simp_all
  obtain ⟨rfl, rfl⟩ := trodVars_none hV
  have hs0 := okWide_slice Try.underlying29 (hval 0 29 v0 rfl rfl)
  have k0 := h0
  have lt0 : ∀ x ∈ p0, x.block < W.heap.size := by obtain ⟨m, hm⟩ := k0; exact DataW.trod_lt m _ _ _ hm
  obtain ⟨ns, w0⟩ : ∃ ns, Nds W.heap.size W v0 ns := by
    obtain ⟨fuel, hf⟩ := h0
    refine open_nodes hs0 hf lt0 (fun el sp e => ?_)
    have := sized_slice hsz (j := 0) (t := 29) (e := 40) (elems := el) (spare := sp) rfl (by rw [← e]; rfl) Try.underlying29
    rw [bytesNode] at this
    exact this
  obtain ⟨a1, rfl, rfl, rfl, w1⟩ := open_int Try.underlying3 (hval 1 3 v1 rfl rfl) h1
  clear hA0 hval0
  refine (walk W v0 ns w0 a1).mono fun e W' ⟨he, bel⟩ => ?_
  subst he
  exact ⟨_, rfl, _, _, _, [], _, [], hW', trodAll_mk1 (shut_bool Try.underlying4 _), (trodAll_cons_mk (Below.trod laidOut (by kernel_rfl) (of_decide_eq_true (by kernel_rfl)) k0 bel lt0) (trodAll_cons_mk (shut_int Try.underlying3 w1) trodAll_mk0)), rfl, bel.frame _, fun h => by cases h⟩

theorem over : Rows.sexpKidsRow.holds Try.pinned (OpenSpec.ofChange Rows.sexpKidsSpec) :=
  OpenClaim.holds_of_wide 5 Try.f5 rfl rfl rfl rfl rfl rfl rfl ⟨rfl, rfl, rfl, rfl, rfl⟩ rfl rfl rfl rfl rfl (by kernel_rfl) Try.func5 (by kernel_rfl)
    (of_decide_eq_true (by kernel_rfl)) (by unfold Func.isWrapper; first | (rw [if_pos (by decide +kernel)]; kernel_rfl) | (rw [if_neg (by decide +kernel)]; exact ⟨rfl, rfl⟩))
    (fun os started H enc _ => lifted os started H enc)

theorem proved : Rows.SexpKidsSaid :=
  over
#print axioms proved
end Go.Proofs.Ytnkhdfliiaieeaa.sexpKids
namespace Go.Proofs.Ytnkhdfliiaieeaa
theorem sexpKids_holds : Rows.SexpKidsSaid := sexpKids.proved
#print axioms sexpKids_holds
end Go.Proofs.Ytnkhdfliiaieeaa
