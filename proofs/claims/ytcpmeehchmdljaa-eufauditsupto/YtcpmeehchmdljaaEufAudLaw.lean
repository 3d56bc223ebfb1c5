/-
  The law EufAudits.
-/
import Derived.Test.YtcpmeehchmdljaaEufAudit
import Derived.Test.YtcpmeehchmdljaaEufRefFol
import Derived.Test.YtcpmeehchmdljaaHoldNodes
namespace Go.Proofs.Ytcpmeehchmdljaa
open Go.RowKit
set_option linter.unusedVariables false
theorem eno_calls (w : World) (z : Int) : Calls Try.prog 6 #[.int .i64 z] w fun e w' => e = .returned (.int .i64 z) ∧ w' = w := by
  go_enter Try.func6, Try.ntmps6
  go_wp2
  go_ret
  exact ⟨rfl, rfl⟩
/-- A new Hold. -/
theorem hg_new (w : World) : HG w.heap.size w.heap.size (w.alloc (.cells #[.slice none 0 0, .slice none 0 0, .slice none 0 0, .slice none 0 0, .slice none 0 0, .slice none 0 0] 41)) [] [] [] := by
  refine ⟨⟨fun _ => .slice none 0 0, heap_alloc_new w _, fun i hi => ?_, fun i j hi hj hij => .inl rfl⟩, fun x hx => absurd hx (List.not_mem_nil), fun x hx => absurd hx (List.not_mem_nil), fun x hx => absurd hx (List.not_mem_nil)⟩
  have e : rowsH [] [] [] i = [] := by
    unfold rowsH
    split
    · rfl
    · split
      · rfl
      · split
        · rfl
        · split
          · rfl
          · split <;> rfl
  rw [e]
  exact ⟨rfl, .inl ⟨rfl, rfl⟩⟩
set_option maxRecDepth 100000 in
set_option maxHeartbeats 8000000 in
theorem eufAudits_calls (w : World) (vn vg vl : Value) (fs : List E.Fl) (gs ls : List E.Lk) (h1 : Flats w.heap.size w vn fs) (h2 : Links w.heap.size w vg gs) (h3 : Links w.heap.size w vl ls)
    (n1 : fs.length ≤ 1048576) (n2 : gs.length ≤ 1048576) (n3 : ls.length ≤ 1048576) (m1 : ∀ j, j < fs.length → (fs.getD j E.f0).args.length ≤ 1048576) (m2 : ∀ j, j < gs.length → (gs.getD j E.l0).kids.length ≤ 1048576) (m3 : ∀ j, j < ls.length → (ls.getD j E.l0).kids.length ≤ 1048576) :
    Calls Try.prog 4 #[vn, vg, vl] w fun e w' => e = .returned (.bool true) ∧ Below w.heap.size w w' := by
  have i2 : Hid (∀ j, j < gs.length → I64 (gs.getD j E.l0).a ∧ I64 (gs.getD j E.l0).b ∧ I64 (gs.getD j E.l0).tag) := by obtain ⟨a', c', rfl, -⟩ := h2.shape; exact fun j hj => by obtain ⟨b, off, -, -, -, -, -, -, -, q⟩ := h2.at_ hj; exact q
  have i3 : Hid (∀ j, j < ls.length → I64 (ls.getD j E.l0).a ∧ I64 (ls.getD j E.l0).b ∧ I64 (ls.getD j E.l0).tag) := by obtain ⟨a', c', rfl, -⟩ := h3.shape; exact fun j hj => by obtain ⟨b, off, -, -, -, -, -, -, -, q⟩ := h3.at_ hj; exact q
  obtain ⟨an, cn, rfl, -⟩ := h1.shape
  obtain ⟨ag, cg, rfl, gn⟩ := h2.shape
  obtain ⟨al, cl, rfl, ln⟩ := h3.shape
  have G0 := hide (hg_new w)
  have B0 := hide ((Below.refl _ w).alloc (Nat.le_refl _) (.cells #[.slice none 0 0, .slice none 0 0, .slice none 0 0, .slice none 0 0, .slice none 0 0, .slice none 0 0] 41))
  have q1 := hide (nodes_calls _ w.heap.size w.heap.size _ fs [] [] [] G0.out (h1.below B0.out) (Nat.le_refl _) (by omega) (by simp) (fun j hj => Nat.le_trans (m1 j hj) (by omega)) (by simp))
  replace h1 := hide h1
  replace h2 := hide h2
  replace h3 := hide h3
  replace m1 := hide m1
  replace m2 := hide m2
  replace m3 := hide m3
  go_enter Try.func4, Try.ntmps4
  go_upto_region 2 with fail
  generalize w.alloc (.cells #[.slice none 0 0, .slice none 0 0, .slice none 0 0, .slice none 0 0, .slice none 0 0, .slice none 0 0] 41) = W0 at *
  have tok0 : Hid True := trivial
  go_upto_region 3 with (first
    | (go_at_call 9; refine q1.out.mono ?_; rintro e w1 ⟨g1, k1, ns1, rfl, G1, L1, K1⟩; have B1 := hide (B0.out.trans K1.bel); have q2 := hide (chain_calls w1 w.heap.size w.heap.size _ gs ns1 _ [] G1 (h2.out.below B1.out) (Nat.le_refl _) (by omega) (by rw [L1]; simp; omega) (fun j hj => Nat.le_trans (m2.out j hj) (by omega)) (by simp)); replace G1 := hide G1; replace L1 := hide L1; replace K1 := hide K1)
    | (go_at_call 10; have y := tok1; refine q3.out.mono ?_; rintro e w3 ⟨g3, k3, ns3, rfl, G3, L3, K3⟩; have B3 := hide (B2.out.trans K3.bel); replace G3 := hide G3; replace L3 := hide L3; replace K3 := hide K3)
    | (go_at_call 10; refine q2.out.mono ?_; rintro e w2 ⟨g2, k2, ns2, rfl, G2, L2, K2⟩; have B2 := hide (B1.out.trans K2.bel); have q3 := hide (chain_calls w2 w.heap.size w.heap.size _ ls ns2 _ _ G2 (h3.out.below B2.out) (Nat.le_refl _) (by omega) (by rw [L2, L1.out]; simp; omega) (fun j hj => Nat.le_trans (m3.out j hj) (by omega)) (by simp)); replace G2 := hide G2; replace L2 := hide L2; replace K2 := hide K2; have tok1 : Hid True := trivial)
    | (go_at_call 5; have X1 : DF w3 (.slice (some ⟨g1, 0, none⟩) (fs.length + 2) k1) fs := (G3.out.2.2.1 _ (List.mem_singleton.2 rfl)).1; have X2 : DL w3 (.slice (some ⟨g2, 0, none⟩) (gs.length + 2) k2) gs := (G3.out.2.2.2 _ (List.mem_cons_self ..)).1; have X3 : DL w3 (.slice (some ⟨g3, 0, none⟩) (ls.length + 2) k3) ls := (G3.out.2.2.2 _ (List.mem_cons_of_mem _ (List.mem_singleton.2 rfl))).1; refine (audit_calls w3 w3.heap.size _ _ _ fs gs ls (Nat.le_refl _) (X1.flats (by omega) (fun j hj => Nat.le_trans (m1.out j hj) (by omega))) (X2.links (by omega) (fun j hj => Nat.le_trans (m2.out j hj) (by omega)) i2.out) (X3.links (by omega) (fun j hj => Nat.le_trans (m3.out j hj) (by omega)) i3.out)).mono ?_; rintro e w4 ⟨rfl, b4⟩; replace b4 := hide b4; clear X1 X2 X3))
  have G4 := hide (G3.out.below (Nat.le_refl _) b4.out)
  have sz3 := hide B3.out.size
  have B4 := hide (B3.out.trans (b4.out.mono sz3.out))
  have q4 := hide (raudit_calls w4 w.heap.size _ _ _ fs gs ls (h1.out.below B4.out) (h2.out.below B4.out) (h3.out.below B4.out) B4.out.size)
  have nl : Hid (ns3.length ≤ 3145728) := by
    have e1 := L1.out
    have e2 := L2.out
    have e3 := L3.out
    show ns3.length ≤ _
    simp only [List.length_nil] at e1
    omega
  clear G0 G1 G2 G3 L1 L2 L3 K1 K2 K3 q1 q2 q3 B0 B1 B2 B3 tok0 tok1 b4 m1 m2 m3 i2 i3 sz3
  go_upto_region 4 with (go_at_call 11; refine q4.out.mono ?_; rintro e w5 ⟨rfl, b5⟩; replace b5 := hide b5)
  have G5 := hide (G4.out.below (Nat.le_refl _) b5.out)
  have B5 := hide (B4.out.trans (b5.out.mono B4.out.size))
  have q5 := hide (kept_calls w5 w.heap.size w.heap.size ns3 _ _ G5.out (Nat.le_refl _) (Nat.le_trans nl.out (by omega)) (by simp) (by simp))
  clear G4 G5 q4 b5 B4 nl
  generalize E.auditI fs gs ls = ri at *
  generalize E.auditE fs = re at *
  have t1 : (ri == ri) = true := by simp
  have t2 : (re == re) = true := by simp
  go_wp2_with (first
    | (go_at_call 6; refine (eno_calls _ _).mono ?_; rintro e w6 ⟨rfl, rfl⟩)
    | (go_at_call 12; refine q5.out.mono ?_; rintro e w7 ⟨rfl, b7⟩; replace b7 := hide b7))
  go_ret
  exact ⟨rfl, B5.out.trans (b7.out.mono B5.out.size)⟩
end Go.Proofs.Ytcpmeehchmdljaa
