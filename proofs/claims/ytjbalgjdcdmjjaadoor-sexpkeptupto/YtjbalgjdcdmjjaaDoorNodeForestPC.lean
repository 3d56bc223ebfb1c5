/-
  Package sexp: 'forest'.
-/
import Derived.Test.YtjbalgjdcdmjjaaDoorNodeAll
import Derived.Laws.OwnMore
/- ==== NodeForestP ==== -/
namespace Go.Proofs.YtjbalgjdcdmjjaaDoor
open Go.RowKit
set_option linter.unusedVariables false
theorem cell_alloc_keep {w : World} {p : Addr} {u : Value} (h : w.cell? p = some u) (hb : p.block < w.heap.size) (o : Obj) : (w.alloc o).cell? p = some u :=
  (((Below.refl w.heap.size w).alloc (Nat.le_refl _) o).cell hb).trans h
theorem belowN {B : Nat} {a w : World} (h : Below B a w) (n : Nat) : Below B a (w.drewN n) := ⟨h.os, h.tape, h.output, h.size, h.block⟩
theorem ownsN {w : World} {B : Nat} {e : TypeId} {size n : Nat} {v : Value} {xs : List Value} (h : w.ownsRow B e size v n xs) (k : Nat) : (w.drewN k).ownsRow B e size v n xs := h
theorem node_block (w : World) (e : TypeId) (k p f s t : Value) :
    (w.alloc (.cells #[k, p, f, s, t] e)).cell? ⟨w.heap.size, 0, none⟩ = some k ∧ (w.alloc (.cells #[k, p, f, s, t] e)).cell? ⟨w.heap.size, 3, none⟩ = some s ∧ (w.alloc (.cells #[k, p, f, s, t] e)).cell? ⟨w.heap.size, 4, none⟩ = some t := by
  have h : (w.alloc (.cells #[k, p, f, s, t] e)).heap[w.heap.size]? = some (.cells #[k, p, f, s, t] e (0, 0)) := by
    show (w.heap.push _)[w.heap.size]? = _
    rw [Array.getElem?_push_size]
  exact ⟨(cell_of_row _ _ 0 _ e (0, 0) h).trans rfl, (cell_of_row _ _ 3 _ e (0, 0) h).trans rfl, (cell_of_row _ _ 4 _ e (0, 0) h).trans rfl⟩
set_option maxRecDepth 100000 in
set_option maxHeartbeats 3200000 in
theorem forest_calls (w : World) (B : Nat) (v : Value) (ns : List Nd) (h : Nds B w v ns) (hB : B ≤ w.heap.size) :
    Calls Tryd.prog 31 #[v] w fun e w' => e = .returned (.bool (forestB ns)) ∧ Below w.heap.size w w' := by
  obtain ⟨i0, hi, hz0, hz1, hz2⟩ := info_parts ndInfoInt
  have hN := hide h
  obtain ⟨a, cap, rfl, h1, h2, h3, h4⟩ := h
  clear h3 h4
  have B1 : Hid (Below w.heap.size w (w.alloc (.cells #[.int .i64 ns.length] 3))) := (Below.refl _ w).alloc (Nat.le_refl _) _
  have O1 : Hid (OwnS (w.alloc (.cells #[.int .i64 ns.length] 3)) w.heap.size (.slice (some ⟨w.heap.size, 0, none⟩) 1 1) (stk [ns.length])) := World.ownsRow_lit w #[.int .i64 ns.length] 1 (Nat.le_refl _) (by unfold maxLen; omega) rfl
  go_enter Tryd.func31, Tryd.ntmps31
  go_wp2
  go_loopw [3, 11] (fun u j wr => ∃ (q : Nat) (S : List Nat), q ≤ ns.length ∧ j = .int .i64 q ∧ Hid (FoI ns q S) ∧ Hid (OwnS wr w.heap.size u (stk S)) ∧ Hid (Below w.heap.size w wr)) (fun _ j _ => ns.length - (intOf j).toNat)
  case atStart => exact ⟨0, [ns.length], Nat.zero_le _, rfl, FoI.start ns, O1, B1⟩
  case round =>
    obtain ⟨q, S, hq, rfl, hF, hO, hBw⟩ := hrel
    clear O1 B1
    by_cases hlt : q < ns.length
    · have hNw := hN.out.below (hBw.out.mono hB)
      obtain ⟨b, off, rfl, hb, c0, c1, c2, c3, c4⟩ := hNw.at_ hlt
      clear hNw
      obtain ⟨x, hx⟩ : ∃ x, ns.getD q Nd.z = x := ⟨_, rfl⟩
      rw [hx] at c0 c1 c2 c3 c4
      replace hx := hide hx
      have hBx := hBw.out.size
      have W2 : ∀ o, Hid (Below w.heap.size w (wr.alloc o)) := fun o => hBw.out.alloc hBx o
      have O2 : ∀ o, Hid (OwnS (wr.alloc o) w.heap.size u3 (stk S)) := fun o => World.ownsRow.alloc hO.out o
      go_wp2
      generalize hX : wr.alloc _ = X at *
      have BX : Hid (Below w.heap.size w X) := by rw [← hX]; exact (W2 _).out
      have OX : Hid (OwnS X w.heap.size u3 (stk S)) := by rw [← hX]; exact (O2 _).out
      have hn := node_block wr 47 (.int .i64 x.kind) (.int .i64 x.pos) (.int .i64 x.fin) (.int .i64 x.size) (.string x.text)
      rw [hX] at hn
      obtain ⟨d0, d3, d4⟩ := hn
      have hXs := BX.out.size
      have hXg : wr.heap.size < X.heap.size := by rw [← hX]; simp
      clear W2 O2 hO hX c0 c1 c2 c3 c4 hBw
      generalize wr.heap.size = n0 at *
      go_loopw [3] (fun u wr' => ∃ S, wr' = X ∧ Hid (FoI ns q S) ∧ Hid (OwnS X w.heap.size u (stk S))) (fun u _ => lenOf u)
      case atStart => exact ⟨S, rfl, hF, OX⟩
      case round =>
        clear hF OX
        obtain ⟨S, hwr, hF, hO⟩ := hrel
        subst hwr
        obtain ⟨top, T, rfl, htop⟩ := hF.out.top
        obtain ⟨g, cp, rfl, hc1, hc2, hg1, hg2, hcell, hpop⟩ := stack_top hO.out
        have hT := hF.out.2.2.2
        rw [List.length_cons] at hT
        have hwr2 : IntKind.i64.wrap ((T.length : Int) + 1 - 1) = (T.length : Int) := by rw [IntKind.wrap_i64]; omega
        have hwr3 : IntKind.i64.wrap (T.length : Int) = (T.length : Int) := by rw [IntKind.wrap_i64]; omega
        have hwr4 : IntKind.i64.wrap ((top : Int) - q) = (top : Int) - q := by rw [IntKind.wrap_i64]; omega
        have hwr5 : (0 : Int) ≤ (T.length : Int) := by omega
        have hwr6 : (T.length : Int) < (T.length : Int) + 1 := by omega
        by_cases htq : top = q
        · subst htq
          have hF2 := hide (hF.out.pop hlt)
          replace hpop := hide hpop
          go_wp2
          go_roundw
          case rel => exact ⟨T, trivial, hF2, hpop⟩
          case measure => simp [lenOf]
        · replace hpop := hide hpop
          have hOk : ∀ (x : Nd), x.ok q top ↔ (x.kind = 1 ∧ x.text.toList = [] ∧ 1 ≤ x.size ∧ x.size ≤ (top : Int) - q) ∨ (x.kind ≠ 1 ∧ 3 ≤ x.kind ∧ x.kind ≤ 10 ∧ x.size = 1) := fun x => Iff.rfl
          have hno : Hid (¬ (ns.getD q Nd.z).ok q top → forestB ns = false) := fun hk => hF.out.no hlt htq hk
          have A1 : Hid ((ns.getD q Nd.z).ok q top → (ns.getD q Nd.z).kind = 1 → FoI ns (q + 1) ((q + (ns.getD q Nd.z).size.toNat) :: top :: T)) := fun hk h1 => hF.out.list hlt htq hk h1
          have A2 : Hid ((ns.getD q Nd.z).ok q top → (ns.getD q Nd.z).kind ≠ 1 → FoI ns (q + 1) (top :: T)) := fun hk h1 => hF.out.atom hlt htq hk h1
          rw [hx.out, hOk] at hno A1 A2
          clear hx
          clear hOk
          have hO2 := hO.out
          unfold OwnS at hO2
          rw [stk_len, List.length_cons] at hO2
          replace hO2 := hide hO2
          generalize x.size = sz at *
          generalize x.kind = kd at *
          generalize x.text = tx at *
          by_cases hk1 : kd = 1
          · subst hk1
            by_cases ht : tx.toList = []
            · by_cases hs1 : sz < 1
              · have hs2 := hs1
                have e1 := hide (hno.out (by rintro (⟨h1, h2, h3, h4⟩ | ⟨h1, h2, h3, h4⟩) <;> omega))
                go_wp2
                go_quiet (fail)
                go_wp2
                go_ret
                exact ⟨congrArg (fun b => Ending.returned (.bool b)) e1.out.symm, belowN BX.out nq⟩
              by_cases hs3 : (top : Int) - q < sz
              · have hs2 := hs1
                have e1 := hide (hno.out (by rintro (⟨h1, h2, h3, h4⟩ | ⟨h1, h2, h3, h4⟩) <;> omega))
                go_wp2
                go_quiet (fail)
                go_wp2
                go_ret
                exact ⟨congrArg (fun b => Ending.returned (.bool b)) e1.out.symm, belowN BX.out nq⟩
              · have A4 := hide (A1.out (Or.inl ⟨rfl, ht, by omega, by omega⟩) rfl)
                obtain ⟨z, rfl⟩ : ∃ z : Nat, sz = z := ⟨sz.toNat, by omega⟩
                go_wp2
                go_quiet (fail)
                have OY : Hid ((wr.drewN nq).ownsRow w.heap.size 3 1 (.slice (some ⟨g, 0, none⟩) (T.length + 1) cp) (T.length + 1) ((stk (top :: T)).map (Value.int .i64))) := ownsN hO2.out nq
                have BY : Hid (Below w.heap.size w (wr.drewN nq)) := belowN BX.out nq
                have d3' : (wr.drewN nq).cell? ⟨n0, 3, none⟩ = some (.int .i64 z) := d3
                have hYs : Hid ((wr.drewN nq).heap.size = wr.heap.size) := rfl
                generalize wr.drewN nq = Y at *
                go_wp2_with (at_builtin; (refine wpList_append_own _ rfl _ _ 53 rfl w.heap.size 3 i0 (.int .i64 0) 1 8 ndSliceInt hi hz0 hz1 hz2 rfl (by decide) _ _ _ rfl (OY.out.alloc _) ⟨Y.heap.size, 0, none⟩ 1 1 [.int .i64 (q + z)] rfl rfl (cell_one_new _ _ _) (by simp [Value.oneCell']) (by unfold maxLen; omega) (by omega) (by have := hYs.out; simp; omega) ?_; intro v7 w7 hown7 hgrow7 _; replace hown7 := hide hown7; replace hgrow7 := hide hgrow7; have B7 : Hid (Below w.heap.size w w7) := (BY.out.alloc (by have := hYs.out; omega) _).grown hgrow7.out (by have := hYs.out; simp; omega) (fun g hg => ((OY.out.lt g hg).1))))
                go_roundw
                case rel => exact ⟨q + 1, _, by omega, by simp, A4.out, by rw [stk_cons]; exact OwnS.snoc (by rw [stk_len]; simpa using hown7.out), B7⟩
                case measure => simp [intOf]; omega
            · have e1 := hide (hno.out (by simp [ht]))
              have hte : tx.toList.isEmpty = false := by simp [ht]
              go_wp2
              go_quiet (fail)
              go_wp2
              go_ret
              exact ⟨congrArg (fun b => Ending.returned (.bool b)) e1.out.symm, belowN BX.out nq⟩
          · by_cases k3 : kd < 3
            · have k4 := k3
              have e1 := hide (hno.out (by rintro (⟨h1, h2, h3, h4⟩ | ⟨h1, h2, h3, h4⟩) <;> omega))
              go_wp2
              go_ret
              exact ⟨congrArg (fun b => Ending.returned (.bool b)) e1.out.symm, BX.out⟩
            by_cases k10 : 10 < kd
            · have k4 := k10
              have e1 := hide (hno.out (by rintro (⟨h1, h2, h3, h4⟩ | ⟨h1, h2, h3, h4⟩) <;> omega))
              go_wp2
              go_ret
              exact ⟨congrArg (fun b => Ending.returned (.bool b)) e1.out.symm, BX.out⟩
            by_cases hs : sz = 1
            · subst hs
              have A4 := hide (A2.out (Or.inr ⟨hk1, by omega, by omega, rfl⟩) hk1)
              go_wp2
              go_roundw
              case rel => exact ⟨q + 1, _, by omega, by simp, A4, hO, BX⟩
              case measure => simp [intOf]; omega
            · have k4 := k10
              have e1 := hide (hno.out (by rintro (⟨h1, h2, h3, h4⟩ | ⟨h1, h2, h3, h4⟩) <;> omega))
              go_wp2
              go_ret
              exact ⟨congrArg (fun b => Ending.returned (.bool b)) e1.out.symm, BX.out⟩
    · obtain rfl : q = ns.length := by omega
      have e1 := hide hF.out.fin
      go_wp2
      go_ret
      exact ⟨congrArg (fun b => Ending.returned (.bool b)) e1.out.symm, hBw.out⟩
end Go.Proofs.YtjbalgjdcdmjjaaDoor
