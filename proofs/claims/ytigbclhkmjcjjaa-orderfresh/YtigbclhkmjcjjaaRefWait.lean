/-
  The document's Waiting.
-/
import Derived.Test.YtigbclhkmjcjjaaRefTake
import Derived.Test.YtigbclhkmjcjjaaOrdBegun
import Derived.Test.YtigbclhkmjcjjaaOrdScore
namespace Go.Proofs.Ytigbclhkmjcjjaa
open Go.RowKit
set_option linter.unusedVariables false
/-- The first k of Q, then false. -/
def midB (Q : List Bool) (k : Nat) : List Bool := Q.take k ++ List.replicate (Q.length - k) false
theorem midB_len (Q : List Bool) {k : Nat} (h : k ≤ Q.length) : (midB Q k).length = Q.length := by
  unfold midB
  rw [List.length_append, List.length_take, List.length_replicate]
  omega
theorem midB_step (Q : List Bool) {k : Nat} (h : k < Q.length) : (midB Q k).set k (Q.getD k false) = midB Q (k + 1) := by
  unfold midB
  have e : Q.length - k = (Q.length - (k + 1)) + 1 := by omega
  have e2 : Q.take (k + 1) = Q.take k ++ [Q[k]] := by simp
  rw [e, List.replicate_succ, List.set_append_right _ _ (by rw [List.length_take]; omega), List.length_take, Nat.min_eq_left (by omega), Nat.sub_self, List.set_cons_zero, List.getD_eq_getElem?_getD, List.getElem?_eq_getElem h, e2, List.append_assoc]
  rfl
theorem midB_all (Q : List Bool) : midB Q Q.length = Q := by unfold midB; simp
theorem midB_zero (Q : List Bool) : midB Q 0 = List.replicate Q.length false := by unfold midB; simp
theorem owns_same {w w' : World} {base n : Nat} {t : TypeId} {v : Value} {xs : List Value} (h : w.ownsRow base t 1 v n xs) (e : ∀ g, v.ownBlock = some g → w'.heap[g]? = w.heap[g]?) : w'.ownsRow base t 1 v n xs := by
  obtain ⟨hl, h⟩ := h
  refine ⟨hl, ?_⟩
  rcases h with h | ⟨g, cap, cur, rfl, hB, hg, hr⟩
  · exact .inl h
  · exact .inr ⟨g, cap, cur, rfl, hB, (e g rfl).trans hg, hr⟩
theorem owns_shape {w : World} {base n : Nat} {t : TypeId} {v : Value} {xs : List Value} (h : w.ownsRow base t 1 v n xs) : ∃ a cap, v = .slice a n cap := by
  rcases h.2 with ⟨rfl, rfl⟩ | ⟨g, cap, cur, rfl, _⟩
  · exact ⟨_, _, rfl⟩
  · exact ⟨_, _, rfl⟩
theorem owns_type {w : World} {base n b : Nat} {t u : TypeId} {v : Value} {xs ys : List Value} (h : w.ownsRow base t 1 v n xs) (q : Beg w b u ys) (hne : t ≠ u) : v.ownBlock ≠ some b := by
  intro c
  rcases h.2 with ⟨rfl, _⟩ | ⟨g, cap, cur, rfl, _, hg, _⟩
  · cases c
  · cases c
    obtain ⟨d, hd, _⟩ := q
    rw [hg] at hd
    cases hd
    exact hne rfl
set_option maxRecDepth 100000 in
set_option maxHeartbeats 8000000 in
theorem rwaiting_calls (w : World) (o : Rid) (s : RS) (h : ROrd w o s) (l : List Nat) (hl : Rl o s l) (hll : l.length ≤ 1000000) :
    Calls Try.prog 46 #[rptr o] w fun e w' => ∃ v, e = .returned v ∧ w'.ownsRow w.heap.size 3 1 v l.length (l.map fun x : Nat => Value.int .i64 (x : Int)) ∧ Below w.heap.size w w' := by
  obtain ⟨i0, hi, hz0, hz1, hz2⟩ := info_parts ordInfoInt
  have hn := h.hn
  have c2 := h.c2
  have hW : s.W.length = o.n + 1 := h.2.2.2.2.2.1
  obtain ⟨BB, hB⟩ : ∃ X : Obj, X = .cells (List.replicate (o.n + 1) (Value.bool false)).toArray 4 := ⟨_, rfl⟩
  have m2 : ∀ W : World, (Instr.makeSlice 52 (.int .i64 ((o.n : Int) + 1)) (.int .i64 ((o.n : Int) + 1))).run Try.prog W = .ok (.slice (some ⟨W.heap.size, 0, none⟩) (o.n + 1) (o.n + 1)) (W.alloc BB) := by
    intro W; rw [hB]; exact ord_make W 52 4 _ 1 ordSliceB ordInfoB rfl (o.n + 1) (by decide) (by omega)
  have A0 : (w.alloc BB).heap[w.heap.size]? = some (.cells (List.replicate (o.n + 1) (Value.bool false)).toArray 4 (0, 0)) := by rw [hB]; exact heap_alloc_new w _
  have Q0 : Hid (Beg (w.alloc BB) w.heap.size 4 ((midB s.W 0).map Value.bool)) := ⟨_, A0, by rw [midB_zero, hW]; simp⟩
  have C0 : Hid (Below w.heap.size w (w.alloc BB)) := grown_below (World.grownBy_alloc w _ none)
  have H := hide h
  have lt : Hid (∀ b, b ∈ rblks o → b < w.heap.size) := h.lt
  have KR : Hid (∀ W, Below w.heap.size w W → ROrd W o s) := fun W b => H.out.keep (Chg.of_below (S := []) b) (fun _ _ => by simp)
  replace hl := hide hl
  replace hW := hide hW
  clear h hB A0
  go_enter Try.func46, Try.ntmps46
  go_wp2_with fail
  generalize hwa : w.alloc BB = wa at *
  clear m2 hwa
  go_loopw [4] (fun i wr => ∃ k : Nat, i = .int .i64 (k : Int) ∧ k ≤ o.n + 1 ∧ Hid (Beg wr w.heap.size 4 ((midB s.W k).map Value.bool)) ∧ Hid (Below w.heap.size w wr)) (fun i _ => o.n + 1 - (intOf i).toNat)
  case atStart => exact ⟨0, rfl, Nat.zero_le _, Q0, C0⟩
  case round =>
    clear Q0 C0
    obtain ⟨k, rfl, hk, HQ, HB⟩ := hrel
    have HR := KR.out wr HB.out
    by_cases hlt : k < o.n + 1
    · have c2 := HR.c2
      have ck := HR.wai (j := k) (by omega)
      have g1 : (k : Int) < (o.n : Int) + 1 := by omega
      have fa := HQ.out.free k
      have cq := beg_bool (n := 0) HQ.out (j := k) (by rw [midB_len _ (by have := hW.out; omega)]; have := hW.out; omega)
      have Q2 := HQ.out.set k (.bool (s.W.getD k false))
      rw [← List.map_set, midB_step _ (by have := hW.out; omega)] at Q2
      have B2 : Hid (Below w.heap.size w (wr.setCell ⟨w.heap.size, k, none⟩ (.bool (s.W.getD k false)))) := below_chg HB.out (S := [w.heap.size]) (fun b hb => by simp at hb; omega) ((Chg.refl _ _).set (by simp) _)
      replace Q2 := hide Q2
      replace HR := hide HR
      generalize s.W.getD k false = x at *
      generalize List.getD (midB s.W k) k false = y at cq
      go_wp2
      go_roundw
      case rel => exact ⟨k + 1, by go_num, by omega, Q2, B2⟩
      case measure => simp [intOf]; omega
    · obtain rfl : k = o.n + 1 := by omega
      have HQ' := HQ.out
      rw [show o.n + 1 = s.W.length from hW.out.symm, midB_all] at HQ'
      replace HQ' := hide HQ'
      clear hlt hk HR
      have j1 : ((o.n + 1 : Nat) : Int) = (o.n : Int) + 1 := by omega
      rw [j1]
      go_wp2_with fail
      have W0 : Hid (wr.ownsRow w.heap.size 3 1 (.slice none 0 0) 0 ((l.take 0).map fun x : Nat => Value.int .i64 (x : Int))) := ⟨rfl, .inl ⟨rfl, rfl⟩⟩
      go_loopw [5] (fun r wr => ∃ (k : Nat) (Q : List Bool), k ≤ l.length ∧ Hid (Q.length = o.n + 1) ∧ Hid (O.Lst s.A o.n (fun v => Q.getD v false = true) (l.drop k)) ∧ Hid (Beg wr w.heap.size 4 (Q.map Value.bool)) ∧ Hid (wr.ownsRow w.heap.size 3 1 r k ((l.take k).map fun x : Nat => Value.int .i64 (x : Int))) ∧ Hid (Below w.heap.size w wr)) (fun r _ => l.length - (match r with | .slice _ n _ => n | _ => 0))
      case atStart => exact ⟨0, s.W, Nat.zero_le _, hW, by rw [List.drop_zero]; exact hl, HQ', W0, HB⟩
      case round =>
        clear W0 HQ' HQ HB hl
        obtain ⟨k, Q, hk, hQl, hl, HQ, WW, HB⟩ := hrel
        obtain ⟨a, cap, hrr⟩ := owns_shape WW.out
        replace hrr := hide hrr
        have HR := KR.out wr HB.out
        have FC := hide (rfirst_calls wr o s HR w.heap.size (o.n + 1) Q HQ.out hQl.out)
        clear HR
        go_wp2_with fail
        refine FC.out.mono ?_
        rintro e w1 ⟨b, rfl, hF, m, rfl⟩
        clear FC
        by_cases hlt : k < l.length
        · have hl2 := hl.out
          rw [List.drop_eq_getElem_cons hlt] at hl2
          obtain ⟨x, hx⟩ : ∃ x, l[k] = x := ⟨_, rfl⟩
          rw [hx] at hl2
          obtain ⟨eb, b1, ht⟩ := hF.cons hl2
          subst eb
          have bn := hF.le
          have ht2 := hide (lst_less (Q := Q) (by have := hQl.out; omega) ht)
          have Q1 : Beg (wr.drewN m) w.heap.size 4 (Q.map Value.bool) := HQ.out
          have fa := Q1.free b
          have cq := beg_bool (n := 0) Q1 (j := b) (by have := hQl.out; omega)
          have Q2 := Q1.set b (.bool false)
          rw [← List.map_set] at Q2
          have bne := owns_type WW.out HQ.out (by decide)
          have W2 : ((wr.drewN m).setCell ⟨w.heap.size, b, none⟩ (.bool false)).ownsRow w.heap.size 3 1 u5 k ((l.take k).map fun x : Nat => Value.int .i64 (x : Int)) := owns_same WW.out (fun g hg => heap_set_ne (fun c => bne (by rw [hg, c])) _ _)
          have B2 : Below w.heap.size w ((wr.drewN m).setCell ⟨w.heap.size, b, none⟩ (.bool false)) := below_chg HB.out (S := [w.heap.size]) (fun b hb => by simp at hb; omega) (((Chg.refl _ _).drewN m).set (by simp) _)
          have bz : ¬ (b : Int) = 0 := by omega
          have bz2 : ((b : Int) == 0) = false := by rw [beq_eq_false_iff_ne]; omega
          have g1 : (b : Int) < (o.n : Int) + 1 := by omega
          have et : Hid (l.take (k + 1) = l.take k ++ [b]) := by show _ = _; rw [← hx]; simp
          generalize Q.getD b false = y at cq
          have hsz : w.heap.size < wr.heap.size := HQ.out.lt
          have hse : Hid (wr.heap.size = ((wr.drewN m).setCell ⟨w.heap.size, b, none⟩ (.bool false)).heap.size) := by show _ = _; show _ = (Array.modify _ _ _).size; rw [Array.size_modify]; rfl
          replace Q2 := hide Q2
          replace W2 := hide W2
          replace B2 := hide B2
          replace hx := hide hx
          replace bne := hide bne
          clear hl2 ht hF Q1 HQ WW HB
          go_wp2_with (at_builtin; refine wpList_append_own _ rfl _ _ 26 rfl w.heap.size 3 i0 (.int .i64 0) 1 8 ordSliceInt hi hz0 hz1 hz2 rfl (by decide) _ _ _ rfl (W2.out.alloc _) ⟨_, 0, none⟩ 1 1 [.int .i64 b] rfl rfl ?q0 (by simp [Value.oneCell']) ?q1 ?q2 ?q3 ?_)
          case q0 => rw [hse.out]; exact cell_one_new _ _ _
          case q1 => unfold maxLen; omega
          case q2 => omega
          case q3 => simp; omega
          intro v' w2 hown' hgrow _
          replace hown' := hide hown'
          replace hgrow := hide hgrow
          go_wp2
          go_roundw
          case rel =>
            refine ⟨k + 1, Q.set b false, by omega, by show _ = _; rw [List.length_set]; exact hQl.out, ht2, ?_, ?_, ?_⟩
            · have e2 : w2.heap[w.heap.size]? = ((wr.drewN m).setCell ⟨w.heap.size, b, none⟩ (.bool false)).heap[w.heap.size]? := by
                have hs1 : w.heap.size < ((wr.drewN m).setCell ⟨w.heap.size, b, none⟩ (.bool false)).heap.size := Q2.out.lt
                rw [hgrow.out.block w.heap.size (by show _ < (Array.push _ _).size; rw [Array.size_push]; omega) (fun c => bne.out c.symm)]
                show (Array.push _ _)[w.heap.size]? = _
                rw [Array.getElem?_push, if_neg (by omega)]
              exact Q2.out.keep e2
            · show World.ownsRow _ _ _ _ _ _ _
              rw [et.out, List.map_append, List.map_take]
              exact hown'.out
            · exact (B2.out.alloc (by have := B2.out.size; exact this) _).grown hgrow.out (by simp; omega) (fun g hg => (W2.out.lt g hg).1)
          case measure =>
            obtain ⟨a', cap', e'⟩ := owns_shape hown'.out
            rw [e', hrr.out]
            simp
            omega
        · obtain rfl : k = l.length := by omega
          have hl2 := hl.out
          rw [List.drop_length] at hl2
          have eb := hF.nil hl2
          subst eb
          have W2 := WW.out
          rw [List.take_length] at W2
          replace W2 := hide W2
          have B2 : Hid (Below w.heap.size w (wr.drewN m)) := below_chg HB.out (S := []) (fun b hb => by simp at hb) ((Chg.refl _ _).drewN m)
          clear hl2 hF WW HB
          go_wp2
          go_ret
          exact ⟨_, rfl, W2.out, B2.out⟩
end Go.Proofs.Ytigbclhkmjcjjaa
