/-
  The law's apart: all lists of clauses, and one beside them, share nothing.
-/
import Derived.Test.YtkdalejceclanaaRdApart
namespace Go.Proofs.Ytkdalejceclanaa
open Go.RowKit
set_option linter.unusedVariables false
/-- The first k written full. -/
def MK (cs : Nat → List Int) (k : Nat) : Nat → List Int := fun i => if i < k then List.replicate (cs i).length (-9000 - (i : Int)) else cs i
theorem mk_zero (cs : Nat → List Int) : MK cs 0 = cs := by funext i; unfold MK; rw [if_neg (by omega)]
theorem mk_at (cs : Nat → List Int) (k : Nat) : MK cs k k = cs k := by unfold MK; rw [if_neg (by omega)]
theorem mk_len (cs : Nat → List Int) (k i : Nat) : (MK cs k i).length = (cs i).length := by unfold MK; split <;> simp
theorem mk_next (cs : Nat → List Int) (k : Nat) : updF (MK cs k) k (List.replicate (MK cs k k).length (-9000 - (k : Int))) = MK cs (k + 1) := by
  funext i
  by_cases e : i = k
  · subst e
    rw [updF_same, mk_at]
    unfold MK
    rw [if_pos (by omega)]
  · rw [updF_other _ _ _ e]
    unfold MK
    by_cases h : i < k
    · rw [if_pos h, if_pos (by omega)]
    · rw [if_neg h, if_neg (by omega)]
theorem map_next {k : Nat} (vs : Nat → Value) : (List.range k).map vs ++ [vs k] = (List.range (k + 1)).map vs := by
  rw [List.range_succ, List.map_append, List.map_singleton]
/-- The lists: the clauses, the tops, the one beside them. -/
def vsA (vals : List Value) (n : Nat) (vt vl : Value) : Nat → Value := fun i => if i < n then vals.getD i nilS else if i = n then vt else vl
def csA (cls : List (List Int)) (tops lits : List Int) : Nat → List Int := fun i => if i < cls.length then cls.getD i [] else if i = cls.length then tops else lits
theorem fam_of {w : World} {B : Nat} {vc vt vl : Value} {vals : List Value} {cls : List (List Int)} {tops lits : List Int} (C : CV w B vc vals cls) (T : w.ownsRow B 3 1 vt tops.length (rowI tops)) (U : w.ownsRow B 3 1 vl lits.length (rowI lits))
    (n1 : ∀ i, i < cls.length → (vals.getD i nilS).ownBlock = none ∨ (vals.getD i nilS).ownBlock ≠ vt.ownBlock) (n2 : ∀ i, i < cls.length → (vals.getD i nilS).ownBlock = none ∨ (vals.getD i nilS).ownBlock ≠ vl.ownBlock) (n3 : vt.ownBlock = none ∨ vt.ownBlock ≠ vl.ownBlock) :
    Fam w B (cls.length + 2) (vsA vals cls.length vt vl) (csA cls tops lits) := by
  have flip : ∀ {x y : Option Nat}, (x = none ∨ x ≠ y) → (y = none ∨ y ≠ x) := fun {x y} h => by
    cases y with
    | none => exact .inl rfl
    | some k =>
      refine .inr (fun c => ?_)
      rcases h with h | h
      · rw [h] at c; cases c
      · exact h c.symm
  have lt : ∀ i j, i < j → j < cls.length + 2 → (vsA vals cls.length vt vl i).ownBlock = none ∨ (vsA vals cls.length vt vl i).ownBlock ≠ (vsA vals cls.length vt vl j).ownBlock := by
    intro i j hij hj
    unfold vsA
    by_cases h1 : j < cls.length
    · rw [if_pos h1, if_pos (by omega)]
      exact C.2.2.2 i j hij h1
    · rw [if_neg h1]
      by_cases h2 : j = cls.length
      · rw [if_pos h2, if_pos (by omega)]
        exact n1 i (by omega)
      · rw [if_neg h2]
        by_cases h3 : i < cls.length
        · rw [if_pos h3]
          exact n2 i h3
        · rw [if_neg h3, if_pos (by omega)]
          exact n3
  refine ⟨fun i hi => ?_, fun i j hi hj hij => ?_⟩
  · unfold vsA csA
    by_cases h1 : i < cls.length
    · rw [if_pos h1, if_pos h1]
      exact C.2.2.1 i h1
    · rw [if_neg h1, if_neg h1]
      by_cases h2 : i = cls.length
      · rw [if_pos h2, if_pos h2]
        exact T
      · rw [if_neg h2, if_neg h2]
        exact U
  · rcases Nat.lt_or_ge i j with c | c
    · exact lt i j c hj
    · exact flip (lt j i (by omega) hi)
set_option maxRecDepth 100000 in
set_option maxHeartbeats 8000000 in
theorem lapart_calls (w : World) (B : Nat) (V : Int) (vc vt vl : Value) (vals : List Value) (cls : List (List Int)) (tops lits : List Int) (C : CV w B vc vals cls) (T : w.ownsRow B 3 1 vt tops.length (rowI tops)) (U : w.ownsRow B 3 1 vl lits.length (rowI lits))
    (n1 : ∀ i, i < cls.length → (vals.getD i nilS).ownBlock = none ∨ (vals.getD i nilS).ownBlock ≠ vt.ownBlock) (n2 : ∀ i, i < cls.length → (vals.getD i nilS).ownBlock = none ∨ (vals.getD i nilS).ownBlock ≠ vl.ownBlock) (n3 : vt.ownBlock = none ∨ vt.ownBlock ≠ vl.ownBlock)
    (hB : B ≤ w.heap.size) (l1 : cls.length ≤ 1073741824) (l2 : ∀ i, (csA cls tops lits i).length ≤ 1073741824) :
    Calls Try.prog 27 #[.agg #[.int .i64 V, vc, vt], vl] w fun e w' => e = .returned (.bool true) ∧ Below B w w' := by
  have F := fam_of C T U n1 n2 n3
  have hvs : ∀ i, i < cls.length → vsA vals cls.length vt vl i = vals.getD i nilS := fun i hi => by unfold vsA; rw [if_pos hi]
  have hvt : vsA vals cls.length vt vl cls.length = vt := by unfold vsA; rw [if_neg (by omega), if_pos rfl]
  have hvl : vsA vals cls.length vt vl (cls.length + 1) = vl := by unfold vsA; rw [if_neg (by omega), if_neg (by omega)]
  obtain ⟨ac, kc, rfl⟩ := C.slice
  obtain ⟨at_, kt, rfl⟩ := row_slice T
  obtain ⟨al, kl, rfl⟩ := row_slice U
  have hvals := C.1
  have O := C.2.1
  have clt : ∀ g, (Value.slice ac cls.length kc).ownBlock = some g → g < w.heap.size := fun g e => (O.lt g e).2
  generalize vsA vals cls.length (.slice at_ tops.length kt) (.slice al lits.length kl) = vs at *
  obtain ⟨cs, hcs⟩ : ∃ cs, csA cls tops lits = cs := ⟨_, rfl⟩
  rw [hcs] at F l2
  clear C T U n1 n2 n3 hcs
  have Q0 : Below w.heap.size w (w.alloc (.cells #[.int .i64 V, .slice ac cls.length kc, .slice at_ tops.length kt] 25)) := (Below.refl _ w).alloc (Nat.le_refl _) _
  have D0 := B3.new w (.int .i64 V) (.slice ac cls.length kc) (.slice at_ tops.length kt)
  have O0 := row_below O Q0
  have F0 := F.ch (Ch.of_below (q := fun _ _ => false) Q0 hB) (fun _ => rfl)
  have B0 := hide (Q0.mono hB)
  replace hvs := hide hvs
  replace hvt := hide hvt
  replace hvl := hide hvl
  replace l2 := hide l2
  replace clt := hide clt
  replace D0 := hide D0
  replace O0 := hide O0
  replace F0 := hide F0
  have s0 : w.heap.size ≤ (w.alloc (.cells #[.int .i64 V, .slice ac cls.length kc, .slice at_ tops.length kt] 25)).heap.size := Q0.size
  replace s0 := hide s0
  replace Q0 := hide Q0
  clear O F
  go_enter Try.func27, Try.ntmps27
  go_upto_region 1 with fail
  generalize w.alloc (.cells #[.int .i64 V, .slice ac cls.length kc, .slice at_ tops.length kt] 25) = w0 at *
  have s1 := s0.out
  have Q1 : Below w0.heap.size w0 (w0.alloc (.cells #[.slice none 0 0, .slice none 0 0] 107)) := (Below.refl _ w0).alloc (Nat.le_refl _) _
  have D1 := hide (D0.out.keep Q1)
  have O1 := hide (row_below O0.out Q1)
  have F1 : Hid (Fam (w0.alloc (.cells #[.slice none 0 0, .slice none 0 0] 107)) B (cls.length + 2) vs (MK cs 0)) := by
    show Fam _ _ _ _ _
    rw [mk_zero]
    exact F0.out.ch (Ch.of_below (q := fun _ _ => false) Q1 (by omega)) (fun _ => rfl)
  have G1 := hide (GS.new w0)
  have B1 := hide (B0.out.trans (Q1.mono (by omega)))
  have dl := D0.out.lt
  clear D0 O0 F0 B0 Q0 Q1
  go_upto_region 2 with fail
  generalize w0.alloc (.cells #[.slice none 0 0, .slice none 0 0] 107) = w1 at *
  generalize w0.heap.size = gb at *
  have hBg : B ≤ gb := by omega
  have R0 := hide (Ch.refl B (qG gb) w1)
  have TK := hide (fun W k lv F G (hk : k < cls.length + 2) => take_calls W B gb (cls.length + 2) k vs (MK cs k) lv (.slice none 0 0) ((List.range k).map vs) [] F G hk hBg (by rw [mk_at]; exact Nat.le_trans (l2.out k) (by omega)) (by simp; omega))
  simp only [List.length_map, List.length_range, mk_next, map_next] at TK
  go_wp2_with fail
  go_loopw [6] (fun x wr => ∃ (k : Nat) (lv : Value), x = .int .i64 (k : Int) ∧ k ≤ cls.length ∧ Hid (Fam wr B (cls.length + 2) vs (MK cs k)) ∧ Hid (GS gb wr lv (.slice none 0 0) ((List.range k).map vs) []) ∧ Hid (Ch B (qG gb) w1 wr)) (fun x _ => cls.length - (intOf x).toNat)
  case atStart => exact ⟨0, .slice none 0 0, rfl, Nat.zero_le _, F1, G1, R0⟩
  case round =>
    clear F1 G1 R0
    obtain ⟨k, lv, rfl, hk, FF, GG, RR⟩ := hrel
    have D2 : B3 wr w.heap.size (.int .i64 V) (.slice ac cls.length kc) (.slice at_ tops.length kt) := RR.out.blk _ _ _ _ D1.out (by unfold qG; rw [decide_eq_false (by omega : ¬ gb ≤ w.heap.size)]; rfl)
    obtain ⟨d0, d1, d2, z0, z1, z2⟩ := D2.cells
    have OO := RR.out.row O1.out (fun g e => by unfold qG; rw [decide_eq_false (by have := clt.out g e; omega : ¬ gb ≤ g)]; rfl)
    by_cases hlt : k < cls.length
    · obtain ⟨gc, rfl⟩ := own_form OO (by omega)
      have ck := OO.cellAt k (by omega)
      have e1 : vals[k]? = some (vs k) := by
        rw [hvs.out k hlt, List.getD_eq_getElem?_getD, List.getElem?_eq_getElem (by omega)]; rfl
      rw [e1] at ck
      obtain ⟨av, cv, hv⟩ := FF.out.slice (by omega : k < cls.length + 2)
      have tq := TK.out wr k lv FF.out GG.out (by omega)
      rw [hv] at ck
      have tq' : Calls Try.prog 55 #[.pointer (some ⟨gb, 0, none⟩), .slice av (MK cs k k).length cv] wr fun e w' => e = .returned (.tuple #[]) ∧ Fam w' B (cls.length + 2) vs (MK cs (k + 1)) ∧ (∃ lv', GS gb w' lv' (.slice none 0 0) ((List.range (k + 1)).map vs) []) ∧ Ch B (qG gb) wr w' := by rw [← hv]; exact tq
      replace tq' := hide tq'
      have k0 : (0 : Int) ≤ (k : Int) := by omega
      have k1 : (k : Int) < (cls.length : Int) := by omega
      clear tq hv OO D2 FF GG e1
      go_wp2_with (go_at_call 55; refine tq'.out.mono ?_; rintro e w2 ⟨rfl, F2, ⟨lv2, G2⟩, R2⟩; replace F2 := hide F2; replace G2 := hide G2; replace R2 := hide (RR.out.trans R2))
      go_roundw
      case rel => exact ⟨k + 1, lv2, by go_num, by omega, F2, G2, R2⟩
      case measure => simp [intOf]; omega
    · obtain rfl : k = cls.length := by omega
      have t1 := TK.out wr _ lv FF.out GG.out (by omega)
      rw [hvt.out] at t1
      replace t1 := hide t1
      clear OO D2 FF GG hlt hk
      go_wp2_with (first
        | (go_at_call 56; have y := F3; have G9 := G3.out; refine (gapart_calls w3 B gb (cls.length + 2) vs (MK cs (cls.length + 2)) _ F3.out G9 hBg (by omega) (fun i hi => by rw [mk_len]; exact Nat.le_trans (l2.out i) (by omega)) (fun i hi => by rw [mk_len]; unfold MK; rw [if_pos hi])).mono ?_; rintro e w4 ⟨rfl, b4⟩; replace b4 := hide (R3.out.bel.trans b4); clear G9 y)
        | (go_at_call 55; have y := F2; clear y; have t2 := TK.out w2 _ _ F2.out G2.out (by omega); rw [hvl.out] at t2; refine t2.mono ?_; rintro e w3 ⟨rfl, F3, ⟨lv3, G3⟩, R3⟩; replace F3 := hide F3; replace G3 := hide G3; replace R3 := hide (R2.out.trans R3); clear t2)
        | (go_at_call 55; refine t1.out.mono ?_; rintro e w2 ⟨rfl, F2, ⟨lv2, G2⟩, R2⟩; replace F2 := hide F2; replace G2 := hide G2; replace R2 := hide (RR.out.trans R2)))
      go_ret
      exact ⟨rfl, B1.out.trans b4.out⟩
end Go.Proofs.Ytkdalejceclanaa
