/- Proved: NumConstants returns true for every string of up to 1048575 bytes, where the tables that start-up lays hold what the row lists: the constant that num.Spell writes, taken apart by num.Read and num.Quo, tells its number. Its condition: the row's second form (what the function reads is of bulk at most 1048576). -/
import Derived.Test.YtebnjolkolobhaaGreatDoorCards
import Derived.Test.YtebnjolkolobhaaGreatDoorTie
import Derived.Test.YtebnjolkolobhaaGreatDoorLaid
import Derived.Test.YtebnjolkolobhaaGreatDoorPositive
import Derived.Test.YtebnjolkolobhaaGreatDoorFieldA
import Derived.WalkKit
import Derived.ProofKit
import Derived.OpenShut
import Derived.ShutString
import Derived.SizedLaws
import Derived.Deep.DeepHandedRow
import Derived.SevenTiedAt
/- ==== ConstProof ==== -/
namespace Go.Proofs.YtebnjolkolobhaaGreatDoor.numConstants
open Go.ChangeShapes Go.WideShapes Go.ChangeAt Go.RowKit
open Go.ChangeMaps (open_string shut_string)
set_option linter.unusedVariables false

theorem own : ownKnob Tryz.prog.godebug = none := by kernel_rfl
theorem no_calls (w : World) (c : Int) : Calls Tryz.prog 9 #[.int .i64 c] w fun e w' => e = .returned (.int .i64 c) ∧ w' = w := by
  go_enter Tryz.func9, Tryz.ntmps9
  go_wp2
  go_ret
  exact ⟨rfl, rfl⟩
theorem half_spell (W : World) (h : Env W) : Calls Tryz.prog 8 #[.string ⟨#[45, 49, 47, 50]⟩] W fun e w' => e = .returned (.tuple #[.string ⟨#[40, 45, 32, 40, 47, 32, 49, 46, 48, 32, 50, 46, 48, 41, 41]⟩, .int .i64 0]) ∧ Below W.heap.size W w' := by
  obtain ⟨⟨m, hM⟩, hT, hP⟩ := h
  have c := numSpell_calls W ⟨#[45, 49, 47, 50]⟩ [45, 49, 47, 50] rfl (by decide) m hM hT hP
  have e : spellT [45, 49, 47, 50] = ([40, 45, 32, 40, 47, 32, 49, 46, 48, 32, 50, 46, 48, 41, 41], 0) := by decide +kernel
  rw [e] at c
  exact c
theorem spellP_len (n d : Nat) : 3 ≤ (spellP n d).length := by
  have h : 1 ≤ (Lib.decDigits n).length := List.length_pos_iff.2 (M.decDigits_ne n)
  unfold spellP
  split <;> simp <;> omega
theorem spellP_head (n d : Nat) : (spellP n d).take 3 ≠ [40, 45, 32] := by
  unfold spellP
  split
  · obtain ⟨b, l, e⟩ := List.exists_cons_of_ne_nil (M.decDigits_ne n)
    have hd := M.Digs.decDigits n
    rw [e] at hd ⊢
    have hb := hd b (by simp)
    intro h
    have h2 : b = 40 := by
      have := congrArg (fun t => t.getD 0 0) h
      simpa using this
    rw [h2] at hb
    exact absurd hb.1 (by decide)
  · simp
set_option maxRecDepth 100000 in
set_option maxHeartbeats 8000000 in
theorem const_no (w : World) (sa : ByteArray) (qS : ∀ W, Env W → Calls Tryz.prog 8 #[.string sa] W fun e w' => e = .returned (.tuple #[.string ⟨#[]⟩, .int .i64 1]) ∧ Below W.heap.size W w') (qC : ∀ W, Env W → Calls Tryz.prog 10 #[.string sa] W fun e w' => e = .returned (.bool false) ∧ Below W.heap.size W w') (env : Env w) :
    Calls Tryz.prog 3 #[.string sa] w fun e w' => e = .returned (.bool true) ∧ Below w.heap.size w w' := by
  have qH := hide half_spell
  replace qS := hide qS
  replace qC := hide qC
  have bw : Hid (Below w.heap.size w w) := Below.refl _ _
  have EE := hide env
  clear env
  go_enter Tryz.func3, Tryz.ntmps3
  go_wp2_with (first
      | (go_at_call_of 8 (Value.string ⟨#[45, 49, 47, 50]⟩); refine (qH.out _ (EE.out.below bw.out)).mono ?_; rintro e w1 ⟨rfl, b1⟩; replace bw := hide (bw.out.then_below b1); clear b1)
      | (go_at_call_of 8 (Value.string sa); refine (qS.out _ (EE.out.below bw.out)).mono ?_; rintro e w1 ⟨rfl, b1⟩; replace bw := hide (bw.out.then_below b1); clear b1)
      | (go_at_call 10; refine (qC.out _ (EE.out.below bw.out)).mono ?_; rintro e w1 ⟨rfl, b1⟩; replace bw := hide (bw.out.then_below b1); clear b1)
      | (go_at_call 9; refine (no_b _ _).mono ?_; rintro e w2 ⟨rfl, hw⟩; replace hw := hw.symm; subst hw))
  go_ret
  exact ⟨rfl, bw.out⟩
set_option maxRecDepth 100000 in
set_option maxHeartbeats 8000000 in
theorem const_pos (w : World) (T S : ByteArray) (qS : ∀ W, Env W → Calls Tryz.prog 8 #[.string T] W fun e w' => e = .returned (.tuple #[.string S, .int .i64 0]) ∧ Below W.heap.size W w') (qC : ∀ W, Env W → Calls Tryz.prog 10 #[.string T] W fun e w' => e = .returned (.bool true) ∧ Below W.heap.size W w') (qP : ∀ W, Env W → Calls Tryz.prog 11 #[.string S] W fun e w' => e = .returned (.string T) ∧ Below W.heap.size W w') (hh : (S.extract 0 3).data.toList ≠ [40, 45, 32]) (hz : S.size ≤ 1073741824) (env : Env w) :
    Calls Tryz.prog 3 #[.string T] w fun e w' => e = .returned (.bool true) ∧ Below w.heap.size w w' := by
  have qH := hide half_spell
  replace qS := hide qS
  replace qC := hide qC
  have bw : Hid (Below w.heap.size w w) := Below.refl _ _
  have EE := hide env
  clear env
  replace qP := hide qP
  obtain ⟨e1, e2, e3, e4⟩ := str_ne (S := S.extract 0 3) (v := [40, 45, 32]) rfl hh
  clear hh
  by_cases h5 : S.size < 5
  · have h6 : (S.size : Int) < 5 := by omega
    clear e1 e2 e3 e4
    go_enter Tryz.func3, Tryz.ntmps3
    go_wp2_with (first
        | (go_at_call_of 8 (Value.string ⟨#[45, 49, 47, 50]⟩); refine (qH.out _ (EE.out.below bw.out)).mono ?_; rintro e w1 ⟨rfl, b1⟩; replace bw := hide (bw.out.then_below b1); clear b1)
        | (go_at_call_of 8 (Value.string T); refine (qS.out _ (EE.out.below bw.out)).mono ?_; rintro e w1 ⟨rfl, b1⟩; replace bw := hide (bw.out.then_below b1); clear b1)
        | (go_at_call 10; refine (qC.out _ (EE.out.below bw.out)).mono ?_; rintro e w1 ⟨rfl, b1⟩; replace bw := hide (bw.out.then_below b1); clear b1)
        | (go_at_call 9; refine (no_b _ _).mono ?_; rintro e w2 ⟨rfl, hw⟩; replace hw := hw.symm; subst hw)
        | (go_at_call 11; refine (qP.out _ (EE.out.below bw.out)).mono ?_; rintro e w1 ⟨rfl, b1⟩; replace bw := hide (bw.out.then_below b1); clear b1))
    go_ret
    exact ⟨rfl, bw.out⟩
  · have h6 : (5 : Int) ≤ (S.size : Int) := by omega
    have h7 : (3 : Int) ≤ (S.size : Int) := by omega
    go_enter Tryz.func3, Tryz.ntmps3
    go_wp2_with (first
        | (go_at_call_of 8 (Value.string ⟨#[45, 49, 47, 50]⟩); refine (qH.out _ (EE.out.below bw.out)).mono ?_; rintro e w1 ⟨rfl, b1⟩; replace bw := hide (bw.out.then_below b1); clear b1)
        | (go_at_call_of 8 (Value.string T); refine (qS.out _ (EE.out.below bw.out)).mono ?_; rintro e w1 ⟨rfl, b1⟩; replace bw := hide (bw.out.then_below b1); clear b1)
        | (go_at_call 10; refine (qC.out _ (EE.out.below bw.out)).mono ?_; rintro e w1 ⟨rfl, b1⟩; replace bw := hide (bw.out.then_below b1); clear b1)
        | (go_at_call 9; refine (no_b _ _).mono ?_; rintro e w2 ⟨rfl, hw⟩; replace hw := hw.symm; subst hw)
        | (go_at_call 11; refine (qP.out _ (EE.out.below bw.out)).mono ?_; rintro e w1 ⟨rfl, b1⟩; replace bw := hide (bw.out.then_below b1); clear b1))
    go_ret
    exact ⟨rfl, bw.out⟩
set_option maxRecDepth 100000 in
set_option maxHeartbeats 8000000 in
theorem const_neg (w : World) (T S E U : ByteArray) (qS : ∀ W, Env W → Calls Tryz.prog 8 #[.string T] W fun e w' => e = .returned (.tuple #[.string S, .int .i64 0]) ∧ Below W.heap.size W w') (qC : ∀ W, Env W → Calls Tryz.prog 10 #[.string T] W fun e w' => e = .returned (.bool true) ∧ Below W.heap.size W w') (qP : ∀ W, Env W → Calls Tryz.prog 11 #[.string E] W fun e w' => e = .returned (.string U) ∧ Below W.heap.size W w') (qU : ∀ W, Env W → Calls Tryz.prog 12 #[.string ⟨#[48]⟩, .string U] W fun e w' => e = .returned (.string T) ∧ Below W.heap.size W w') (hh : S.extract 0 3 = ⟨#[40, 45, 32]⟩) (hE : S.extract 3 (S.size - 1) = E) (hz : S.size ≤ 1073741824) (h7 : 7 ≤ S.size) (env : Env w) :
    Calls Tryz.prog 3 #[.string T] w fun e w' => e = .returned (.bool true) ∧ Below w.heap.size w w' := by
  have qH := hide half_spell
  replace qS := hide qS
  replace qC := hide qC
  have bw : Hid (Below w.heap.size w w) := Below.refl _ _
  have EE := hide env
  clear env
  replace qP := hide qP
  replace qU := hide qU
  have r1 := fun W => run_mid S 3 ((S.size : Int) - 1) 3 (S.size - 1) rfl (by omega) (by omega) (by omega) W
  rw [hE] at r1
  have h6 : (5 : Int) ≤ (S.size : Int) := by omega
  have h8 : (3 : Int) ≤ (S.size : Int) := by omega
  have e0 : IntKind.i64.wrap ((S.size : Int) - 1) = (S.size : Int) - 1 := by rw [IntKind.wrap_i64]; omega
  go_enter Tryz.func3, Tryz.ntmps3
  go_wp2_with (first
      | (go_at_call_of 8 (Value.string ⟨#[45, 49, 47, 50]⟩); refine (qH.out _ (EE.out.below bw.out)).mono ?_; rintro e w1 ⟨rfl, b1⟩; replace bw := hide (bw.out.then_below b1); clear b1)
      | (go_at_call_of 8 (Value.string T); refine (qS.out _ (EE.out.below bw.out)).mono ?_; rintro e w1 ⟨rfl, b1⟩; replace bw := hide (bw.out.then_below b1); clear b1)
      | (go_at_call 10; refine (qC.out _ (EE.out.below bw.out)).mono ?_; rintro e w1 ⟨rfl, b1⟩; replace bw := hide (bw.out.then_below b1); clear b1)
      | (go_at_call 9; refine (no_b _ _).mono ?_; rintro e w2 ⟨rfl, hw⟩; replace hw := hw.symm; subst hw)
      | (go_at_call 11; refine (qP.out _ (EE.out.below bw.out)).mono ?_; rintro e w1 ⟨rfl, b1⟩; replace bw := hide (bw.out.then_below b1); clear b1)
      | (go_at_call 12; refine (qU.out _ (EE.out.below bw.out)).mono ?_; rintro e w1 ⟨rfl, b1⟩; replace bw := hide (bw.out.then_below b1); clear b1))
  go_ret
  exact ⟨rfl, bw.out⟩
theorem walk (w : World) (sa : ByteArray) (la : List UInt8) (ha : sa.data.toList = la) (hla : la.length ≤ 1048576) (m : Int) (hM : w.cell? ⟨0, 0, none⟩ = some (.int .i64 m)) (hT : Tab w) (hP : Pows w) :
    Calls Tryz.prog 3 #[.string sa] w fun e w' => e = .returned (.bool true) ∧ Below w.heap.size w w' := by
  have env : Env w := ⟨⟨m, hM⟩, hT, hP⟩
  have qS := fun W (h : Env W) => (by
    obtain ⟨⟨m, hM⟩, hT, hP⟩ := h
    exact numSpell_calls W sa la ha (by omega) m hM hT hP : Calls Tryz.prog 8 #[.string sa] W fun e w' => e = .returned (.tuple #[.string ⟨(spellT la).1.toArray⟩, .int .i64 (spellT la).2]) ∧ Below W.heap.size W w')
  have hsz : sa.size ≤ 1048576 := by rw [← slen, ha]; exact hla
  have qC := fun W (h : Env W) => canon_b W sa (by omega) h
  rw [ha] at qC
  cases hk : canB la with
  | false =>
    rw [hk] at qC
    rw [spellT_no hk] at qS
    exact const_no w sa qS qC env
  | true =>
    rw [hk] at qC
    have hca := (canB_iff la).1 hk
    rw [spellT_yes hca] at qS
    have hbd := can_Bd (s := sa) (by rw [ha]; exact hk) hsz (by decide)
    have hsa : sa = tB (qV la) := by have := of_can (s := sa) (by rw [ha]; exact hk); rw [ha] at this; exact this
    have hq := can_spell hca
    obtain ⟨K, hK⟩ : ∃ K, K = 1048577 := ⟨_, rfl⟩
    have hn7 : M.dec (cup la) < 10 ^ K := by
      have h1 := cut_le1 (Lib.trimPrefix la [45])
      have ht : (Lib.trimPrefix la [45]).length ≤ la.length := by unfold Lib.trimPrefix; split <;> simp
      have h3 : (cup la).length ≤ K := by unfold cup; omega
      exact Nat.lt_of_lt_of_le (M.dec_lt hca.1.1.2) (Nat.pow_le_pow_right (by decide) h3)
    have hd : M.dec (clow la) < 10 ^ K := by
      have h2 := cut_le2 (Lib.trimPrefix la [45])
      have ht : (Lib.trimPrefix la [45]).length ≤ la.length := by unfold Lib.trimPrefix; split <;> simp
      have h4 : (clow la).length ≤ K := by
        unfold clow
        split
        · omega
        · simp; omega
      exact Nat.lt_of_lt_of_le (M.dec_lt (can_low hca).1.1.2) (Nat.pow_le_pow_right (by decide) h4)
    rw [← lowN_can hca] at hd
    have one7 : 1 < 10 ^ K := Nat.one_lt_pow (by omega) (by decide)
    have z1 : Sz (mkRat (M.dec (cup la)) 1) := Bd.sz (k := K) (by omega) (by omega) (Bd.mk (by decide) (by simpa using hn7) one7)
    have z2 : Sz (mkRat (lowN (cden la)) 1) := Bd.sz (k := K) (by omega) (by omega) (Bd.mk (by decide) (by simpa using hd) one7)
    have z3 : Sz (mkRat (M.dec (cup la)) (lowN (cden la))) := Bd.sz (k := K) (by omega) (by omega) (Bd.mk (Nat.ne_of_gt (lowN_pos _)) (by simpa using hn7) hd)
    have ln : (Lib.decDigits (M.dec (cup la))).length ≤ K := M.decDigits_len_le hn7 (by omega)
    have ld : (Lib.decDigits (lowN (cden la))).length ≤ K := M.decDigits_len_le hd (by omega)
    clear hd hn7 one7 hbd
    have lp : (spellP (M.dec (cup la)) (cden la)).length ≤ 3000000 := by
      unfold spellP
      split
      · simp; omega
      · rename_i h0
        rw [lowN_of h0] at ld
        simp; omega
    rw [hsa] at qS qC ⊢
    rw [hq] at qS qC ⊢
    cases hng : cneg la with
    | false =>
      rw [hng] at qS qC
      rw [if_neg (by simp)] at qS qC ⊢
      have eL : spellL false (M.dec (cup la)) (cden la) = spellP (M.dec (cup la)) (cden la) := rfl
      rw [eL] at qS
      have hS : (⟨(spellP (M.dec (cup la)) (cden la)).toArray⟩ : ByteArray).data.toList = spellP (M.dec (cup la)) (cden la) := by simp
      have hz : (⟨(spellP (M.dec (cup la)) (cden la)).toArray⟩ : ByteArray).size ≤ 1073741824 := by rw [← slen, hS]; omega
      exact const_pos w _ _ qS qC (fun W h => positive_p W _ _ _ hS hz z1 z2 h) (by rw [extract_take hS]; exact spellP_head _ _) hz env
    | true =>
      rw [hng] at qS qC
      rw [if_pos rfl] at qS qC ⊢
      have eL : spellL true (M.dec (cup la)) (cden la) = [40, 45, 32] ++ (spellP (M.dec (cup la)) (cden la) ++ [41]) := rfl
      rw [eL] at qS
      have hl3 := spellP_len (M.dec (cup la)) (cden la)
      have hS : (⟨([40, 45, 32] ++ (spellP (M.dec (cup la)) (cden la) ++ [41])).toArray⟩ : ByteArray).data.toList = [40, 45, 32] ++ (spellP (M.dec (cup la)) (cden la) ++ [41]) := by simp
      have hsz2 : (⟨([40, 45, 32] ++ (spellP (M.dec (cup la)) (cden la) ++ [41])).toArray⟩ : ByteArray).size = (spellP (M.dec (cup la)) (cden la)).length + 4 := by rw [← slen, hS]; simp
      generalize (⟨([40, 45, 32] ++ (spellP (M.dec (cup la)) (cden la) ++ [41])).toArray⟩ : ByteArray) = S at *
      have hE : (S.extract 3 (S.size - 1)).data.toList = spellP (M.dec (cup la)) (cden la) := by
        rw [extract_mid hS, show S.size - 1 = ([40, 45, 32] : List UInt8).length + (spellP (M.dec (cup la)) (cden la)).length from by rw [hsz2]; simp; omega]
        exact mid_of [40, 45, 32] _ _
      have hEz : (S.extract 3 (S.size - 1)).size ≤ 1073741824 := by rw [← slen, hE]; omega
      have hh : S.extract 0 3 = ⟨#[40, 45, 32]⟩ := str_is (by rw [extract_take hS]; simp)
      have z0 : Sz 0 := Bd.sz (k := 1) (by decide) (by decide) ⟨by decide, by decide⟩
      exact const_neg w _ S _ _ qS qC (fun W h => positive_p W _ _ _ hE hEz z1 z2 h) (fun W h => sub_t W _ _ 0 _ t_zero rfl z0 z3 h) hh rfl (by omega) (by omega) env

theorem tab_of {W : World} (h : Lib.TabIs Tryz.prog W "math/bits.deBruijn64tab" .u8 (Lib.deBruijn64tab.map (fun z : Nat => (z : Int)))) : Tab W := by
  intro j hj
  have := h.cell g64 j (by rw [List.length_map]; exact hj)
  rw [this]
  simp [List.getD_eq_getElem?_getD, List.getElem?_map, List.getElem?_eq_getElem hj]

theorem reads (os : Os) {H : Type} (enc : TypeId × Value → H) : ∃ places, DataW.whole enc Tryz.prog (({ World.holding Tryz.prog os ⟨#[], #[], []⟩ with heap := ((((((World.holding Tryz.prog os ⟨#[], #[], []⟩).heap).modify 7 (fun | .cells _ t fz => .cells ((Lib.deBruijn32tab.map (fun z : Nat => Value.int .u8 (z : Int))).toArray) t fz | o => o)).modify 2 (fun | .cells _ t fz => .cells ((Lib.deBruijn64tab.map (fun z : Nat => Value.int .u8 (z : Int))).toArray) t fz | o => o)).modify 1 (fun | .cells _ t fz => .cells ((Lib.pow10Tab.map (fun z : Int => Value.int .u64 z)).toArray) t fz | o => o)).modify 4 (fun | .cells _ t fz => .cells ((([128, 191, 160, 191, 128, 159, 144, 191, 128, 143, 0, 0, 0, 0, 0, 0, 0, 0, 0, 0, 0, 0, 0, 0, 0, 0, 0, 0, 0, 0, 0, 0] : List Int).map (fun z : Int => Value.int .u8 z)).toArray) t fz | o => o)).modify 3 (fun | .cells _ t fz => .cells ((Pinned.utf8FirstZ.map (fun z : Nat => Value.int .u8 (z : Int))).toArray) t fz | o => o) } : World).forCall (fun _ _ => 0) ⟨#[], #[.string ByteArray.empty], []⟩).memory Tryz.f3.params.toList Rows.numConstantsSpec.vars false #[Value.string ByteArray.empty].toList 8 = some ([.lit (.string [])], [], places) :=
  ⟨[], by kernel_rfl⟩

set_option maxRecDepth 100000 in
theorem contract (H : Type) (enc : TypeId × Value → H) (W : World) (base : Nat) (args : Array Value) (ds gs : List (DataW H)) (before : List MemPlace)
    (hval : ∀ (j : Nat) t v, Tryz.f3.params[j]? = some t → args[j]? = some v → Value.okWide Tryz.prog W .any base t v)
    (hW : DataW.Whole enc Tryz.prog Tryz.f3.params.toList Rows.numConstantsSpec.vars false W args.toList ds gs before) (hc : Rows.uptoSmall H (ds ++ gs) = true) (hL : laidMetH Tryz.prog Rows.numConstantsUptoRow.laid W) (hsh : W.ShapedOpen Tryz.prog) :
    Calls Tryz.prog 3 args W fun e W' => ∃ v, e = .returned v ∧ Rows.numConstantsSpec.post enc Tryz.prog Tryz.f3 false true false false W args v W' := by
  have hW' := hW
  obtain ⟨p, q, hA0, hV, rfl, hfz, hnd⟩ := hW
  have hA : DataW.TrodAll enc Tryz.prog W 0 (fun _ => true) true Tryz.f3.params.toList args.toList ds p := hA0
  rw [Tryz.params3] at hA hval
  obtain ⟨v0, vs0, d0, ds0, p0, q0, hargs, rfl, rfl, h0, r0⟩ := trodAll_cons hA
  obtain ⟨rfl, rfl, rfl⟩ := trodAll_nil r0
  obtain rfl : args = #[v0] := by cases args; simp_all
  obtain ⟨rfl, rfl⟩ := trodVars_none hV
  obtain ⟨s0, rfl, rfl, rfl, hs0⟩ := open_string Tryz.underlying9 (hval 0 9 v0 rfl rfl) h0
  clear hA0
  have hl : s0.data.toList.length ≤ 1048576 := by
    have := of_decide_eq_true hc
    simp only [List.append_nil, Rows.uptoBulkAll, Rows.uptoBulk] at this
    omega
  obtain ⟨m, hM⟩ := maxLen_of hsh
  obtain ⟨t1, t2⟩ := tabs_of hL
  refine (walk W s0 _ rfl hl m hM (tab_of t1) t2).mono fun e W' ⟨he, bel⟩ => ?_
  subst he
  exact ⟨_, rfl, _, _, _, [], _, [], hW', trodAll_mk1 (shut_bool Tryz.underlying4 _), trodAll_cons_mk (shut_string Tryz.underlying9 hs0) trodAll_mk0, rfl, bel.frame _, fun h => by cases h⟩

set_option maxRecDepth 100000 in
theorem liftedUpto (os : Os) (started : os.Started) (H : Type) (enc : TypeId × Value → H) (F : Stop.Interp) :
    ReturnsInHanded {} Tryz.checked os 3 .any ((Rows.OpenSpec.upto Rows.numConstantsSpec).preRow enc Tryz.prog Tryz.f3 Rows.numConstantsUptoRow.domain false Rows.numConstantsUptoRow.laid) (((Rows.OpenSpec.upto Rows.numConstantsSpec).at F).post enc Tryz.prog Tryz.f3 false true false false) := by
  obtain ⟨places, hx⟩ := reads os enc
  refine returnsInHanded_of_row (C := Tryz.checked) (s := Rows.OpenSpec.upto Rows.numConstantsSpec) own started (by kernel_rfl) Tryz.func3
    (witness_row_at (enc := enc) (C := Tryz.checked) false ({ World.holding Tryz.prog os ⟨#[], #[], []⟩ with heap := ((((((World.holding Tryz.prog os ⟨#[], #[], []⟩).heap).modify 7 (fun | .cells _ t fz => .cells ((Lib.deBruijn32tab.map (fun z : Nat => Value.int .u8 (z : Int))).toArray) t fz | o => o)).modify 2 (fun | .cells _ t fz => .cells ((Lib.deBruijn64tab.map (fun z : Nat => Value.int .u8 (z : Int))).toArray) t fz | o => o)).modify 1 (fun | .cells _ t fz => .cells ((Lib.pow10Tab.map (fun z : Int => Value.int .u64 z)).toArray) t fz | o => o)).modify 4 (fun | .cells _ t fz => .cells ((([128, 191, 160, 191, 128, 159, 144, 191, 128, 143, 0, 0, 0, 0, 0, 0, 0, 0, 0, 0, 0, 0, 0, 0, 0, 0, 0, 0, 0, 0, 0, 0] : List Int).map (fun z : Int => Value.int .u8 z)).toArray) t fz | o => o)).modify 3 (fun | .cells _ t fz => .cells ((Pinned.utf8FirstZ.map (fun z : Nat => Value.int .u8 (z : Int))).toArray) t fz | o => o) } : World) #[.string ByteArray.empty] rfl (by kernel_rfl) (by kernel_rfl) (by kernel_rfl)
      (OpenSpec.preRow_of_cond 8 hx (by kernel_rfl) (fun k hk => by cases hk; kernel_rfl) (by kernel_rfl) (laid_met os _))) ?_
  intro W base args ds gs before hval hW _ hcond _ hL hsh _
  exact contract H enc W base args ds gs before hval hW (hcond _ rfl) hL hsh

theorem saidUpto : Rows.NumConstantsUptoSaid :=
  OpenClaim.holds_of_cond 3 Tryz.f3 rfl rfl rfl rfl rfl rfl rfl ⟨rfl, rfl, rfl, rfl, rfl⟩ rfl rfl rfl rfl rfl (by kernel_rfl) Tryz.func3 (by kernel_rfl)
    (of_decide_eq_true (by kernel_rfl)) (by unfold Func.isWrapper; first | (rw [if_pos (by decide +kernel)]; kernel_rfl) | (rw [if_neg (by decide +kernel)]; exact ⟨rfl, rfl⟩))
    (fun os started H enc _ F => by rw [OpenClaim.pre_eq_preRow]; exact liftedUpto os started H enc F)

theorem plain (f : FuncId) (fn : Func) (hf : Tryz.pinned.checked.prog.funcNamed "arbiter/arbiterlaw1.NumConstants" = some f) (hfn : Tryz.pinned.checked.prog.funcs[f]? = some fn) :
    false = Tryz.pinned.checked.prog.looks [] ∧ ∀ (j : Nat) t, fn.params[j]? = some t → Tryz.pinned.checked.prog.wantsStandIn t = false := by
  obtain rfl : f = 3 := Option.some.inj ((show Tryz.prog.funcNamed "arbiter/arbiterlaw1.NumConstants" = some 3 by kernel_rfl).symm.trans hf) |>.symm
  obtain rfl : fn = Tryz.f3 := (Option.some.inj (Tryz.func3.symm.trans hfn)).symm
  refine ⟨by kernel_rfl, fun j t ht => ?_⟩
  rw [Tryz.params3] at ht
  obtain rfl : t = 9 := by simpa using Array.mem_of_getElem? ht
  exact (show Tryz.prog.wantsStandIn 9 = false by kernel_rfl)

theorem cardUpto : Rows.NumConstantsUptoCardSaid :=
  Claim7.holds_tied_plain_at .later [] _ _ _ _ saidUpto (fun _ h => by cases h) (by kernel_rfl) (fun _ h => by cases h) numConstantsUpto_row_tie rfl ⟨rfl, rfl⟩ (by kernel_rfl) rfl plain (by kernel_rfl)
#print axioms cardUpto
end Go.Proofs.YtebnjolkolobhaaGreatDoor.numConstants
namespace Go.Proofs.YtebnjolkolobhaaGreatDoor
theorem numConstantsUpto_holds : Rows.NumConstantsUptoCardSaid := numConstants.cardUpto
#print axioms numConstantsUpto_holds
end Go.Proofs.YtebnjolkolobhaaGreatDoor
