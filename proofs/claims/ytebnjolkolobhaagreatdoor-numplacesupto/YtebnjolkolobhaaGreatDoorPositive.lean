/-
  The law's own helpers: reads, positive.
-/
import Derived.Test.YtebnjolkolobhaaGreatDoorSpell
import Derived.Test.YtebnjolkolobhaaGreatDoorReadA
import Derived.Deep.RegionHeld3
/- ==== Positive ==== -/
namespace Go.Proofs.YtebnjolkolobhaaGreatDoor
open Go.RowKit
set_option linter.unusedVariables false
set_option maxRecDepth 100000 in
theorem reads_z (w : World) (s : ByteArray) (n : Nat) (hs : s.data.toList = Lib.decDigits n ++ [46, 48]) (hz : s.size ≤ 1073741824) (env : Env w) :
    Calls Tryz.prog 23 #[.string s] w fun e w' => e = .returned (.string (tB (mkRat n 1))) ∧ Below w.heap.size w w' := by
  obtain ⟨⟨m, hM⟩, hT, hP⟩ := env
  have c0 := read_calls w s _ hs (by rw [← hs, slen]; exact hz) m hM hT hP
  rw [read_zero n] at c0
  have c1 : Hid (Calls Tryz.prog 24 #[.string s] w fun e w' => e = .returned (.tuple #[.string (tB (mkRat n 1)), .int .i64 0]) ∧ Below w.heap.size w w') := c0
  clear hM hT hP hs hz c0
  generalize tB (mkRat n 1) = T at *
  go_enter Tryz.func23, Tryz.ntmps23
  go_wp2_with (first
    | (go_at_call 24; refine c1.out.mono ?_; rintro e w1 ⟨rfl, b1⟩; replace b1 := hide b1)
    | (go_at_call 37; refine (told_b _ _ _).mono ?_; rintro e w2 ⟨rfl, hw⟩; rw [if_pos rfl]; replace hw := hw.symm; subst hw))
  go_ret
  exact ⟨rfl, b1.out⟩
theorem run_mid (s : ByteArray) (i j : Int) (a b : Nat) (hi : i = a) (hj : j = b) (h1 : a ≤ b) (h2 : b ≤ s.size) (W : World) :
    (Instr.sliceAt 9 (.string s) (some (.int .i64 i)) (some (.int .i64 j)) none).run Tryz.prog W = .ok (.string (s.extract a b)) W := by
  have hu : Tryz.prog.underlying 9 = some .string := by kernel_rfl
  subst hi hj
  rw [run_sliceAt_string (h := hu)]
  have h3 : (0 : Int) ≤ (a : Int) := by omega
  have h4 : (a : Int) ≤ (b : Int) := by omega
  have h5 : (b : Int) ≤ (s.size : Int) := by omega
  go_simp
theorem extract_mid {s : ByteArray} {l : List UInt8} (hs : s.data.toList = l) (a b : Nat) : (s.extract a b).data.toList = (l.take b).drop a := by
  subst hs
  simp [ByteArray.data_extract, List.drop_take]
set_option maxRecDepth 100000 in
set_option maxHeartbeats 4000000 in
theorem positive_whole (w : World) (s : ByteArray) (n : Nat) (hs : s.data.toList = Lib.decDigits n ++ [46, 48]) (hz : s.size ≤ 1073741824) (env : Env w) :
    Calls Tryz.prog 11 #[.string s] w fun e w' => e = .returned (.string (tB (mkRat n 1))) ∧ Below w.heap.size w w' := by
  have q1 := hide (reads_z w s n hs hz env)
  have hne : (s.extract 0 3).data.toList ≠ [40, 47, 32] := by
    rw [extract_take hs]
    obtain ⟨b, l, e⟩ := List.exists_cons_of_ne_nil (M.decDigits_ne n)
    have hd := M.Digs.decDigits n
    rw [e] at hd ⊢
    have hb := hd b (by simp)
    intro h
    have h2 : b = 40 := by
      have := congrArg (fun t => t.getD 0 0) h
      simpa using this
    rw [h2] at hb
    exact absurd hb.1 (by decide)
  obtain ⟨e1, e2, e3, e4⟩ := str_ne (S := s.extract 0 3) (v := [40, 47, 32]) rfl hne
  clear hs env hne
  generalize tB (mkRat n 1) = T at *
  by_cases h5 : s.size < 5
  · have h6 : (s.size : Int) < 5 := by omega
    clear e1 e2 e3 e4
    go_enter Tryz.func11, Tryz.ntmps11
    go_wp2_with (go_at_call 23; refine q1.out.mono ?_; rintro e w1 ⟨rfl, b1⟩; replace b1 := hide b1)
    go_ret
    exact ⟨rfl, b1.out⟩
  · have h6 : (5 : Int) ≤ (s.size : Int) := by omega
    have h7 : (3 : Int) ≤ (s.size : Int) := by omega
    go_enter Tryz.func11, Tryz.ntmps11
    go_wp2_with (go_at_call 23; refine q1.out.mono ?_; rintro e w1 ⟨rfl, b1⟩; replace b1 := hide b1)
    go_ret
    exact ⟨rfl, b1.out⟩
theorem mid_of (a m b : List UInt8) : ((a ++ (m ++ b)).take (a.length + m.length)).drop a.length = m := by
  rw [← List.append_assoc, List.take_left' (by simp), List.drop_left' rfl]
theorem frac_at {u v : List UInt8} (hu : M.Digs u) (k : Nat) (hk : k < u.length + 5) (h3 : 3 ≤ k) : ([40, 47, 32] ++ (u ++ ([46, 48, 32] ++ (v ++ [46, 48, 41])))).getD k 0 ≠ 32 := by
  obtain ⟨j, rfl⟩ : ∃ j, k = j + 3 := ⟨k - 3, by omega⟩
  rw [List.getD_eq_getElem?_getD, List.getElem?_append_right (by simp)]
  simp only [List.length_cons, List.length_nil, Nat.reduceAdd, Nat.add_sub_cancel]
  by_cases hj : j < u.length
  · rw [List.getElem?_append_left hj, ← List.getD_eq_getElem?_getD]
    exact digs_ne hu 32 (by decide) j hj
  · rw [List.getElem?_append_right (by omega)]
    obtain ⟨i, hi⟩ : ∃ i, j = u.length + i := ⟨j - u.length, by omega⟩
    rw [hi, Nat.add_sub_cancel_left]
    match i, (by omega : i < 2) with
    | 0, _ => simp
    | 1, _ => simp
set_option maxRecDepth 100000 in
set_option maxHeartbeats 8000000 in
theorem positive_frac (w : World) (s : ByteArray) (n d : Nat) (hd : d ≠ 0) (hs : s.data.toList = [40, 47, 32] ++ (Lib.decDigits n ++ ([46, 48, 32] ++ (Lib.decDigits d ++ [46, 48, 41])))) (hz : s.size ≤ 1073741824) (z1 : Sz (mkRat n 1)) (z2 : Sz (mkRat d 1)) (env : Env w) :
    Calls Tryz.prog 11 #[.string s] w fun e w' => e = .returned (.string (tB (mkRat n d))) ∧ Below w.heap.size w w' := by
  obtain ⟨P, hP⟩ : ∃ P, P = (Lib.decDigits n).length + 5 := ⟨_, rfl⟩
  have hsz : s.size = P + (Lib.decDigits d).length + 4 := by
    rw [← slen, hs, hP]
    simp
    omega
  have hP3 : 3 < P := by omega
  have h30 : (s.extract 0 3).data.toList = [40, 47, 32] := by rw [extract_take hs]; simp
  have e3 : s.extract 0 3 = ⟨#[40, 47, 32]⟩ := str_is h30
  have hA : (s.extract 3 P).data.toList = Lib.decDigits n ++ [46, 48] := by
    have e : s.data.toList = [40, 47, 32] ++ ((Lib.decDigits n ++ [46, 48]) ++ ([32] ++ (Lib.decDigits d ++ [46, 48, 41]))) := by rw [hs]; simp
    rw [extract_mid e, show P = ([40, 47, 32] : List UInt8).length + (Lib.decDigits n ++ [46, 48]).length from by rw [hP]; simp; omega]
    exact mid_of [40, 47, 32] (Lib.decDigits n ++ [46, 48]) _
  have hB : (s.extract (P + 1) (s.size - 1)).data.toList = Lib.decDigits d ++ [46, 48] := by
    have e : s.data.toList = ([40, 47, 32] ++ (Lib.decDigits n ++ [46, 48, 32])) ++ ((Lib.decDigits d ++ [46, 48]) ++ [41]) := by rw [hs]; simp
    have e1 : P + 1 = ([40, 47, 32] ++ (Lib.decDigits n ++ [46, 48, 32]) : List UInt8).length := by rw [hP]; simp
    have e2 : s.size - 1 = ([40, 47, 32] ++ (Lib.decDigits n ++ [46, 48, 32]) : List UInt8).length + (Lib.decDigits d ++ [46, 48]).length := by rw [← e1, hsz]; simp; omega
    rw [extract_mid e, e1, e2]
    exact mid_of _ _ _
  have zA : (s.extract 3 P).size ≤ 1073741824 := by rw [← slen, hA]; simp; omega
  have zB : (s.extract (P + 1) (s.size - 1)).size ≤ 1073741824 := by rw [← slen, hB]; simp; omega
  have qA := hide (fun W (h : Env W) => reads_z W _ n hA zA h)
  have qB := hide (fun W (h : Env W) => reads_z W _ d hB zB h)
  have hdz : (mkRat d 1 : Rat) ≠ 0 := fun e => hd (by have := (Rat.mkRat_eq_zero (by decide)).1 e; omega)
  have qQ : Hid (∀ W, Env W → Calls Tryz.prog 28 #[.string (tB (mkRat n 1)), .string (tB (mkRat d 1))] W fun e w' => e = .returned (.string (tB (mkRat n d))) ∧ Below W.heap.size W w') := by
    intro W h
    have := quo_t W _ _ (mkRat n 1) (mkRat d 1) rfl rfl hdz z1 z2 h
    rw [quo_spell n d hd] at this
    exact this
  have r1 := fun W => run_mid s 3 (P : Int) 3 P rfl rfl (by omega) (by omega) W
  have r2 := fun W => run_mid s ((P : Int) + 1) ((s.size : Int) - 1) (P + 1) (s.size - 1) (by omega) (by omega) (by omega) (by omega) W
  have hat : Hid (∀ k, 3 ≤ k → k < P → s.data.toList.getD k 0 ≠ 32) := fun k h3 hk => by
    rw [hs]
    exact frac_at (M.Digs.decDigits n) k (by omega) h3
  have hatP : s.data.toList.getD P 0 = 32 := by
    rw [hs, hP, List.getD_eq_getElem?_getD, List.getElem?_append_right (by simp)]
    simp only [List.length_cons, List.length_nil, Nat.reduceAdd]
    rw [show (Lib.decDigits n).length + 5 - 3 = (Lib.decDigits n).length + 2 from by omega, List.getElem?_append_right (by omega), Nat.add_sub_cancel_left]
    simp
  have EE := hide env
  have h6 : (5 : Int) ≤ (s.size : Int) := by omega
  have h7 : (3 : Int) ≤ (s.size : Int) := by omega
  have HZ := hide hsz
  generalize tB (mkRat n 1) = TA at *
  generalize tB (mkRat d 1) = TB at *
  generalize tB (mkRat n d) = TQ at *
  generalize hEA : s.extract 3 P = EA at *
  generalize hEB : s.extract (P + 1) (s.size - 1) = EB at *
  replace hEA := hide hEA
  replace hEB := hide hEB
  clear env hs hA hB zA zB hdz z1 z2 h30 hP hsz
  go_enter Tryz.func11, Tryz.ntmps11
  go_wp2
  go_loopw [3] (fun i wr => ∃ k : Nat, 3 ≤ k ∧ k ≤ P ∧ i = .int .i64 k ∧ wr = w) (fun i _ => P - (intOf i).toNat)
  case atStart => exact ⟨3, by omega, by omega, rfl, rfl⟩
  case round =>
    obtain ⟨k, hk3, hkP, rfl, hw⟩ := hrel
    replace hw := hw.symm
    subst hw
    have hks : k < s.size := by have := HZ.out; omega
    have hks2 : (k : Int) < (s.size : Int) - 1 := by have := HZ.out; omega
    have e0 : IntKind.i64.wrap ((s.size : Int) - 1) = (s.size : Int) - 1 := by rw [IntKind.wrap_i64]; omega
    by_cases hlt : k < P
    · have hn := hat.out k hk3 hlt
      have hb := byteAt s _ rfl k hks
      generalize s.data.toList.getD k 0 = b at hb hn
      have h32 : b.toNat ≠ 32 := fun e => hn (UInt8.toNat_inj.1 (by simpa using e))
      have h32b : ((b.toNat : Int) == 32) = false := by rw [beq_eq_false_iff_ne]; omega
      have h32c : ¬ (b.toNat : Int) = 32 := by omega
      clear hn
      clear hat hatP r1 r2
      go_wp2
      go_roundw
      case rel => exact ⟨k + 1, by omega, by omega, by go_num, trivial⟩
      case measure => simp [intOf]; omega
    · obtain rfl : k = P := by omega
      have hb := byteAt s _ rfl k hks
      rw [hatP] at hb
      have e1 : IntKind.i64.wrap ((k : Int) + 1) = (k : Int) + 1 := by rw [IntKind.wrap_i64]; omega
      have S0 : Hid (Below w.heap.size w w) := Below.refl _ _
      clear hat hatP
      go_wp2_with fail
      go_region_held3
        (fun w' => Below w.heap.size w w')
        ((repeat (first | with_reducible exact S0.out | with_reducible refine Below.drew ?_ | with_reducible refine Below.then_below ?_ b3 | with_reducible refine Below.then_below ?_ b2 | with_reducible refine Below.then_below ?_ b1)))
        (first
          | (go_at_call_of 23 (Value.string EA); refine (qA.out _ (EE.out.below (by repeat (first | with_reducible exact S0.out | with_reducible refine Below.drew ?_)))).mono ?_; rintro e w1 ⟨rfl, b1⟩)
          | (go_at_call_of 23 (Value.string EB); refine (qB.out _ (EE.out.below (by repeat (first | with_reducible exact S0.out | with_reducible refine Below.drew ?_ | with_reducible refine Below.then_below ?_ b1)))).mono ?_; rintro e w2 ⟨rfl, b2⟩)
          | (go_at_call 28; refine (qQ.out _ (EE.out.below (by repeat (first | with_reducible exact S0.out | with_reducible refine Below.drew ?_ | with_reducible refine Below.then_below ?_ b2 | with_reducible refine Below.then_below ?_ b1)))).mono ?_; rintro e w3 ⟨rfl, b3⟩))
      go_wp2_with fail
      go_ret
      exact ⟨rfl, (by repeat (first | with_reducible exact S0.out | with_reducible refine Below.drew ?_ | with_reducible refine Below.then_below ?_ b3 | with_reducible refine Below.then_below ?_ b2 | with_reducible refine Below.then_below ?_ b1))⟩
theorem positive_p (w : World) (s : ByteArray) (n d : Nat) (hs : s.data.toList = spellP n d) (hz : s.size ≤ 1073741824) (z1 : Sz (mkRat n 1)) (z2 : Sz (mkRat (lowN d) 1)) (env : Env w) :
    Calls Tryz.prog 11 #[.string s] w fun e w' => e = .returned (.string (tB (mkRat n (lowN d)))) ∧ Below w.heap.size w w' := by
  unfold spellP at hs
  by_cases hd : d = 0
  · rw [if_pos hd] at hs
    rw [hd]
    exact positive_whole w s n hs hz env
  · rw [if_neg hd] at hs
    rw [lowN_of hd] at z2 ⊢
    exact positive_frac w s n d hd hs hz z1 z2 env
end Go.Proofs.YtebnjolkolobhaaGreatDoor
