/-
  NumPlaces: what is read, what is written again; the texts that Read refuses.
-/
import Derived.Test.YtebnjolkolobhaaGreatDoorPlacesOps
import Derived.Test.YtebnjolkolobhaaGreatDoorNumDecimal
import Derived.WalkKit
/- ==== PlacesLaw ==== -/
namespace Go.Proofs.YtebnjolkolobhaaGreatDoor
open Go.RowKit
set_option linter.unusedVariables false
theorem strip_ex (p : Nat) (hp : 2 ≤ p) (n : Nat) (h : 0 < n) : ∃ c r, M.IsStrip p n c r := by
  induction n using Nat.strongRecOn with
  | _ n ih =>
    by_cases hd : p ∣ n
    · obtain ⟨k, rfl⟩ := hd
      have hk : 0 < k := Nat.pos_of_ne_zero (fun e => by rw [e] at h; simp at h)
      have hlt : k < p * k := Nat.lt_of_lt_of_le (by omega : k < 2 * k) (Nat.mul_le_mul_right k hp)
      obtain ⟨c, r, h1, h2⟩ := ih k hlt hk
      exact ⟨c + 1, r, by rw [Nat.pow_succ, Nat.mul_comm (p ^ c) p, Nat.mul_assoc, ← h1], h2⟩
    · exact ⟨0, n, by simp, hd⟩
theorem pq_list {sa sb : ByteArray} {la lb : List UInt8} (ha : sa.data.toList = la) (hb : sb.data.toList = lb) : (sa ++ ⟨#[46]⟩ ++ sb).data.toList = la ++ 46 :: lb := by
  subst ha hb
  rw [ByteArray.data_append, Array.toList_append, ByteArray.data_append, Array.toList_append]
  simp
theorem app_size {sa sb : ByteArray} : (sa ++ ⟨#[46]⟩ ++ sb).size = sa.size + 1 + sb.size := by
  rw [ByteArray.size_append, ByteArray.size_append]
  rfl
theorem read_no_calls (w : World) (sa sb : ByteArray) (la lb : List UInt8) (ha : sa.data.toList = la) (hb : sb.data.toList = lb) (hla : la.length ≤ 1048576) (hlb : lb.length ≤ 1048576) (G : ¬ (Lit la ∧ Good lb)) (env : Env w) :
    Calls Tryz.prog 24 #[.string (sa ++ ⟨#[46]⟩ ++ sb)] w fun e w' => e = .returned (.tuple #[.string ⟨#[]⟩, .int .i64 1]) ∧ Below w.heap.size w w' := by
  obtain ⟨⟨m, hM⟩, hT, hP⟩ := env
  have c := read_calls w (sa ++ ⟨#[46]⟩ ++ sb) (la ++ 46 :: lb) (pq_list ha hb) (by rw [List.length_append, List.length_cons]; omega) m hM hT hP
  rw [read_point, if_neg G] at c
  exact c
theorem read_yes_calls (w : World) (sa sb : ByteArray) (la lb : List UInt8) (ha : sa.data.toList = la) (hb : sb.data.toList = lb) (hla : la.length ≤ 1048576) (hlb : lb.length ≤ 1048576) (G : Lit la ∧ Good lb) (env : Env w) :
    Calls Tryz.prog 24 #[.string (sa ++ ⟨#[46]⟩ ++ sb)] w fun e w' => e = .returned (.tuple #[.string (tB (pQ la lb)), .int .i64 0]) ∧ Below w.heap.size w w' := by
  obtain ⟨⟨m, hM⟩, hT, hP⟩ := env
  have c := read_calls w (sa ++ ⟨#[46]⟩ ++ sb) (la ++ 46 :: lb) (pq_list ha hb) (by rw [List.length_append, List.length_cons]; omega) m hM hT hP
  rw [read_point, if_pos G] at c
  exact c
theorem pQ_bdk {la lb : List UInt8} {k : Nat} (hk : la.length + lb.length < k) (G : Lit la ∧ Good lb) : Bd k (pQ la lb) := by
  have hp : 0 < 10 ^ lb.length := Nat.pow_pos (by decide)
  unfold pQ
  refine Bd.mk (by omega) ?_ ?_
  · rw [Int.natAbs_natCast]
    refine Nat.lt_of_lt_of_le (M.dec_lt (M.Digs.append G.1.1.2 G.2.2)) (Nat.pow_le_pow_right (by decide) ?_)
    rw [List.length_append]; omega
  · exact Nat.pow_lt_pow_right (by decide) (by omega)
theorem pQ_bd {la lb : List UInt8} (hla : la.length ≤ 1048576) (hlb : lb.length ≤ 1048576) (G : Lit la ∧ Good lb) : Bd 2097153 (pQ la lb) := pQ_bdk (by omega) G
theorem dec_bdk {l : List UInt8} {k : Nat} (h : M.Digs l) (hk : l.length < k) : Bd k (mkRat (M.dec l : Int) 1) :=
  Bd.mk (by decide) (by rw [Int.natAbs_natCast]; exact Nat.lt_of_lt_of_le (M.dec_lt h) (Nat.pow_le_pow_right (by decide) (by omega))) (Nat.one_lt_pow (by omega) (by decide))
theorem ten_bdk {j k : Nat} (hk : j < k) : Bd k (mkRat ((10 ^ j : Nat) : Int) 1) :=
  Bd.mk (by decide) (by rw [Int.natAbs_natCast]; exact Nat.pow_lt_pow_right (by decide) hk) (Nat.one_lt_pow (by omega) (by decide))
theorem decimal_back (w : World) (sa S : ByteArray) (la lb : List UInt8) (ha : sa.data.toList = la) (hla : la.length ≤ 1048576) (hlb : lb.length ≤ 1048576) (G : Lit la ∧ Good lb) (n : Nat) (h1 : 1 ≤ n) (h2 : n ≤ lb.length) (hS : S.data.toList = lb.take n) (hz : lb = lb.take n ++ List.replicate (lb.length - n) 48) (hend : n = 1 ∨ lb.getD (n - 1) 0 ≠ 48) (env : Env w) :
    Calls Tryz.prog 21 #[.string (tB (pQ la lb))] w fun e w' => e = .returned (.tuple #[.string (sa ++ ⟨#[46]⟩ ++ S), .int .i64 0]) ∧ Below w.heap.size w w' := by
  obtain ⟨⟨m, hM⟩, hT, hP⟩ := env
  have hln : (lb.take n).length = n := by rw [List.length_take]; omega
  have hgood : Good (lb.take n) := ⟨fun e => by rw [e] at hln; simp at hln; omega, fun b hb => G.2.2 b (List.mem_of_mem_take hb)⟩
  have hq : pQ la lb = pQ la (lb.take n) := by
    conv => lhs; rw [hz]
    exact pQ_zero _ _ _
  have hc := (qT_can (pQ la lb)).1
  obtain ⟨t, r1, s1⟩ := strip_ex 2 (by decide) _ (can_pos hc)
  have r0 : 0 < r1 := Nat.pos_of_ne_zero (fun e => s1.2 (by rw [e]; exact Nat.dvd_zero 2))
  obtain ⟨f, r2, s2⟩ := strip_ex 5 (by decide) r1 r0
  have hsz : (tB (pQ la lb)).size ≤ 4194400 := by
    have := (pQ_bd hla hlb G).size (by decide)
    omega
  have c := numDecimal_calls w (tB (pQ la lb)) (qT (pQ la lb)) (tB_list _) (by rw [← tB_list, slen]; exact hsz) m hM hT hP t f r1 r2 (fun _ => by rw [lowN_can hc]; exact ⟨s1, s2⟩)
  have e : decT (qT (pQ la lb)) t f r2 = (la ++ 46 :: lb.take n, 0) := by
    rw [hq] at s1 ⊢
    refine places la (lb.take n) G.1 hgood ?_ t f r1 r2 s1 s2
    rw [hln]
    rcases hend with h | h
    · exact .inl h
    · refine .inr ?_
      rw [List.getD_eq_getElem?_getD, List.getElem?_take_of_lt (by omega), ← List.getD_eq_getElem?_getD]
      exact h
  rw [e] at c
  have es : (⟨(la ++ 46 :: lb.take n).toArray⟩ : ByteArray) = sa ++ ⟨#[46]⟩ ++ S := (strB (pq_list ha hS)).symm
  rw [← es]
  exact c
set_option maxRecDepth 100000 in
set_option maxHeartbeats 8000000 in
theorem places_no (w : World) (sa sb : ByteArray) (la lb : List UInt8) (ha : sa.data.toList = la) (hb : sb.data.toList = lb) (hla : la.length ≤ 1048576) (hlb : lb.length ≤ 1048576) (G : ¬ (Lit la ∧ Good lb)) (env : Env w) :
    Calls Tryz.prog 7 #[.string sa, .string sb] w fun e w' => e = .returned (.bool true) ∧ Below w.heap.size w w' := by
  have c1 := hide (fun W (h : Env W) => read_no_calls W sa sb la lb ha hb hla hlb G h)
  have d1 := hide (fun W => decimal_calls W sb lb hb (by omega))
  have d2 := hide (fun W => decimal_calls W sa la ha (by omega))
  have za := size_of sa la ha
  have zb := size_of sb lb hb
  have b1 := hide (fun W => bare_calls W sa (by omega))
  have ma : sa.size ≤ 1048576 := by omega
  have mb : sb.size ≤ 1048576 := by omega
  have EE := hide env
  have bw : Hid (Below w.heap.size w w) := Below.refl _ _
  have zab : (sa ++ ⟨#[46]⟩ ++ sb).size ≤ 2097153 := by rw [app_size]; omega
  generalize hAB : sa ++ ⟨#[46]⟩ ++ sb = AB at *
  have hne : Good la → Good lb → (⟨(bareL sa.data.toList).toArray⟩ : ByteArray) ≠ sa := fun ga gb e => G ⟨by
    rw [← bareL_same la ga, ← ha]
    have := congrArg (fun b : ByteArray => b.data.toList) e
    simpa using this, gb⟩
  by_cases gb : Good lb
  · rw [decide_eq_true gb] at d1
    by_cases ga : Good la
    · rw [decide_eq_true ga] at d2
      obtain ⟨o2, o3, o4, o5, o6⟩ := str_ne2 (hne ga gb)
      clear hne
      generalize (⟨(bareL sa.data.toList).toArray⟩ : ByteArray) = T at *
      clear za zb ha hb hla hlb env G ga gb
      go_enter Tryz.func7, Tryz.ntmps7
      go_wp2_with (first
        | (go_at_call_of 23 (Value.string ⟨#[49, 46, 53, 48]⟩); refine (reads_own1 _ (EE.out.below bw.out)).mono ?_; rintro e w1 ⟨rfl, b1⟩; replace bw := hide (bw.out.then_below b1); clear b1)
        | (go_at_call_of 23 (Value.string ⟨#[48]⟩); refine (reads_own0 _ (EE.out.below bw.out)).mono ?_; rintro e w1 ⟨rfl, b1⟩; replace bw := hide (bw.out.then_below b1); clear b1)
        | (go_at_call 24; refine (c1.out _ (EE.out.below bw.out)).mono ?_; rintro e w1 ⟨rfl, b1⟩; replace bw := hide (bw.out.then_below b1); clear b1)
        | (go_at_call_of 25 (Value.string sb); refine (d1.out _).mono ?_; rintro e w1 ⟨rfl, hw⟩; replace hw := hw.symm; subst hw)
        | (go_at_call_of 25 (Value.string sa); refine (d2.out _).mono ?_; rintro e w1 ⟨rfl, hw⟩; replace hw := hw.symm; subst hw)
        | (go_at_call 26; refine (b1.out _).mono ?_; rintro e w1 ⟨rfl, hw⟩; replace hw := hw.symm; subst hw)
        | (go_at_call 9; refine (no_b _ _).mono ?_; rintro e w1 ⟨rfl, hw⟩; replace hw := hw.symm; subst hw))
      go_ret
      exact ⟨rfl, bw.out⟩
    · rw [decide_eq_false ga] at d2
      clear za zb ha hb hla hlb env G ga gb hne b1
      go_enter Tryz.func7, Tryz.ntmps7
      go_wp2_with (first
        | (go_at_call_of 23 (Value.string ⟨#[49, 46, 53, 48]⟩); refine (reads_own1 _ (EE.out.below bw.out)).mono ?_; rintro e w1 ⟨rfl, b1⟩; replace bw := hide (bw.out.then_below b1); clear b1)
        | (go_at_call_of 23 (Value.string ⟨#[48]⟩); refine (reads_own0 _ (EE.out.below bw.out)).mono ?_; rintro e w1 ⟨rfl, b1⟩; replace bw := hide (bw.out.then_below b1); clear b1)
        | (go_at_call 24; refine (c1.out _ (EE.out.below bw.out)).mono ?_; rintro e w1 ⟨rfl, b1⟩; replace bw := hide (bw.out.then_below b1); clear b1)
        | (go_at_call_of 25 (Value.string sb); refine (d1.out _).mono ?_; rintro e w1 ⟨rfl, hw⟩; replace hw := hw.symm; subst hw)
        | (go_at_call_of 25 (Value.string sa); refine (d2.out _).mono ?_; rintro e w1 ⟨rfl, hw⟩; replace hw := hw.symm; subst hw)
        | (go_at_call 9; refine (no_b _ _).mono ?_; rintro e w1 ⟨rfl, hw⟩; replace hw := hw.symm; subst hw))
      go_ret
      exact ⟨rfl, bw.out⟩
  · rw [decide_eq_false gb] at d1
    clear za zb ha hb hla hlb env G gb hne b1 d2
    go_enter Tryz.func7, Tryz.ntmps7
    go_wp2_with (first
      | (go_at_call_of 23 (Value.string ⟨#[49, 46, 53, 48]⟩); refine (reads_own1 _ (EE.out.below bw.out)).mono ?_; rintro e w1 ⟨rfl, b1⟩; replace bw := hide (bw.out.then_below b1); clear b1)
      | (go_at_call_of 23 (Value.string ⟨#[48]⟩); refine (reads_own0 _ (EE.out.below bw.out)).mono ?_; rintro e w1 ⟨rfl, b1⟩; replace bw := hide (bw.out.then_below b1); clear b1)
      | (go_at_call 24; refine (c1.out _ (EE.out.below bw.out)).mono ?_; rintro e w1 ⟨rfl, b1⟩; replace bw := hide (bw.out.then_below b1); clear b1)
      | (go_at_call_of 25 (Value.string sb); refine (d1.out _).mono ?_; rintro e w1 ⟨rfl, hw⟩; replace hw := hw.symm; subst hw)
      | (go_at_call 9; refine (no_b _ _).mono ?_; rintro e w1 ⟨rfl, hw⟩; replace hw := hw.symm; subst hw))
    go_ret
    exact ⟨rfl, bw.out⟩
end Go.Proofs.YtebnjolkolobhaaGreatDoor
