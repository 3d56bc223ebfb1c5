/-
  upTo: scripts of calls on two orders in turns; OrderActs, OrderTakes, OrderPlays.
-/
import Derived.Test.YtigbclhkmjcjjaaRefNew
import Derived.Test.YtigbclhkmjcjjaaRefStep2
namespace Go.Proofs.Ytigbclhkmjcjjaa
open Go.RowKit
set_option linter.unusedVariables false
def errNew (n : Int) : Int := if n < 0 then 70 else if 1000000 < n then 46 else 0
/-- Two orders that go together, or none. -/
def PairAt (a b : Option Addr) (bs : List Nat) (w : World) : Prop := (a = none ∧ bs = []) ∨ ∃ o s q t, a = some ⟨Oid.P o, 0, none⟩ ∧ b = some ⟨Rid.P q, 0, none⟩ ∧ bs = blks o ++ rblks q ∧ Both w o s q t
theorem PairAt.keep {a b : Option Addr} {bs S : List Nat} {w w' : World} (h : PairAt a b bs w) (c : Chg S w w') (hS : ∀ x, x ∈ bs → x ∉ S) : PairAt a b bs w' := by
  rcases h with h | ⟨o, s, q, t, h1, h2, h3, B⟩
  · exact .inl h
  · exact .inr ⟨o, s, q, t, h1, h2, h3, B.keep c (fun x hx => hS x (by rw [h3]; exact List.mem_append_left _ hx)) (fun x hx => hS x (by rw [h3]; exact List.mem_append_right _ hx))⟩
theorem pair_step {a b : Option Addr} {bs : List Nat} {w : World} (h : PairAt a b bs w) (ha : a ≠ none) (x : POp) : Calls Try.prog 37 #[x.val, .pointer a, .pointer b] w fun e w' => e = .returned (.bool true) ∧ PairAt a b bs w' ∧ Chg bs w w' := by
  rcases h with h | ⟨o, s, q, t, rfl, rfl, rfl, B⟩
  · exact absurd h.1 ha
  · refine (step_calls w x o s q t B).mono ?_
    rintro e w' ⟨rfl, ⟨s', t', B'⟩, c⟩
    exact ⟨rfl, .inr ⟨o, s', q, t', rfl, rfl, rfl, B'⟩, c⟩
theorem pair_notin {a b : Option Addr} {bs : List Nat} {w : World} {g : Nat} {c : Array Value} (h : PairAt a b bs w) (hg : w.heap[g]? = some (.cells c 45 (0, 0))) : g ∉ bs := by
  rcases h with ⟨_, rfl⟩ | ⟨o, s, q, t, _, _, rfl, B⟩
  · simp
  · intro hx
    rcases List.mem_append.1 hx with hx | hx
    · exact B.good.ord.notin hg hx
    · exact B.rord.notin hg hx
theorem newP (W : World) (n : Int) : Calls Try.prog 19 #[.int .i64 n] W fun e w' => ∃ a, e = .returned (.tuple #[.pointer a, .int .i64 (errNew n)]) ∧ (errNew n ≠ 0 → a = none) ∧ (errNew n = 0 → ∃ o : Oid, a = some ⟨o.P, 0, none⟩ ∧ (o.n : Int) = n ∧ Ord w' o (newO o.n) ∧ ∀ b, b ∈ blks o → W.heap.size ≤ b) ∧ Below W.heap.size W w' := by
  unfold errNew
  by_cases c1 : n < 0
  · rw [if_pos c1]
    refine (new_neg W n c1).mono ?_
    rintro e w' ⟨rfl, rfl⟩
    exact ⟨none, rfl, fun _ => rfl, fun c => absurd c (by decide), Below.refl _ _⟩
  · by_cases c2 : 1000000 < n
    · rw [if_neg c1, if_pos c2]
      refine (new_big W n c2).mono ?_
      rintro e w' ⟨rfl, rfl⟩
      exact ⟨none, rfl, fun _ => rfl, fun c => absurd c (by decide), Below.refl _ _⟩
    · rw [if_neg c1, if_neg c2]
      obtain ⟨k, rfl⟩ : ∃ k : Nat, n = k := ⟨n.toNat, by omega⟩
      refine (new_calls W k (by omega)).mono ?_
      rintro e w' ⟨o, ho, rfl, O1, hb, c⟩
      subst ho
      exact ⟨_, rfl, fun z => absurd rfl z, fun _ => ⟨o, rfl, rfl, O1, hb⟩, c.below (Nat.le_refl _) (fun b hb => by simp at hb)⟩
theorem newR (W : World) (n : Int) : Calls Try.prog 36 #[.int .i64 n] W fun e w' => ∃ a, e = .returned (.tuple #[.pointer a, .int .i64 (errNew n)]) ∧ (errNew n = 0 → ∃ q : Rid, a = some ⟨q.P, 0, none⟩ ∧ (q.n : Int) = n ∧ (∃ t, ROrd w' q t ∧ Rel q.n (newO q.n) t) ∧ ∀ b, b ∈ rblks q → W.heap.size ≤ b) ∧ Below W.heap.size W w' := by
  unfold errNew
  by_cases c1 : n < 0
  · rw [if_pos c1]
    refine (rnew_neg W n c1).mono ?_
    rintro e w' ⟨rfl, rfl⟩
    exact ⟨none, rfl, fun c => absurd c (by decide), Below.refl _ _⟩
  · by_cases c2 : 1000000 < n
    · rw [if_neg c1, if_pos c2]
      refine (rnew_big W n c2).mono ?_
      rintro e w' ⟨rfl, rfl⟩
      exact ⟨none, rfl, fun c => absurd c (by decide), Below.refl _ _⟩
    · rw [if_neg c1, if_neg c2]
      obtain ⟨k, rfl⟩ : ∃ k : Nat, n = k := ⟨n.toNat, by omega⟩
      refine (rnew_calls W k (by omega)).mono ?_
      rintro e w' ⟨q, hq, rfl, h1, hb, c⟩
      subst hq
      exact ⟨_, rfl, fun _ => ⟨q, rfl, rfl, h1, hb⟩, c⟩
theorem pair_new {W w1 w2 : World} {n : Int} {a b : Option Addr} (h1 : errNew n ≠ 0 → a = none) (h2 : errNew n = 0 → ∃ o : Oid, a = some ⟨o.P, 0, none⟩ ∧ (o.n : Int) = n ∧ Ord w1 o (newO o.n) ∧ ∀ b, b ∈ blks o → W.heap.size ≤ b) (b1 : Below W.heap.size W w1)
    (h3 : errNew n = 0 → ∃ q : Rid, b = some ⟨q.P, 0, none⟩ ∧ (q.n : Int) = n ∧ (∃ t, ROrd w2 q t ∧ Rel q.n (newO q.n) t) ∧ ∀ b, b ∈ rblks q → w1.heap.size ≤ b) (b2 : Below w1.heap.size w1 w2) :
    ∃ bs, PairAt a b bs w2 ∧ (∀ x, x ∈ bs → W.heap.size ≤ x ∧ x < w2.heap.size) ∧ (errNew n = 0 → a ≠ none) := by
  by_cases z : errNew n = 0
  · obtain ⟨o, ha, hn, O1, hb⟩ := h2 z
    obtain ⟨q, hb', hq, ⟨t, R1, rl⟩, hqb⟩ := h3 z
    have e : q.n = o.n := by omega
    have O2 : Ord w2 o (newO o.n) := O1.keep (Chg.of_below (S := []) b2) (fun _ _ => by simp)
    have ol := O1.lt
    have rlt := R1.lt
    rw [e] at rl
    refine ⟨blks o ++ rblks q, .inr ⟨o, newO o.n, q, t, ha, hb', rfl, ⟨newO_good O2, newO_fit _, R1, e, rl, fun x hx hy => by have := ol x hx; have := hqb x hy; omega⟩⟩, ?_, fun _ => by rw [ha]; simp⟩
    intro x hx
    rcases List.mem_append.1 hx with hx | hx
    · exact ⟨hb x hx, Nat.lt_of_lt_of_le (ol x hx) b2.size⟩
    · exact ⟨Nat.le_trans b1.size (hqb x hx), rlt x hx⟩
  · exact ⟨[], .inl ⟨h1 z, rfl⟩, fun x hx => by simp at hx, fun c => absurd c z⟩
set_option maxRecDepth 100000 in
set_option maxHeartbeats 16000000 in
theorem upTo_calls (w : World) (n m lo hi : Int) (v : Value) (l : List POp) (hv : Pops w.heap.size w v l) :
    Calls Try.prog 18 #[.int .i64 n, .int .i64 m, v, .int .i64 lo, .int .i64 hi] w fun e w' => e = .returned (.bool true) ∧ Below w.heap.size w w' := by
  obtain ⟨av, capv, rfl, hln, h2⟩ := id hv
  clear h2
  replace hv := hide hv
  have N1 := hide (newP w n)
  go_enter Try.func18, Try.ntmps18
  go_wp2_with fail
  refine N1.out.mono ?_
  rintro e w1 ⟨a1, rfl, p1, p2, b1⟩
  have N2 := hide (newR w1 n)
  replace p1 := hide p1
  replace p2 := hide p2
  replace b1 := hide b1
  clear N1
  go_wp2_with fail
  refine N2.out.mono ?_
  rintro e w2 ⟨a2, rfl, p3, b2⟩
  obtain ⟨bs1, Q1, L1, Z1⟩ := pair_new p1.out p2.out b1.out p3 b2
  have X1 := hide p1.out
  have N3 := hide (newP w2 m)
  have B2 := hide (b1.out.then_below b2)
  replace Q1 := hide Q1
  replace L1 := hide L1
  replace Z1 := hide Z1
  clear p1 p2 p3 b1 b2 N2
  go_wp2_with fail
  refine N3.out.mono ?_
  rintro e w3 ⟨a3, rfl, p1, p2, b1⟩
  have N4 := hide (newR w3 m)
  replace p1 := hide p1
  replace p2 := hide p2
  replace b1 := hide b1
  clear N3
  go_wp2_with fail
  refine N4.out.mono ?_
  rintro e w4 ⟨a4, rfl, p3, b2⟩
  obtain ⟨bs2, Q2, L2, Z2⟩ := pair_new p1.out p2.out b1.out p3 b2
  have X2 := hide p1.out
  have B3 := b1.out.then_below b2
  have Q3 : PairAt a1 a2 bs1 w4 := Q1.out.keep (Chg.of_below (S := []) B3) (fun _ _ => by simp)
  have D1 : Hid (∀ x, x ∈ bs1 → w.heap.size ≤ x) := fun x hx => (L1.out x hx).1
  have D2 : Hid (∀ x, x ∈ bs2 → w.heap.size ≤ x) := fun x hx => Nat.le_trans B2.out.size (L2 x hx).1
  have D3 : Hid (∀ x, x ∈ bs1 → x ∉ bs2) := fun x h1 h2 => by have := (L1.out x h1).2; have := (L2 x h2).1; omega
  have B4 := hide (B2.out.then_below B3)
  replace Q3 := hide Q3
  replace Q2 := hide Q2
  clear Q1 L1 L2 B2 B3 p1 p2 p3 b1 b2 N4
  have E1 : (errNew n = 0 ∧ ∃ x1, a1 = some x1) ∨ (errNew n ≠ 0 ∧ a1 = none) := by
    by_cases z : errNew n = 0
    · cases a1 with
      | none => exact absurd rfl (Z1.out z)
      | some x => exact .inl ⟨z, x, rfl⟩
    · exact .inr ⟨z, X1.out z⟩
  have E2 : (errNew m = 0 ∧ ∃ x2, a3 = some x2) ∨ (errNew m ≠ 0 ∧ a3 = none) := by
    by_cases z : errNew m = 0
    · cases a3 with
      | none => exact absurd rfl (Z2 z)
      | some x => exact .inl ⟨z, x, rfl⟩
    · exact .inr ⟨z, X2.out z⟩
  clear X1 X2 Z1 Z2
  generalize errNew n = c1 at *
  generalize errNew m = c2 at *
  rcases E1 with ⟨rfl, x1, rfl⟩ | ⟨z1, rfl⟩
  case' inl =>
    rcases E2 with ⟨rfl, x2, rfl⟩ | ⟨z2, rfl⟩
  case' inr =>
    have zz1 : (c1 == 0) = false := by rw [beq_eq_false_iff_ne]; exact z1
    rcases E2 with ⟨rfl, x2, rfl⟩ | ⟨z2, rfl⟩
  case' inl.inl =>
    by_cases hn3 : 3000 < n
    · go_wp2_with (go_at_call 12; refine (no_calls13 _ _).mono ?_; rintro e wz ⟨rfl, rfl⟩)
      go_ret
      exact ⟨rfl, B4.out⟩
    by_cases hm3 : 3000 < m
    · go_wp2_with (go_at_call 12; refine (no_calls13 _ _).mono ?_; rintro e wz ⟨rfl, rfl⟩)
      go_ret
      exact ⟨rfl, B4.out⟩
  case' inl.inr =>
    have zz2 : (c2 == 0) = false := by rw [beq_eq_false_iff_ne]; exact z2
    by_cases hn3 : 3000 < n
    · go_wp2_with (go_at_call 12; refine (no_calls13 _ _).mono ?_; rintro e wz ⟨rfl, rfl⟩)
      go_ret
      exact ⟨rfl, B4.out⟩
  case' inr.inl =>
    by_cases hm3 : 3000 < m
    · go_wp2_with (go_at_call 12; refine (no_calls13 _ _).mono ?_; rintro e wz ⟨rfl, rfl⟩)
      go_ret
      exact ⟨rfl, B4.out⟩
  case' inr.inr =>
    have zz2 : (c2 == 0) = false := by rw [beq_eq_false_iff_ne]; exact z2
  all_goals
    go_wp2_with (go_at_call 12; refine (no_calls13 _ _).mono ?_; rintro e wz ⟨rfl, hzz⟩; have hzz := hzz.symm; subst hzz)
    go_loopw [19] (fun i wr => ∃ (j : Nat), i = .int .i64 j ∧ j ≤ l.length ∧ Hid (PairAt _ a2 bs1 wr) ∧ Hid (PairAt _ a4 bs2 wr) ∧ Hid (Below w.heap.size w wr)) (fun i _ => l.length - (intOf i).toNat)
    case atStart => exact ⟨0, rfl, Nat.zero_le _, Q3, Q2, B4⟩
    case round =>
      clear Q3 Q2 B4
      obtain ⟨j, rfl, hj, Q3, Q2, BB⟩ := hrel
      by_cases hlt : j < l.length
      · obtain ⟨a', cap', e', _, hc⟩ := hv.out.below BB.out
        cases e'
        obtain ⟨b, off, rfl, hbb, hc⟩ := hc (by intro e; rw [e] at hlt; simp at hlt)
        obtain ⟨c0, c1', c2', c3, c4⟩ := hc j hlt
        clear hc
        obtain ⟨⟨ok, os, on, ou, ot⟩, hx⟩ : ∃ x, l.getD j POp.z = x := ⟨_, rfl⟩
        rw [hx] at c0 c1' c2' c3 c4
        simp only at c0 c1' c2' c3 c4
        have jl : (j : Int) < (l.length : Int) := by omega
        replace hx := hide hx
        go_wp2_with fail
        have A0 : Hid ((wr.alloc (.cells #[.int .i64 ok, .bool os, .int .i64 on, .bool ou, .int .i64 ot] 45)).heap[wr.heap.size]? = some (.cells #[.int .i64 ok, .bool os, .int .i64 on, .bool ou, .int .i64 ot] 45 (0, 0))) := heap_alloc_new wr _
        have CA : Chg [] wr (wr.alloc (.cells #[.int .i64 ok, .bool os, .int .i64 on, .bool ou, .int .i64 ot] 45)) := (Chg.refl _ wr).alloc _
        have Q30 := hide (Q3.out.keep CA (fun _ _ => by simp))
        have Q20 := hide (Q2.out.keep CA (fun _ _ => by simp))
        have B0 := hide (below_chg BB.out D1.out (CA.mono (S' := bs1) (fun b hb => by simp at hb)))
        have hT1 := POp.count_le ⟨ok, os, on, ou, ot⟩
        generalize hT : POp.count ⟨ok, os, on, ou, ot⟩ = T at hT1
        replace hT := hide hT
        clear Q3 Q2 BB CA c0 c1' c2' c3 c4
        generalize (wr.alloc (.cells #[.int .i64 ok, .bool os, .int .i64 on, .bool ou, .int .i64 ot] 45)) = wa at A0 Q30 Q20 B0 ⊢
        generalize wr.heap.size = g at A0 ⊢
        generalize (Value.agg #[.int .i64 ok, .bool os, .int .i64 on, .bool ou, .int .i64 ot]) = sv82
        go_loopw [21] (fun i wr => ∃ q : Nat, i = .int .i64 q ∧ q ≤ T ∧ Hid (PairAt _ a2 bs1 wr) ∧ Hid (PairAt _ a4 bs2 wr) ∧ Hid (Below w.heap.size w wr) ∧ Hid (wr.heap[g]? = some (.cells #[.int .i64 ok, .bool os, .int .i64 on, .bool ou, .int .i64 ot] 45 (0, 0)))) (fun i _ => T - (intOf i).toNat)
        case atStart => exact ⟨0, rfl, Nat.zero_le _, Q30, Q20, B0, A0⟩
        case round =>
          obtain ⟨q, rfl, hq, Q3, Q2, BB, AA⟩ := hrel
          clear Q30 Q20 B0 A0
          obtain ⟨d0, d1, d2, d3, d4⟩ := op_cells AA.out
          have TM := times_calls wr ⟨ok, os, on, ou, ot⟩
          rw [hT.out] at TM
          unfold POp.val at TM
          simp only at TM
          replace TM := hide TM
          go_wp2_with fail
          refine TM.out.mono ?_
          rintro e w6 ⟨rfl, C6⟩
          have Q36 := hide (Q3.out.keep C6 (fun _ _ => by simp))
          have Q26 := hide (Q2.out.keep C6 (fun _ _ => by simp))
          have A6 := hide (C6.keep AA.out (by simp))
          have B6 := hide (below_chg BB.out D1.out (C6.mono (S' := bs1) (fun b hb => by simp at hb)))
          obtain ⟨d0, d1, d2, d3, d4⟩ := op_cells A6.out
          clear Q3 Q2 BB AA TM C6
          by_cases hlq : q < T
          · have lq : (q : Int) < (T : Int) := by omega
            cases os
            case' false =>
              first
              | (have ST := pair_step Q36.out (Option.some_ne_none _) ⟨ok, false, on, ou, ot⟩
                 unfold POp.val at ST
                 simp only at ST
                 replace ST := hide ST
                 go_wp2_with fail
                 refine ST.out.mono ?_
                 rintro e w7 ⟨rfl, Q7, C7⟩
                 have O7 := hide (Q26.out.keep C7 (fun x h1 h2 => D3.out x h2 h1))
                 have A7 := hide (C7.keep A6.out (pair_notin Q36.out A6.out))
                 have B7 := hide (below_chg B6.out D1.out C7)
                 obtain ⟨d0, d1, d2, d3, d4⟩ := op_cells A7.out
                 replace Q7 := hide Q7
                 clear ST C7 Q36 Q26 B6 A6
                 go_wp2
                 go_roundw
                 case rel => exact ⟨q + 1, by go_num, by omega, Q7, O7, B7, A7⟩
                 case measure => simp [intOf]; omega)
              | (go_wp2
                 go_roundw
                 case rel => exact ⟨q + 1, by go_num, by omega, Q36, Q26, B6, A6⟩
                 case measure => simp [intOf]; omega)
            case' true =>
              first
              | (have ST := pair_step Q26.out (Option.some_ne_none _) ⟨ok, true, on, ou, ot⟩
                 unfold POp.val at ST
                 simp only at ST
                 replace ST := hide ST
                 go_wp2_with fail
                 refine ST.out.mono ?_
                 rintro e w7 ⟨rfl, Q7, C7⟩
                 have O7 := hide (Q36.out.keep C7 (fun x h1 h2 => D3.out x h1 h2))
                 have A7 := hide (C7.keep A6.out (pair_notin Q26.out A6.out))
                 have B7 := hide (below_chg B6.out D2.out C7)
                 obtain ⟨d0, d1, d2, d3, d4⟩ := op_cells A7.out
                 replace Q7 := hide Q7
                 clear ST C7 Q36 Q26 B6 A6
                 go_wp2
                 go_roundw
                 case rel => exact ⟨q + 1, by go_num, by omega, O7, Q7, B7, A7⟩
                 case measure => simp [intOf]; omega)
              | (go_wp2
                 go_roundw
                 case rel => exact ⟨q + 1, by go_num, by omega, Q36, Q26, B6, A6⟩
                 case measure => simp [intOf]; omega)
          · obtain rfl : q = T := by omega
            clear hlq
            go_wp2
            go_roundw
            case rel => exact ⟨j + 1, by go_num, by omega, Q36, Q26, B6⟩
            case measure => simp [intOf]; omega
      · obtain rfl : j = l.length := by omega
        clear hlt hj
        go_wp2
        go_ret
        exact ⟨rfl, BB.out⟩
end Go.Proofs.Ytigbclhkmjcjjaa
