/-
  The law CnfReads.
-/
import Derived.Test.YtkdalejceclanaaRdLawA
import Derived.Test.YtkdalejceclanaaRdProg3
namespace Go.Proofs.Ytkdalejceclanaa.RD
set_option linter.unusedVariables false
theorem tailW_bd (t : List UInt8) (P : Nat × Nat → Option Int) (l : List (Nat × Nat)) : (tailW t P l).2.1.length ≤ l.length := by
  cases l with
  | nil => exact Nat.zero_le _
  | cons x r =>
    have := litsW_bd P r
    unfold tailW
    simp only
    split
    · split
      · simp only [List.length_cons]; omega
      · exact Nat.zero_le _
    · exact Nat.zero_le _
theorem bodyW_bd (t : List UInt8) (vars k : Nat) (l : List (Nat × Nat)) : (bodyW t vars k l).2.1.length ≤ l.length ∧ (∀ c ∈ (bodyW t vars k l).2.1, c.length ≤ l.length) ∧ (bodyW t vars k l).2.2.1.length ≤ l.length := by
  obtain ⟨h1, h2⟩ := clsW_bd (PW t vars) k l
  have h3 := tailW_bd t (PW t vars) (clsW (PW t vars) k l).2.2
  unfold bodyW
  split
  · exact ⟨by simp only; omega, h2, by simp only; omega⟩
  · exact ⟨Nat.zero_le _, fun c hc => absurd hc List.not_mem_nil, Nat.zero_le _⟩
theorem wholeW_bd (t : List UInt8) (vars k : Nat) : (wholeW t vars k).2.2.1.length ≤ (ws t 0).length ∧ (∀ c ∈ (wholeW t vars k).2.2.1, c.length ≤ (ws t 0).length) ∧ (wholeW t vars k).2.2.2.1.length ≤ (ws t 0).length := by
  obtain ⟨h1, h2, h3⟩ := bodyW_bd t vars k ((ws t 0).drop 4)
  rw [List.length_drop] at h1 h2 h3
  unfold wholeW
  split
  · exact ⟨Nat.zero_le _, fun c hc => absurd hc List.not_mem_nil, Nat.zero_le _⟩
  · split
    · exact ⟨by simp only; omega, fun c hc => by have := h2 c hc; omega, by simp only; omega⟩
    · exact ⟨Nat.zero_le _, fun c hc => absurd hc List.not_mem_nil, Nat.zero_le _⟩
theorem wholeW_head {t : List UInt8} {vars : Nat} (j k : Nat) (h : headNo t (ws t 0) < 4) : wholeW t vars j = wholeW t vars k := by
  unfold wholeW
  rw [if_pos h, if_pos h]
theorem head3_all {t : List UInt8} {L : List (Nat × Nat)} (h : headNo t L = 4) : head3 t L = true := by
  unfold headNo at h
  cases h0 : head0 t L <;> cases h1 : head1 t L <;> cases h2 : head2 t L <;> cases h3 : head3 t L <;> simp_all
theorem headNo_four (t : List UInt8) (L : List (Nat × Nat)) : headNo t L ≤ 4 := by
  unfold headNo
  cases head0 t L <;> cases head1 t L <;> cases head2 t L <;> cases head3 t L <;> simp
end Go.Proofs.Ytkdalejceclanaa.RD
namespace Go.Proofs.Ytkdalejceclanaa
open Go.RowKit
set_option linter.unusedVariables false
theorem whole_eq (t : List UInt8) (vars : Nat) (hl : (RD.ws t 0).length ≤ 1048577) : RD.wholeW t vars (RD.cntW (RD.ws t 0) (RD.piece t ((RD.ws t 0).getD 3 (0, 0)))) = RD.wholeW t vars (min (RD.val (wordAt t ((RD.ws t 0).drop 3))) RD.top) := by
  by_cases h : 3 < (RD.ws t 0).length
  · rw [wordAt_drop h]
    refine RD.whole_cnt t vars hl (fun h4 => ?_)
    have := RD.head3_all h4
    unfold RD.head3 at this
    rw [RD.numAt_some h] at this
    exact this
  · refine RD.wholeW_head _ _ ?_
    have h4 := RD.headNo_four t (RD.ws t 0)
    rcases Nat.lt_or_ge (RD.headNo t (RD.ws t 0)) 4 with c | c
    · exact c
    · exfalso
      have := RD.head3_all (by omega : RD.headNo t (RD.ws t 0) = 4)
      have e : RD.okAt t (RD.ws t 0) 3 = true := this
      rw [RD.okAt_none (by omega) h] at e
      cases e
/-- What both Reads tell, in one form. -/
def WU (V : Int) (cls : List (List Int)) (tops : List Int) (e0 p0 : Int) (w : World) (e : Ending) (w' : World) : Prop :=
  Below w.heap.size w w' ∧ ∃ ac kc at_ kt vals, e = .returned (.tuple #[.agg #[.int .i64 V, .slice ac cls.length kc, .slice at_ tops.length kt], .int .i64 e0, .int .i64 p0]) ∧ CV w' w.heap.size (.slice ac cls.length kc) vals cls ∧ w'.ownsRow w.heap.size 3 1 (.slice at_ tops.length kt) tops.length (rowI tops)
def WUP (V : Int) (cls : List (List Int)) (tops : List Int) (e0 p0 : Int) (w : World) (e : Ending) (w' : World) : Prop :=
  Below w.heap.size w w' ∧ ∃ ac kc at_ kt vals, e = .returned (.tuple #[.agg #[.int .i64 V, .slice ac cls.length kc, .slice at_ tops.length kt], .int .i64 e0, .int .i64 p0]) ∧ CV w' w.heap.size (.slice ac cls.length kc) vals cls ∧ w'.ownsRow w.heap.size 3 1 (.slice at_ tops.length kt) tops.length (rowI tops) ∧ ∀ i, i < cls.length → (vals.getD i nilS).ownBlock = none ∨ (vals.getD i nilS).ownBlock ≠ (Value.slice at_ tops.length kt).ownBlock
def aV (A : Ans) : Int := if A.1 then (A.2.1 : Int) else 0
def aC (A : Ans) : List (List Int) := if A.1 then A.2.2.1 else []
def aT (A : Ans) : List Int := if A.1 then A.2.2.2.1 else []
def aE (A : Ans) : Int := if A.1 then 0 else 40
def aP (A : Ans) : Int := if A.1 then 0 else (A.2.2.2.2 : Int)
theorem wu_of {A : Ans} {w : World} {e : Ending} {w' : World} (h : WPost A w e w') : WU (aV A) (aC A) (aT A) (aE A) (aP A) w e w' := by
  obtain ⟨b, hy, hn⟩ := h
  refine ⟨b, ?_⟩
  unfold aV aC aT aE aP
  cases hA : A.1
  · exact ⟨none, 0, none, 0, [], hn hA, CV.nil _ _, ⟨rfl, .inl ⟨rfl, rfl⟩⟩⟩
  · obtain ⟨vc, vt, vals, he, C, T⟩ := hy hA
    obtain ⟨ac, kc, rfl⟩ := C.slice
    obtain ⟨at_, kt, rfl⟩ := row_slice T
    exact ⟨ac, kc, at_, kt, vals, he, C, T⟩
theorem wup_of {A : Ans} {w : World} {e : Ending} {w' : World} (h : WPostP A w e w') : WUP (aV A) (aC A) (aT A) (aE A) (aP A) w e w' := by
  obtain ⟨b, hy, hn⟩ := h
  refine ⟨b, ?_⟩
  unfold aV aC aT aE aP
  cases hA : A.1
  · exact ⟨none, 0, none, 0, [], hn hA, CV.nil _ _, ⟨rfl, .inl ⟨rfl, rfl⟩⟩, fun i hi => absurd hi (Nat.not_lt_zero _)⟩
  · obtain ⟨vc, vt, vals, he, C, T, N⟩ := hy hA
    obtain ⟨ac, kc, rfl⟩ := C.slice
    obtain ⟨at_, kt, rfl⟩ := row_slice T
    exact ⟨ac, kc, at_, kt, vals, he, C, T, N⟩
theorem getD_bd {cls : List (List Int)} {n : Nat} (h : ∀ c ∈ cls, c.length ≤ n) (j : Nat) : (cls.getD j []).length ≤ n := by
  rw [List.getD_eq_getElem?_getD]
  by_cases hj : j < cls.length
  · rw [List.getElem?_eq_getElem hj]
    exact h _ (List.getElem_mem hj)
  · rw [List.getElem?_eq_none (by omega)]
    exact Nat.zero_le _
theorem csA_bd {cls : List (List Int)} {tops : List Int} {n : Nat} (h : ∀ c ∈ cls, c.length ≤ n) (h2 : tops.length ≤ n) (i : Nat) : (csA cls tops [] i).length ≤ n := by
  unfold csA
  split
  · exact getD_bd h i
  · split
    · exact h2
    · exact Nat.zero_le _
set_option maxRecDepth 100000 in
set_option maxHeartbeats 8000000 in
theorem cnfReads_calls (w : World) (s : ByteArray) (t : List UInt8) (hs : s.data.toList = t) (hl : t.length ≤ 1048576) :
    Calls Try.prog 5 #[.string s] w fun e w' => e = .returned (.bool true) ∧ Below w.heap.size w w' := by
  have LB := ws_len t 0
  obtain ⟨A, hA⟩ : ∃ A, RD.wholeW t (RD.valAt t (RD.ws t 0) 2) (RD.cntW (RD.ws t 0) (RD.piece t ((RD.ws t 0).getD 3 (0, 0)))) = A := ⟨_, rfl⟩
  have rq := fun W => rread_calls W s t hs hl
  have pq := fun W => cread_calls W s t hs hl
  have bd := RD.wholeW_bd t (RD.valAt t (RD.ws t 0) 2) (RD.cntW (RD.ws t 0) (RD.piece t ((RD.ws t 0).getD 3 (0, 0))))
  rw [← whole_eq t _ (by omega)] at pq
  rw [hA] at rq pq bd
  obtain ⟨b1, b2, b3⟩ := bd
  have BD : Hid ((aC A).length ≤ 1048577 ∧ (∀ c ∈ aC A, c.length ≤ 1048577) ∧ (aT A).length ≤ 1048577) := by
    unfold aC aT
    cases A.1
    · exact ⟨Nat.zero_le _, fun c hc => absurd hc List.not_mem_nil, Nat.zero_le _⟩
    · exact ⟨by simp only [if_true]; omega, fun c hc => by have := b2 c hc; omega, by simp only [if_true]; omega⟩
  have RQ := hide (fun W => (rq W).mono (fun e w' h => wu_of h))
  have PQ := hide (fun W => (pq W).mono (fun e w' h => wup_of h))
  clear hA rq pq b1 b2 b3 LB hs
  generalize aV A = V at *
  generalize aC A = cls at *
  generalize aT A = tops at *
  generalize aE A = e0 at *
  generalize aP A = p0 at *
  go_enter Try.func5, Try.ntmps5
  go_upto_region 2 with (go_at_call 24; refine (RQ.out _).mono ?_; intro e w1 hp; obtain ⟨B1, ac, kc, at_, kt, vals, rfl, C1, T1⟩ := hp; replace B1 := hide B1; replace C1 := hide C1; replace T1 := hide T1)
  have AL := hide ((Below.refl w1.heap.size w1).alloc (Nat.le_refl _) (.cells #[.int .i64 V, .slice ac cls.length kc, .slice at_ tops.length kt] 25))
  have B2 := hide (B1.out.then_below AL.out)
  have D2 := hide (B3.new w1 (.int .i64 V) (.slice ac cls.length kc) (.slice at_ tops.length kt))
  have C2 := hide (C1.out.below AL.out)
  have T2 := hide (row_below T1.out AL.out)
  clear B1 C1 T1 AL RQ
  generalize w1.alloc (.cells #[.int .i64 V, .slice ac cls.length kc, .slice at_ tops.length kt] 25) = w2 at *
  generalize w1.heap.size = g1 at *
  go_upto_region 3 with (go_at_call 25; refine (PQ.out _).mono ?_; intro e w3 hp; obtain ⟨B3', ac', kc', at', kt', vals', rfl, C3, T3, NE⟩ := hp; replace B3' := hide B3'; replace C3 := hide C3; replace T3 := hide T3; replace NE := hide NE)
  have AL := hide ((Below.refl w3.heap.size w3).alloc (Nat.le_refl _) (.cells #[.int .i64 V, .slice ac' cls.length kc', .slice at' tops.length kt'] 25))
  have Bq := hide (B3'.out.then_below AL.out)
  have N4 := hide (B3.new w3 (.int .i64 V) (.slice ac' cls.length kc') (.slice at' tops.length kt'))
  have D4 := hide (D2.out.keep Bq.out)
  have C4 := hide (C2.out.below Bq.out)
  have T4 := hide (row_below T2.out Bq.out)
  have C4' := hide (C3.out.below AL.out)
  have T4' := hide (row_below T3.out AL.out)
  have B4 := hide (B2.out.then_below Bq.out)
  have s2 := hide B2.out.size
  have s4 := hide Bq.out.size
  clear B2 D2 C2 T2 C3 T3 AL Bq B3' PQ
  generalize w3.alloc (.cells #[.int .i64 V, .slice ac' cls.length kc', .slice at' tops.length kt'] 25) = w4 at *
  generalize w3.heap.size = g3 at *
  obtain ⟨d0, d1, d2, z0, z1, z2⟩ := D4.out.cells
  obtain ⟨f0, f1, f2, y0, y1, y2⟩ := N4.out.cells
  have hm : ∀ j, j < cls.length → (cls.getD j []).length ≤ 35184372088832 := fun j _ => Nat.le_trans (getD_bd BD.out.2.1 j) (by omega)
  have sq := hide (rsame_calls w4 V _ _ _ _ cls tops (ci_of C4'.out (by have := BD.out.1; omega) hm) (ci_of C4.out (by have := BD.out.1; omega) hm) (iv_of T4'.out (by have := BD.out.2.2; omega)) (iv_of T4.out (by have := BD.out.2.2; omega)))
  have te : (e0 == e0) = true := by simp
  have tp : (p0 == p0) = true := by simp
  clear hm
  go_wp2_with (first
    | (go_at_call 26; refine sq.out.mono ?_; rintro e w5 ⟨rfl, b5⟩; obtain ⟨g0, g1', g2, x0, x1, x2⟩ := (N4.out.keep b5).cells; replace b5 := hide b5)
    | (go_at_call 27; refine (lapart_calls w5 w2.heap.size V _ _ (.slice none 0 0) vals' cls tops [] (C4'.out.below b5.out) (row_below T4'.out b5.out) ⟨rfl, .inl ⟨rfl, rfl⟩⟩ NE.out (fun i _ => own_ne_nil _) (own_ne_nil _) (by have := s4.out; have := b5.out.size; omega) (by have := BD.out.1; omega) (fun i => Nat.le_trans (csA_bd BD.out.2.1 BD.out.2.2 i) (by omega))).mono ?_; rintro e w6 ⟨rfl, b6⟩; replace b6 := hide b6))
  go_ret
  exact ⟨rfl, (B4.out.then_below b5.out).trans (b6.out.mono s2.out)⟩
end Go.Proofs.Ytkdalejceclanaa
