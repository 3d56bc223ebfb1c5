/-
  scan.Quote and scan.Literal, walked to plain words.
-/
import Derived.Test.YtjbalgjdcdmjjaaDoorQuote3
import Derived.Lib.Replace
import Derived.Lib.SplitLaws
namespace Go.Proofs.YtjbalgjdcdmjjaaDoor
open Go.RowKit
set_option linter.unusedVariables false
theorem idx34 : ∀ s : List UInt8, (Lib.index s [34] = -1 ∧ ∀ x, x ∈ s → x ≠ 34) ∨ ∃ a r, s = a ++ 34 :: r ∧ Lib.index s [34] = (a.length : Int) ∧ ∀ x, x ∈ a → x ≠ 34
  | [] => .inl ⟨rfl, by simp⟩
  | b :: t => by
    unfold Lib.index
    by_cases hb : b = 34
    · subst hb
      refine .inr ⟨[], t, rfl, ?_, by simp⟩
      rw [if_pos (by simp [List.isPrefixOf])]
      rfl
    · have hp : ¬ ([34] : List UInt8).isPrefixOf (b :: t) = true := by simpa [List.isPrefixOf] using fun e => hb e.symm
      rw [if_neg hp]
      rcases idx34 t with ⟨h1, h2⟩ | ⟨a, r, h1, h2, h3⟩
      · refine .inl ⟨by rw [h1]; rfl, ?_⟩
        intro x hx
        rcases List.mem_cons.1 hx with rfl | hx
        · exact hb
        · exact h2 x hx
      · refine .inr ⟨b :: a, r, by rw [h1]; rfl, ?_, ?_⟩
        · rw [h2, if_neg (by simp)]
          simp
        · intro x hx
          rcases List.mem_cons.1 hx with rfl | hx
          · exact hb
          · exact h3 x hx
theorem repl34 : ∀ (f : Nat) (s : List UInt8), s.length < f → Lib.replaceK [34] [34, 34] (Lib.countFrom [34] f s) s = S.dbl s
  | 0, s, h => by omega
  | f + 1, s, h => by
    unfold Lib.countFrom
    rcases idx34 s with ⟨h1, h2⟩ | ⟨a, r, h1, h2, h3⟩
    · rw [h1, if_pos (by decide)]
      unfold Lib.replaceK
      rw [S.dbl_plain s h2]
    · rw [h2, if_neg (by simp)]
      have e1 : ((a.length : Int)).toNat = a.length := by omega
      rw [e1, Nat.add_comm 1, Lib.replaceK_hit [34] [34, 34] _ s a.length h2]
      have e2 : s.drop (a.length + [(34 : UInt8)].length) = r := by
        rw [h1]
        simp [List.drop_append]
      rw [e2, repl34 f r (by rw [h1] at h; simp at h; omega)]
      have e3 : s.take a.length = a := by rw [h1]; simp
      rw [e3]
      conv => rhs; rw [h1]
      rw [S.dbl_append, S.dbl_cons, if_pos rfl, S.dbl_plain a h3]
      simp
theorem replaceAll34 (s : List UInt8) : Lib.replaceAll s [34] [34, 34] = S.dbl s := by
  unfold Lib.replaceAll Lib.replace
  rw [if_neg (by decide)]
  unfold Lib.replaceNum
  rw [if_pos (.inl (by decide))]
  exact repl34 _ s (by omega)
/-- The variable that the library keeps lies there. -/
def Mx (w : World) : Prop := ∃ m, w.cell? ⟨2, 0, none⟩ = some (.int .i64 m)
theorem Mx.below {w w' : World} (h : Mx w) (q : Below w.heap.size w w') : Mx w' := by
  obtain ⟨m, h⟩ := h
  exact ⟨m, (q.cell (p := ⟨_, _, none⟩) (World.block_lt_of_cell? w _ h)).trans h⟩
def qv (o : Option (List UInt8)) : Value := .string ⟨(o.getD []).toArray⟩
def qe (o : Option (List UInt8)) : Int := if o.isSome then 0 else 17
theorem bytes_eq {a b : ByteArray} (h : a.data.toList = b.data.toList) : a = b := by
  cases a with
  | mk a => cases b with
    | mk b => simp at h; rw [h]
theorem ret_qv {s : ByteArray} {k : Int} {o : Option (List UInt8)} (h1 : s.data.toList = o.getD []) (h2 : k = qe o) : Ending.returned (.tuple #[.string s, .int .i64 k]) = .returned (.tuple #[qv o, .int .i64 (qe o)]) := by
  rw [h2]
  unfold qv
  rw [show s = ⟨(o.getD []).toArray⟩ from bytes_eq (by rw [h1])]
set_option maxRecDepth 100000 in
set_option maxHeartbeats 1000000 in
theorem clone_calls (w : World) (s : ByteArray) (hl : s.size ≤ 1073741824) : Calls Tryd.prog 85 #[.string s] w fun e w' => e = .returned (.string s) ∧ Below w.heap.size w w' := by
  have q0 := hide (Tryd.stringslite_Clone s w (by omega))
  go_enter Tryd.func85, Tryd.ntmps85
  go_wp2_with (go_at_call 93; refine q0.out.mono ?_; rintro e w1 ⟨rfl, b1⟩; replace b1 := hide b1)
  go_ret
  exact ⟨rfl, b1.out⟩
set_option maxRecDepth 100000 in
set_option maxHeartbeats 1000000 in
theorem quote_calls (w : World) (hc : Cls w) (s : ByteArray) (l : List UInt8) (hs : s.data.toList = l) (hl : l.length ≤ 1073741824) :
    Calls Tryd.prog 67 #[.string s] w fun e w' => e = .returned (.tuple #[qv (S.quo resv l), .int .i64 (qe (S.quo resv l))]) ∧ Below w.heap.size w w' := by
  have hn := size_of s l hs
  have q0 := hide (simple_calls w hc s l hs hl)
  have q1 := hide (fun W => reserved_calls W s l hs)
  have q2 := hide (clone_calls w s (by omega))
  have q3 := hide (writable_calls w hc s l hs hl)
  have q4 := hide (fun W h => containsAny_calls W s l hs hl h)
  obtain ⟨A, hA⟩ : ∃ A, S.smp l = A := ⟨_, rfl⟩
  obtain ⟨B, hB⟩ : ∃ A, resv l = A := ⟨_, rfl⟩
  obtain ⟨C, hC⟩ : ∃ A, S.wr l = A := ⟨_, rfl⟩
  obtain ⟨D, hD⟩ : ∃ A, S.nobar l = A := ⟨_, rfl⟩
  have hq : S.quo resv l = if A && !B then some l else if C && D then some (124 :: (l ++ [124])) else none := by unfold S.quo; rw [hA, hB, hC, hD]
  rw [hq]
  rw [hA] at q0
  rw [hB] at q1
  rw [hC] at q3 q4
  rw [hD] at q4
  have hs' := hide hs
  have m0 : s.size ≤ 1073741824 := by omega
  clear hA hB hC hD hq hc hs hn hl
  unfold bars2 at q4
  by_cases hAB : A = true ∧ B = false
  · obtain ⟨rfl, rfl⟩ := hAB
    go_enter Tryd.func67, Tryd.ntmps67
    go_wp2_with (first
      | (go_at_call 69; refine q0.out.mono ?_; rintro e w1 ⟨rfl, rfl⟩)
      | (go_at_call 84; refine (q1.out _).mono ?_; rintro e w2 ⟨rfl, rfl⟩)
      | (go_at_call 85; refine q2.out.mono ?_; rintro e w3 ⟨rfl, b3⟩; replace b3 := hide b3))
    go_ret2
    exact ⟨ret_qv (by rw [hs'.out]; rfl) rfl, b3.out⟩
  · have hqq : (A && !B) = false := by
      cases A <;> cases B <;> simp_all
    rw [hqq]
    clear hqq q2
    cases A with
    | true =>
      have hBt : B = true := by cases B <;> simp_all
      subst hBt
      clear hAB
      rcases hCD : C with _ | _
      · subst hCD
        go_enter Tryd.func67, Tryd.ntmps67
        go_wp2_with (first
          | (go_at_call 69; refine q0.out.mono ?_; rintro e w1 ⟨rfl, rfl⟩)
          | (go_at_call 84; refine (q1.out _).mono ?_; rintro e w2 ⟨rfl, rfl⟩)
          | (go_at_call 86; refine q3.out.mono ?_; rintro e w3 ⟨rfl, b3⟩; replace b3 := hide b3))
        go_ret2
        exact ⟨ret_qv rfl rfl, b3.out⟩
      · subst hCD
        rcases hDD : D with _ | _
        · subst hDD
          go_enter Tryd.func67, Tryd.ntmps67
          go_wp2_with (first
            | (go_at_call 69; refine q0.out.mono ?_; rintro e w1 ⟨rfl, rfl⟩)
            | (go_at_call 84; refine (q1.out _).mono ?_; rintro e w2 ⟨rfl, rfl⟩)
            | (go_at_call 86; refine q3.out.mono ?_; rintro e w3 ⟨rfl, b3⟩; have q5 := hide (q4.out w3 (by first | trivial | rfl)); replace b3 := hide b3)
            | (go_at_call 87; refine q5.out.mono ?_; rintro e w4 ⟨rfl, b4⟩; replace b4 := hide b4))
          go_ret2
          exact ⟨ret_qv rfl rfl, b3.out.trans (b4.out.mono b3.out.size)⟩
        · subst hDD
          go_enter Tryd.func67, Tryd.ntmps67
          go_wp2_with (first
            | (go_at_call 69; refine q0.out.mono ?_; rintro e w1 ⟨rfl, rfl⟩)
            | (go_at_call 84; refine (q1.out _).mono ?_; rintro e w2 ⟨rfl, rfl⟩)
            | (go_at_call 86; refine q3.out.mono ?_; rintro e w3 ⟨rfl, b3⟩; have q5 := hide (q4.out w3 (by first | trivial | rfl)); replace b3 := hide b3)
            | (go_at_call 87; refine q5.out.mono ?_; rintro e w4 ⟨rfl, b4⟩; replace b4 := hide b4))
          go_ret2
          exact ⟨ret_qv (by simp [hs'.out]) rfl, b3.out.trans (b4.out.mono b3.out.size)⟩
    | false =>
      clear hAB q1
      rcases hCD : C with _ | _
      · subst hCD
        go_enter Tryd.func67, Tryd.ntmps67
        go_wp2_with (first
          | (go_at_call 69; refine q0.out.mono ?_; rintro e w1 ⟨rfl, rfl⟩)
          | (go_at_call 84; refine (q1.out _).mono ?_; rintro e w2 ⟨rfl, rfl⟩)
          | (go_at_call 86; refine q3.out.mono ?_; rintro e w3 ⟨rfl, b3⟩; replace b3 := hide b3))
        go_ret2
        exact ⟨ret_qv rfl rfl, b3.out⟩
      · subst hCD
        rcases hDD : D with _ | _
        · subst hDD
          go_enter Tryd.func67, Tryd.ntmps67
          go_wp2_with (first
            | (go_at_call 69; refine q0.out.mono ?_; rintro e w1 ⟨rfl, rfl⟩)
            | (go_at_call 84; refine (q1.out _).mono ?_; rintro e w2 ⟨rfl, rfl⟩)
            | (go_at_call 86; refine q3.out.mono ?_; rintro e w3 ⟨rfl, b3⟩; have q5 := hide (q4.out w3 (by first | trivial | rfl)); replace b3 := hide b3)
            | (go_at_call 87; refine q5.out.mono ?_; rintro e w4 ⟨rfl, b4⟩; replace b4 := hide b4))
          go_ret2
          exact ⟨ret_qv rfl rfl, b3.out.trans (b4.out.mono b3.out.size)⟩
        · subst hDD
          go_enter Tryd.func67, Tryd.ntmps67
          go_wp2_with (first
            | (go_at_call 69; refine q0.out.mono ?_; rintro e w1 ⟨rfl, rfl⟩)
            | (go_at_call 84; refine (q1.out _).mono ?_; rintro e w2 ⟨rfl, rfl⟩)
            | (go_at_call 86; refine q3.out.mono ?_; rintro e w3 ⟨rfl, b3⟩; have q5 := hide (q4.out w3 (by first | trivial | rfl)); replace b3 := hide b3)
            | (go_at_call 87; refine q5.out.mono ?_; rintro e w4 ⟨rfl, b4⟩; replace b4 := hide b4))
          go_ret2
          exact ⟨ret_qv (by simp [hs'.out]) rfl, b3.out.trans (b4.out.mono b3.out.size)⟩
set_option maxRecDepth 100000 in
set_option maxHeartbeats 1000000 in
theorem literal_calls (w : World) (hc : Cls w) (hm : Mx w) (s : ByteArray) (l : List UInt8) (hs : s.data.toList = l) (hl : l.length ≤ 1073741824) :
    Calls Tryd.prog 68 #[.string s] w fun e w' => e = .returned (.tuple #[qv (S.lit l), .int .i64 (qe (S.lit l))]) ∧ Below w.heap.size w w' := by
  have hn := size_of s l hs
  have q0 := hide (writable_calls w hc s l hs hl)
  have q1 : Hid (∀ W, Mx W → Calls Tryd.prog 88 #[.string s, .string ⟨#[34]⟩, .string ⟨#[34, 34]⟩] W fun e w' => e = .returned (.string ⟨(S.dbl l).toArray⟩) ∧ Below W.heap.size W w') := by
    intro W ⟨m, hW⟩
    have hcnt : Lib.countB s ⟨#[34]⟩ ≤ s.size := by
      show Lib.count s.data.toList [34] ≤ _
      rw [Lib.count_one, hn, hs]
      exact List.count_le_length
    have := Tryd.strings_ReplaceAll s ⟨#[34]⟩ ⟨#[34, 34]⟩ m W (by omega) hW (by decide) (by
      show s.size + Lib.countB s ⟨#[34]⟩ * 2 ≤ _
      omega)
    rw [hs] at this
    have e : Lib.replaceAll l (⟨#[34]⟩ : ByteArray).data.toList (⟨#[34, 34]⟩ : ByteArray).data.toList = S.dbl l := replaceAll34 l
    rw [e] at this
    exact this
  have hmH := hide hm
  obtain ⟨C, hC⟩ : ∃ A, S.wr l = A := ⟨_, rfl⟩
  have hq : S.lit l = if C then some (34 :: (S.dbl l ++ [34])) else none := by unfold S.lit; rw [hC]
  rw [hq]
  rw [hC] at q0
  obtain ⟨X, hX⟩ : ∃ X, S.dbl l = X := ⟨_, rfl⟩
  have m1 := S.dbl_len l
  rw [hX] at q1 m1 ⊢
  obtain ⟨SX, hSX⟩ : ∃ Y : ByteArray, (⟨X.toArray⟩ : ByteArray) = Y := ⟨_, rfl⟩
  have hxl : SX.data.toList = X := by rw [← hSX]
  replace hxl := hide hxl
  have m0 : SX.size ≤ 2147483648 := by
    rw [size_of SX X hxl.out]
    omega
  rw [hSX] at q1
  clear hC hq hc hs hn hl hm hX hSX m1
  rcases hCD : C with _ | _
  · subst hCD
    go_enter Tryd.func68, Tryd.ntmps68
    go_wp2_with (go_at_call 86; refine q0.out.mono ?_; rintro e w3 ⟨rfl, b3⟩; replace b3 := hide b3)
    go_ret2
    exact ⟨ret_qv rfl rfl, b3.out⟩
  · subst hCD
    go_enter Tryd.func68, Tryd.ntmps68
    go_wp2_with (first
      | (go_at_call 86; refine q0.out.mono ?_; rintro e w3 ⟨rfl, b3⟩; have q2 := hide (q1.out w3 (hmH.out.below b3)); replace b3 := hide b3)
      | (go_at_call 88; refine q2.out.mono ?_; rintro e w4 ⟨rfl, b4⟩; replace b4 := hide b4))
    go_ret2
    exact ⟨ret_qv (by simp [hxl.out]) rfl, b3.out.trans (b4.out.mono b3.out.size)⟩
end Go.Proofs.YtjbalgjdcdmjjaaDoor
