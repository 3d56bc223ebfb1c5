/- Laid together of: Quote4, JoinMath. -/
import Derived.Test.YtackibimlpkcmaaGreatDoorKz20
import Derived.Lib.Replace
import Derived.Lib.SplitLaws
import Derived.Test.YtackibimlpkcmaaGreatDoorKz19
/- ==== Quote4 ==== -/
namespace Go.Proofs.YtackibimlpkcmaaGreatDoor
open Go.RowKit
set_option linter.unusedVariables false
theorem idx34 : ∀ s : List UInt8, (Lib.index s [34] = -1 ∧ ∀ x, x ∈ s → x ≠ 34) ∨ ∃ a r, s = a ++ 34 :: r ∧ Lib.index s [34] = (a.length : Int) ∧ ∀ x, x ∈ a → x ≠ 34
  | [] => .inl ⟨rfl, by simp⟩
  | b :: t => by
    unfold Lib.index
    by_cases hb : b = 34
    · subst hb
      refine .inr ⟨[], t, rfl, ?_, by simp⟩
      rw [if_pos (by simp [List.isPrefixOf])]
      rfl
    · have hp : ¬ ([34] : List UInt8).isPrefixOf (b :: t) = true := by simpa [List.isPrefixOf] using fun e => hb e.symm
      rw [if_neg hp]
      rcases idx34 t with ⟨h1, h2⟩ | ⟨a, r, h1, h2, h3⟩
      · refine .inl ⟨by rw [h1]; rfl, ?_⟩
        intro x hx
        rcases List.mem_cons.1 hx with rfl | hx
        · exact hb
        · exact h2 x hx
      · refine .inr ⟨b :: a, r, by rw [h1]; rfl, ?_, ?_⟩
        · rw [h2, if_neg (by simp)]
          simp
        · intro x hx
          rcases List.mem_cons.1 hx with rfl | hx
          · exact hb
          · exact h3 x hx
theorem repl34 : ∀ (f : Nat) (s : List UInt8), s.length < f → Lib.replaceK [34] [34, 34] (Lib.countFrom [34] f s) s = S.dbl s
  | 0, s, h => by omega
  | f + 1, s, h => by
    unfold Lib.countFrom
    rcases idx34 s with ⟨h1, h2⟩ | ⟨a, r, h1, h2, h3⟩
    · rw [h1, if_pos (by decide)]
      unfold Lib.replaceK
      rw [S.dbl_plain s h2]
    · rw [h2, if_neg (by simp)]
      have e1 : ((a.length : Int)).toNat = a.length := by omega
      rw [e1, Nat.add_comm 1, Lib.replaceK_hit [34] [34, 34] _ s a.length h2]
      have e2 : s.drop (a.length + [(34 : UInt8)].length) = r := by
        rw [h1]
        simp [List.drop_append]
      rw [e2, repl34 f r (by rw [h1] at h; simp at h; omega)]
      have e3 : s.take a.length = a := by rw [h1]; simp
      rw [e3]
      conv => rhs; rw [h1]
      rw [S.dbl_append, S.dbl_cons, if_pos rfl, S.dbl_plain a h3]
      simp
theorem replaceAll34 (s : List UInt8) : Lib.replaceAll s [34] [34, 34] = S.dbl s := by
  unfold Lib.replaceAll Lib.replace
  rw [if_neg (by decide)]
  unfold Lib.replaceNum
  rw [if_pos (.inl (by decide))]
  exact repl34 _ s (by omega)
/-- The variable that the library keeps lies there. -/
def Mx (w : World) : Prop := ∃ m, w.cell? ⟨2, 0, none⟩ = some (.int .i64 m)
theorem Mx.below {w w' : World} (h : Mx w) (q : Below w.heap.size w w') : Mx w' := by
  obtain ⟨m, h⟩ := h
  exact ⟨m, (q.cell (p := ⟨_, _, none⟩) (World.block_lt_of_cell? w _ h)).trans h⟩
def qv (o : Option (List UInt8)) : Value := .string ⟨(o.getD []).toArray⟩
def qe (o : Option (List UInt8)) : Int := if o.isSome then 0 else 17
theorem bytes_eq {a b : ByteArray} (h : a.data.toList = b.data.toList) : a = b := by
  cases a with
  | mk a => cases b with
    | mk b => simp at h; rw [h]
theorem ret_qv {s : ByteArray} {k : Int} {o : Option (List UInt8)} (h1 : s.data.toList = o.getD []) (h2 : k = qe o) : Ending.returned (.tuple #[.string s, .int .i64 k]) = .returned (.tuple #[qv o, .int .i64 (qe o)]) := by
  rw [h2]
  unfold qv
  rw [show s = ⟨(o.getD []).toArray⟩ from bytes_eq (by rw [h1])]
set_option maxRecDepth 100000 in
set_option maxHeartbeats 1000000 in
theorem clone_calls (w : World) (s : ByteArray) (hl : s.size ≤ 1073741824) : Calls Tryz.prog 61 #[.string s] w fun e w' => e = .returned (.string s) ∧ Below w.heap.size w w' := by
  have q0 := hide (Tryz.stringslite_Clone s w (by omega))
  go_enter Tryz.func61, Tryz.ntmps61
  go_wp2_with (go_at_call 76; refine q0.out.mono ?_; rintro e w1 ⟨rfl, b1⟩; replace b1 := hide b1)
  go_ret
  exact ⟨rfl, b1.out⟩
set_option maxRecDepth 100000 in
set_option maxHeartbeats 1000000 in
theorem quote_calls (w : World) (hc : Cls w) (s : ByteArray) (l : List UInt8) (hs : s.data.toList = l) (hl : l.length ≤ 1073741824) :
    Calls Tryz.prog 39 #[.string s] w fun e w' => e = .returned (.tuple #[qv (S.quo resv l), .int .i64 (qe (S.quo resv l))]) ∧ Below w.heap.size w w' := by
  have hn := size_of s l hs
  have q0 := hide (simple_calls w hc s l hs hl)
  have q1 := hide (fun W => reserved_calls W s l hs)
  have q2 := hide (clone_calls w s (by omega))
  have q3 := hide (writable_calls w hc s l hs hl)
  have q4 := hide (fun W h => containsAny_calls W s l hs hl h)
  obtain ⟨A, hA⟩ : ∃ A, S.smp l = A := ⟨_, rfl⟩
  obtain ⟨B, hB⟩ : ∃ A, resv l = A := ⟨_, rfl⟩
  obtain ⟨C, hC⟩ : ∃ A, S.wr l = A := ⟨_, rfl⟩
  obtain ⟨D, hD⟩ : ∃ A, S.nobar l = A := ⟨_, rfl⟩
  have hq : S.quo resv l = if A && !B then some l else if C && D then some (124 :: (l ++ [124])) else none := by unfold S.quo; rw [hA, hB, hC, hD]
  rw [hq]
  rw [hA] at q0
  rw [hB] at q1
  rw [hC] at q3 q4
  rw [hD] at q4
  have hs' := hide hs
  have m0 : s.size ≤ 1073741824 := by omega
  clear hA hB hC hD hq hc hs hn hl
  unfold bars2 at q4
  by_cases hAB : A = true ∧ B = false
  · obtain ⟨rfl, rfl⟩ := hAB
    go_enter Tryz.func39, Tryz.ntmps39
    go_wp2_with (first
      | (go_at_call 41; refine q0.out.mono ?_; rintro e w1 ⟨rfl, rfl⟩)
      | (go_at_call 60; refine (q1.out _).mono ?_; rintro e w2 ⟨rfl, rfl⟩)
      | (go_at_call 61; refine q2.out.mono ?_; rintro e w3 ⟨rfl, b3⟩; replace b3 := hide b3))
    go_ret2
    exact ⟨ret_qv (by rw [hs'.out]; rfl) rfl, b3.out⟩
  · have hqq : (A && !B) = false := by
      cases A <;> cases B <;> simp_all
    rw [hqq]
    clear hqq q2
    cases A with
    | true =>
      have hBt : B = true := by cases B <;> simp_all
      subst hBt
      clear hAB
      rcases hCD : C with _ | _
      · subst hCD
        go_enter Tryz.func39, Tryz.ntmps39
        go_wp2_with (first
          | (go_at_call 41; refine q0.out.mono ?_; rintro e w1 ⟨rfl, rfl⟩)
          | (go_at_call 60; refine (q1.out _).mono ?_; rintro e w2 ⟨rfl, rfl⟩)
          | (go_at_call 62; refine q3.out.mono ?_; rintro e w3 ⟨rfl, b3⟩; replace b3 := hide b3))
        go_ret2
        exact ⟨ret_qv rfl rfl, b3.out⟩
      · subst hCD
        rcases hDD : D with _ | _
        · subst hDD
          go_enter Tryz.func39, Tryz.ntmps39
          go_wp2_with (first
            | (go_at_call 41; refine q0.out.mono ?_; rintro e w1 ⟨rfl, rfl⟩)
            | (go_at_call 60; refine (q1.out _).mono ?_; rintro e w2 ⟨rfl, rfl⟩)
            | (go_at_call 62; refine q3.out.mono ?_; rintro e w3 ⟨rfl, b3⟩; have q5 := hide (q4.out w3 (by first | trivial | rfl)); replace b3 := hide b3)
            | (go_at_call 63; refine q5.out.mono ?_; rintro e w4 ⟨rfl, b4⟩; replace b4 := hide b4))
          go_ret2
          exact ⟨ret_qv rfl rfl, b3.out.trans (b4.out.mono b3.out.size)⟩
        · subst hDD
          go_enter Tryz.func39, Tryz.ntmps39
          go_wp2_with (first
            | (go_at_call 41; refine q0.out.mono ?_; rintro e w1 ⟨rfl, rfl⟩)
            | (go_at_call 60; refine (q1.out _).mono ?_; rintro e w2 ⟨rfl, rfl⟩)
            | (go_at_call 62; refine q3.out.mono ?_; rintro e w3 ⟨rfl, b3⟩; have q5 := hide (q4.out w3 (by first | trivial | rfl)); replace b3 := hide b3)
            | (go_at_call 63; refine q5.out.mono ?_; rintro e w4 ⟨rfl, b4⟩; replace b4 := hide b4))
          go_ret2
          exact ⟨ret_qv (by simp [hs'.out]) rfl, b3.out.trans (b4.out.mono b3.out.size)⟩
    | false =>
      clear hAB q1
      rcases hCD : C with _ | _
      · subst hCD
        go_enter Tryz.func39, Tryz.ntmps39
        go_wp2_with (first
          | (go_at_call 41; refine q0.out.mono ?_; rintro e w1 ⟨rfl, rfl⟩)
          | (go_at_call 60; refine (q1.out _).mono ?_; rintro e w2 ⟨rfl, rfl⟩)
          | (go_at_call 62; refine q3.out.mono ?_; rintro e w3 ⟨rfl, b3⟩; replace b3 := hide b3))
        go_ret2
        exact ⟨ret_qv rfl rfl, b3.out⟩
      · subst hCD
        rcases hDD : D with _ | _
        · subst hDD
          go_enter Tryz.func39, Tryz.ntmps39
          go_wp2_with (first
            | (go_at_call 41; refine q0.out.mono ?_; rintro e w1 ⟨rfl, rfl⟩)
            | (go_at_call 60; refine (q1.out _).mono ?_; rintro e w2 ⟨rfl, rfl⟩)
            | (go_at_call 62; refine q3.out.mono ?_; rintro e w3 ⟨rfl, b3⟩; have q5 := hide (q4.out w3 (by first | trivial | rfl)); replace b3 := hide b3)
            | (go_at_call 63; refine q5.out.mono ?_; rintro e w4 ⟨rfl, b4⟩; replace b4 := hide b4))
          go_ret2
          exact ⟨ret_qv rfl rfl, b3.out.trans (b4.out.mono b3.out.size)⟩
        · subst hDD
          go_enter Tryz.func39, Tryz.ntmps39
          go_wp2_with (first
            | (go_at_call 41; refine q0.out.mono ?_; rintro e w1 ⟨rfl, rfl⟩)
            | (go_at_call 60; refine (q1.out _).mono ?_; rintro e w2 ⟨rfl, rfl⟩)
            | (go_at_call 62; refine q3.out.mono ?_; rintro e w3 ⟨rfl, b3⟩; have q5 := hide (q4.out w3 (by first | trivial | rfl)); replace b3 := hide b3)
            | (go_at_call 63; refine q5.out.mono ?_; rintro e w4 ⟨rfl, b4⟩; replace b4 := hide b4))
          go_ret2
          exact ⟨ret_qv (by simp [hs'.out]) rfl, b3.out.trans (b4.out.mono b3.out.size)⟩
set_option maxRecDepth 100000 in
set_option maxHeartbeats 1000000 in
theorem literal_calls (w : World) (hc : Cls w) (hm : Mx w) (s : ByteArray) (l : List UInt8) (hs : s.data.toList = l) (hl : l.length ≤ 1073741824) :
    Calls Tryz.prog 40 #[.string s] w fun e w' => e = .returned (.tuple #[qv (S.lit l), .int .i64 (qe (S.lit l))]) ∧ Below w.heap.size w w' := by
  have hn := size_of s l hs
  have q0 := hide (writable_calls w hc s l hs hl)
  have q1 : Hid (∀ W, Mx W → Calls Tryz.prog 64 #[.string s, .string ⟨#[34]⟩, .string ⟨#[34, 34]⟩] W fun e w' => e = .returned (.string ⟨(S.dbl l).toArray⟩) ∧ Below W.heap.size W w') := by
    intro W ⟨m, hW⟩
    have hcnt : Lib.countB s ⟨#[34]⟩ ≤ s.size := by
      show Lib.count s.data.toList [34] ≤ _
      rw [Lib.count_one, hn, hs]
      exact List.count_le_length
    have := Tryz.strings_ReplaceAll s ⟨#[34]⟩ ⟨#[34, 34]⟩ m W (by omega) hW (by decide) (by
      show s.size + Lib.countB s ⟨#[34]⟩ * 2 ≤ _
      omega)
    rw [hs] at this
    have e : Lib.replaceAll l (⟨#[34]⟩ : ByteArray).data.toList (⟨#[34, 34]⟩ : ByteArray).data.toList = S.dbl l := replaceAll34 l
    rw [e] at this
    exact this
  have hmH := hide hm
  obtain ⟨C, hC⟩ : ∃ A, S.wr l = A := ⟨_, rfl⟩
  have hq : S.lit l = if C then some (34 :: (S.dbl l ++ [34])) else none := by unfold S.lit; rw [hC]
  rw [hq]
  rw [hC] at q0
  obtain ⟨X, hX⟩ : ∃ X, S.dbl l = X := ⟨_, rfl⟩
  have m1 := S.dbl_len l
  rw [hX] at q1 m1 ⊢
  obtain ⟨SX, hSX⟩ : ∃ Y : ByteArray, (⟨X.toArray⟩ : ByteArray) = Y := ⟨_, rfl⟩
  have hxl : SX.data.toList = X := by rw [← hSX]
  replace hxl := hide hxl
  have m0 : SX.size ≤ 2147483648 := by
    rw [size_of SX X hxl.out]
    omega
  rw [hSX] at q1
  clear hC hq hc hs hn hl hm hX hSX m1
  rcases hCD : C with _ | _
  · subst hCD
    go_enter Tryz.func40, Tryz.ntmps40
    go_wp2_with (go_at_call 62; refine q0.out.mono ?_; rintro e w3 ⟨rfl, b3⟩; replace b3 := hide b3)
    go_ret2
    exact ⟨ret_qv rfl rfl, b3.out⟩
  · subst hCD
    go_enter Tryz.func40, Tryz.ntmps40
    go_wp2_with (first
      | (go_at_call 62; refine q0.out.mono ?_; rintro e w3 ⟨rfl, b3⟩; have q2 := hide (q1.out w3 (hmH.out.below b3)); replace b3 := hide b3)
      | (go_at_call 64; refine q2.out.mono ?_; rintro e w4 ⟨rfl, b4⟩; replace b4 := hide b4))
    go_ret2
    exact ⟨ret_qv (by simp [hxl.out]) rfl, b3.out.trans (b4.out.mono b3.out.size)⟩
end Go.Proofs.YtackibimlpkcmaaGreatDoor
/- ==== JoinMath ==== -/
namespace Go.Proofs.YtackibimlpkcmaaGreatDoor.S
set_option linter.unusedVariables false
/-- What holds of each token. -/
def Tk (t : Tok) : Prop := (t.kind ≠ 3 → t.kind ≠ 9 → t.kind ≠ 10 → t.beg + t.text.length = t.fin) ∧ 1 ≤ t.kind ∧ t.kind ≤ 10 ∧ (t.kind = 1 → t.text = [40]) ∧ (t.kind = 2 → t.text = [41])
def InvL (i : Nat) : St → Prop
  | .inr (.inl (k, g, a)) => (k = 3 ∧ g + a.length = i) ∨ k = 10
  | .inr (.inr (.inr (.inl (g, a)))) => g + a.length = i
  | .inr (.inr (.inr (.inr (.inl (g, a))))) => g + a.length = i
  | .inr (.inr (.inr (.inr (.inr (.inl g))))) => g + 1 = i
  | .inr (.inr (.inr (.inr (.inr (.inr (.inl (k, _, g, a))))))) => 6 ≤ k ∧ k ≤ 8 ∧ g + a.length = i
  | .inr (.inr (.inr (.inr (.inr (.inr (.inr (.inl (k, _, g, a)))))))) => 6 ≤ k ∧ k ≤ 8 ∧ g + a.length = i
  | _ => True
def Res.okL (i : Nat) : Res → Prop
  | .inl (ts, q) => InvL (i + 1) q ∧ ∀ t, t ∈ ts → Tk t
  | .inr (ts, _, _) => ∀ t, t ∈ ts → Tk t
theorem okL_pre (i : Nat) (ts : List Tok) (r : Res) (h : ∀ t, t ∈ ts → Tk t) (hr : r.okL i) : (r.pre ts).okL i := by
  rcases r with ⟨a, q⟩ | ⟨a, e, p⟩
  · refine ⟨hr.1, ?_⟩
    intro t ht
    rcases List.mem_append.mp ht with ht | ht
    · exact h t ht
    · exact hr.2 t ht
  · intro t ht
    rcases List.mem_append.mp ht with ht | ht
    · exact h t ht
    · exact hr t ht
theorem okL_go {i : Nat} {q : St} (h : InvL (i + 1) q) : Res.okL i (.go [] q) := ⟨h, by intro t ht; simp at ht⟩
theorem okL_err {i e p : Nat} : Res.okL i (.err [] e p) := by intro t ht; simp at ht
variable (res : List UInt8 → Bool)
theorem tk_name {k g i : Nat} {a : List UInt8} (h : (k = 3 ∧ g + a.length = i) ∨ k = 10) : ∀ t, t ∈ [tok res k g i a] → Tk t := by
  intro t ht
  rw [List.mem_singleton] at ht
  subst ht
  unfold tok word Tk
  simp only
  rcases h with ⟨rfl, h⟩ | rfl
  · by_cases hr : res a = true
    · rw [if_pos ⟨rfl, hr⟩]
      exact ⟨fun _ _ _ => h, by simp, by simp, by simp, by simp⟩
    · rw [if_neg (by simp [hr])]
      exact ⟨fun c => absurd rfl c, by simp, by simp, by simp, by simp⟩
  · rw [if_neg (by simp)]
    exact ⟨fun _ _ c => absurd rfl c, by simp, by simp, by simp, by simp⟩
theorem tk_num {k g i : Nat} {a : List UInt8} (h1 : 5 ≤ k) (h2 : k ≤ 8) (h : g + a.length = i) : ∀ t, t ∈ [tok res k g i a] → Tk t := by
  intro t ht
  rw [List.mem_singleton] at ht
  subst ht
  unfold tok word Tk
  simp only
  rw [if_neg (by omega)]
  exact ⟨fun _ _ _ => h, by omega, by omega, by omega, by omega⟩
theorem tk_str {g i : Nat} {a : List UInt8} : ∀ t, t ∈ [tok res 9 g i a] → Tk t := by
  intro t ht
  rw [List.mem_singleton] at ht
  subst ht
  unfold tok word Tk
  simp only
  rw [if_neg (by simp)]
  exact ⟨fun _ c => absurd rfl c, by simp, by simp, by simp, by simp⟩
theorem stepIdle_okL (b : UInt8) (i : Nat) : (stepIdle b i).okL i := by
  unfold stepIdle
  repeat' split
  all_goals first
    | exact okL_err
    | exact okL_go (by simp [InvL])
    | (refine ⟨trivial, ?_⟩; intro t ht; rw [List.mem_singleton] at ht; subst ht; unfold Tk; simp)
theorem behindNumber_okL (k g : Nat) (a : List UInt8) (b : UInt8) (i : Nat) (h1 : 5 ≤ k) (h2 : k ≤ 8) (h : g + a.length = i) : (behindNumber res k g a b i).okL i := by
  unfold behindNumber
  split
  · exact okL_err
  · exact okL_pre _ _ _ (tk_num res h1 h2 h) (stepIdle_okL b i)
theorem stepZero_okL (g : Nat) (a : List UInt8) (b : UInt8) (i : Nat) (h : g + a.length = i) : (stepZero res g a b i).okL i := by
  unfold stepZero
  split
  · refine okL_go ?_
    show 6 ≤ 6 ∧ 6 ≤ 8 ∧ g + (a ++ [b]).length = i + 1
    simp
    omega
  · exact behindNumber_okL res 5 g a b i (by decide) (by decide) h
theorem content_okL (c : Cont) (b : UInt8) (i : Nat) : (content c b i).okL i := by
  unfold content
  repeat' split
  all_goals first
    | exact okL_err
    | exact okL_go trivial
theorem step_okL (q : St) (b : UInt8) (i : Nat) (h : InvL i q) : (step res q b i).okL i := by
  rcases q with _ | ⟨k, g, a⟩ | g | ⟨g, a⟩ | ⟨g, a⟩ | g | ⟨k, m, g, a⟩ | ⟨k, m, g, a⟩ | ⟨g, a⟩ | c | ⟨c, p, n, lo, hi⟩
  · exact stepIdle_okL b i
  · show Res.okL i (if sym b then _ else _)
    split
    · refine okL_go ?_
      rcases h with ⟨h1, h2⟩ | h
      · exact .inl ⟨h1, by simp; omega⟩
      · exact .inr h
    · exact okL_pre _ _ _ (tk_name res h) (stepIdle_okL b i)
  · show Res.okL i (if _ then _ else _)
    split
    · exact okL_go (.inr rfl)
    · exact okL_err
  · have h : g + a.length = i := h
    show Res.okL i (if dig b then _ else _)
    split
    · refine okL_go ?_
      show g + (a ++ [b]).length = i + 1
      simp
      omega
    · exact stepZero_okL res g a b i h
  · exact stepZero_okL res g a b i h
  · have h : g + 1 = i := h
    show Res.okL i (if b = 120 then _ else if b = 98 then _ else _)
    repeat' split
    · exact okL_go ⟨by decide, by decide, by simp; omega⟩
    · exact okL_go ⟨by decide, by decide, by simp; omega⟩
    · exact okL_err
  · obtain ⟨h1, h2, h3⟩ := h
    show Res.okL i (if inMost m b then _ else _)
    split
    · exact okL_go ⟨h1, h2, by simp; omega⟩
    · exact okL_err
  · obtain ⟨h1, h2, h3⟩ := h
    show Res.okL i (if inMost m b then _ else _)
    split
    · exact okL_go ⟨h1, h2, by simp; omega⟩
    · exact behindNumber_okL res k g a b i (by omega) h2 h3
  · show Res.okL i (if b = 34 then _ else _)
    split
    · exact okL_go trivial
    · exact okL_pre _ _ _ (tk_str res) (stepIdle_okL b i)
  · rcases c with _ | ⟨g, a⟩ | ⟨g, a⟩
    · show Res.okL i (if _ then _ else _)
      split
      · exact okL_go trivial
      · exact content_okL _ b i
    · show Res.okL i (if _ then _ else _)
      split
      · exact okL_go trivial
      · exact content_okL (.str g a) b i
    · show Res.okL i (if b = 124 then _ else if b = 92 then _ else _)
      repeat' split
      · refine ⟨trivial, ?_⟩
        intro t ht
        rw [List.mem_singleton] at ht
        subst ht
        exact ⟨fun c => absurd rfl c, by simp, by simp, by simp, by simp⟩
      · exact okL_err
      · exact content_okL (.bars g a) b i
  · show Res.okL i (if _ then _ else if n = 1 then _ else _)
    repeat' split
    · exact okL_err
    · exact okL_go trivial
    · exact okL_go trivial
theorem stop_okL (q : St) (i : Nat) (h : InvL i q) : ∀ t, t ∈ (stop res q i).1 → Tk t := by
  rcases q with _ | ⟨k, g, a⟩ | g | ⟨g, a⟩ | ⟨g, a⟩ | g | ⟨k, m, g, a⟩ | ⟨k, m, g, a⟩ | ⟨g, a⟩ | (_ | ⟨g, a⟩ | ⟨g, a⟩) | ⟨c, p, n, lo, hi⟩
  · intro t ht; simp [stop] at ht
  · exact tk_name res h
  · intro t ht; simp [stop] at ht
  · exact tk_num res (by decide) (by decide) h
  · exact tk_num res (by decide) (by decide) h
  · intro t ht; simp [stop] at ht
  · intro t ht; simp [stop] at ht
  · exact tk_num res (by have := h.1; omega) h.2.1 h.2.2
  · exact tk_str res
  all_goals (intro t ht; simp [stop] at ht)
theorem run_okL : ∀ (l : List UInt8) (q : St) (i : Nat), InvL i q → ∀ t, t ∈ (run res q l i).1 → Tk t
  | [], q, i, h => stop_okL res q i h
  | b :: l, q, i, h => by
    have hf := step_okL res q b i h
    rcases hs : step res q b i with ⟨ts, q'⟩ | ⟨ts, e, p⟩
    · rw [hs] at hf
      rw [run_go res hs]
      intro t ht
      rcases List.mem_append.mp ht with ht | ht
      · exact hf.2 t ht
      · exact run_okL l q' (i + 1) hf.1 t ht
    · rw [hs] at hf
      rw [run_err res hs]
      exact hf
/-- A blank or a closing parenthesis behind a token that may end there. -/
def Dl (r : List UInt8) : Prop := r = [] ∨ ∃ t, r = 32 :: t ∨ r = 41 :: t
theorem sym32 : sym 32 = false := by decide
theorem sym41 : sym 41 = false := by decide
theorem inMost_dl (m : Nat) (c : UInt8) (hc : c = 32 ∨ c = 41) : inMost m c = false := by
  unfold inMost
  rcases hc with rfl | rfl
  · by_cases h0 : m = 0
    · rw [if_pos h0]; decide
    · rw [if_neg h0]
      by_cases h1 : m = 1
      · rw [if_pos h1]; decide
      · rw [if_neg h1]; decide
  · by_cases h0 : m = 0
    · rw [if_pos h0]; decide
    · rw [if_neg h0]
      by_cases h1 : m = 1
      · rw [if_pos h1]; decide
      · rw [if_neg h1]; decide
/-- A delimiter ends what may end. -/
theorem step_dl (q : St) (c : UInt8) (i : Nat) (hc : c = 32 ∨ c = 41) (h : (stop res q i).2.1 = 0) (hne : (stop res q i).1 ≠ []) : step res q c i = (stepIdle c i).pre (stop res q i).1 := by
  have hs : sym c = false := by rcases hc with rfl | rfl <;> decide
  have hd : dig c = false := by rcases hc with rfl | rfl <;> decide
  have h46 : c ≠ 46 := by rcases hc with rfl | rfl <;> decide
  have h34 : c ≠ 34 := by rcases hc with rfl | rfl <;> decide
  rcases q with _ | ⟨k, g, a⟩ | g | ⟨g, a⟩ | ⟨g, a⟩ | g | ⟨k, m, g, a⟩ | ⟨k, m, g, a⟩ | ⟨g, a⟩ | (_ | ⟨g, a⟩ | ⟨g, a⟩) | ⟨c', p, n, lo, hi⟩
  · exact absurd rfl hne
  · show (if sym c then _ else _) = _
    rw [if_neg (by rw [hs]; simp)]
    rfl
  · exact absurd rfl hne
  · show (if dig c then _ else stepZero res g a c i) = _
    rw [if_neg (by rw [hd]; simp)]
    unfold stepZero behindNumber
    rw [if_neg h46, if_neg (by rw [hs]; simp)]
    rfl
  · show stepZero res g a c i = _
    unfold stepZero behindNumber
    rw [if_neg h46, if_neg (by rw [hs]; simp)]
    rfl
  · exact absurd rfl hne
  · exact absurd rfl hne
  · show (if inMost m c then _ else behindNumber res k g a c i) = _
    rw [if_neg (by rw [inMost_dl m c hc]; simp)]
    unfold behindNumber
    rw [if_neg (by rw [hs]; simp)]
    rfl
  · show (if c = 34 then _ else _) = _
    rw [if_neg h34]
    rfl
  · exact absurd rfl hne
  · exact absurd rfl hne
  · exact absurd rfl hne
  · exact absurd rfl hne
theorem run_dl (q : St) (r : List UInt8) (i : Nat) (hr : Dl r) (h : (stop res q i).2.1 = 0) (hne : (stop res q i).1 ≠ []) : run res q r i = pre (stop res q i).1 (run res .idle r i) := by
  rcases hr with rfl | ⟨t, rfl | rfl⟩
  · show stop res q i = pre (stop res q i).1 (stop res .idle i)
    have hp := run_place res [] q i h
    have : stop res q i = ((stop res q i).1, 0, 0) := by
      have h2 : (stop res q i).2.2 = 0 := hp
      generalize stop res q i = o at h h2 ⊢
      obtain ⟨a, b, c⟩ := o
      simp only at h h2
      rw [h, h2]
    conv => lhs; rw [this]
    show _ = (_ ++ [], 0, 0)
    rw [List.append_nil]
  · exact run_pass res (step_dl res q 32 i (.inl rfl) h hne)
  · exact run_pass res (step_dl res q 41 i (.inr rfl) h hne)
/-- A token whose bytes stand alone, told at the end: with a delimiter behind it it is read as it is. -/
theorem run_alone (x r : List UInt8) (t : Tok) (p : Nat) (i : Nat) (h : run res .idle x 0 = ([t], 0, p)) (hf : t.fin = x.length) (hn : ¬ now x t) (hr : Dl r) :
    run res .idle (x ++ r) i = pre [shT i t] (run res .idle r (i + x.length)) := by
  have ha := run_append res [] x .idle 0
  rw [List.append_nil, h] at ha
  obtain ⟨g1, g2⟩ := feed_fits res x x [] .idle 0 (by simp) trivial
  rw [Nat.zero_add] at g1
  have hq : ∃ q', (feed res .idle x 0).2 = .inl q' ∧ (feed res .idle x 0).1 = [] ∧ stop res q' x.length = ([t], 0, p) := by
    rcases hq : (feed res .idle x 0).2 with q' | ⟨e, p'⟩
    · rw [hq] at ha
      simp only [Nat.zero_add] at ha
      have ha1 : (feed res .idle x 0).1 ++ (stop res q' x.length).1 = [t] := (Prod.mk.inj ha).1.symm
      have ha2 : (stop res q' x.length).2 = (0, p) := (Prod.mk.inj ha).2.symm
      have hno : (feed res .idle x 0).1 = [] := by
        cases hl : (feed res .idle x 0).1 with
        | nil => rfl
        | cons y ys =>
          rw [hl] at ha1
          have hy : y = t := (List.cons.inj ha1).1
          rcases g1 y (by rw [hl]; exact List.mem_cons_self) with h | h
          · rw [hy] at h
            omega
          · rw [hy] at h
            exact absurd h.2 hn
      refine ⟨q', rfl, hno, ?_⟩
      rw [hno, List.nil_append] at ha1
      exact Prod.ext ha1 ha2
    · rw [hq] at ha
      simp only at ha
      have ha1 : (feed res .idle x 0).1 = [t] := (Prod.mk.inj ha).1.symm
      rcases g1 t (by rw [ha1]; exact List.mem_cons_self) with h | h
      · omega
      · exact absurd h.2 hn
  obtain ⟨q', e1, e2, e3⟩ := hq
  have hb := run_append res r x .idle 0
  rw [e1, e2] at hb
  simp only [Nat.zero_add] at hb
  rw [pre_nil, run_dl res q' r x.length hr (by rw [e3]) (by rw [e3]; simp), e3] at hb
  have hs := run_sh res i (x ++ r) .idle 0
  have hs' := run_sh res i r .idle x.length
  have hidle : sh i .idle = .idle := rfl
  rw [hidle, Nat.zero_add] at hs
  rw [hidle] at hs'
  rw [hs, hb, shO_pre, Nat.add_comm i, hs']
  rfl
/-- Is the text just one token, of that kind and of that very text? -/
def oneOf (k : Int) (x : List UInt8) : Bool := match (run res .idle x 0).1, (run res .idle x 0).2.1 with
  | [t], 0 => decide ((t.kind : Int) = k) && (t.text == x)
  | _, _ => false
/-- A token's spelling; none: it has none. -/
def spl (k : Int) (x : List UInt8) : Option (List UInt8) := if k = 3 then quo res x else if k = 9 then lit x else if k = 10 then (if smp x then some (58 :: x) else none) else if oneOf res k x then some x else none
/-- What stands ahead of a token of kind k behind one of kind p. -/
def sep (p : Option Int) (k : Int) : List UInt8 := match p with | none => [] | some q => if q ≠ 1 ∧ k ≠ 2 then [32] else []
/-- Tokens one behind the other. -/
def jn : Option Int → List (Int × List UInt8) → Option (List UInt8)
  | _, [] => some []
  | p, (k, x) :: r =>
    match spl res k x with
    | none => none
    | some s => match jn (some k) r with
      | none => none
      | some t => some (sep p k ++ s ++ t)
end Go.Proofs.YtackibimlpkcmaaGreatDoor.S
