/- Laid together of: SplBack, TopMath, RefClose. -/
import Derived.Test.YtackibimlpkcmaaGreatDoorKz36
import Derived.Test.YtackibimlpkcmaaGreatDoorKz28
import Derived.Test.YtackibimlpkcmaaGreatDoorKz25
/- ==== SplBack ==== -/
namespace Go.Proofs.YtackibimlpkcmaaGreatDoor.S
set_option linter.unusedVariables false
variable (res : List UInt8 → Bool)
theorem chr_on (b : UInt8) (t X : List UInt8) (h : chr (b :: t) ≠ 0) : ∃ u, (b :: t).take (chr (b :: t)) ++ X = b :: u ∧ chr (b :: u) = chr (b :: t) ∧ (b :: u).drop (chr (b :: t)) = X := by
  have hl := chr_le (b :: t)
  obtain ⟨c, hc⟩ : ∃ c, chr (b :: t) = c + 1 := ⟨chr (b :: t) - 1, by omega⟩
  rw [hc] at hl
  have hlen : ((b :: t).take (c + 1)).length = c + 1 := by rw [List.length_take]; omega
  refine ⟨t.take c ++ X, by rw [hc]; rfl, ?_, ?_⟩
  · refine chr_front b t _ h ?_
    rw [hc]
    show _ = ((b :: t).take (c + 1) ++ X).take (c + 1)
    rw [List.take_append_of_le_length (by omega), List.take_take, Nat.min_self]
  · rw [hc]
    show ((b :: t).take (c + 1) ++ X).drop (c + 1) = X
    rw [List.drop_append_of_le_length (by omega), List.drop_of_length_le (by omega), List.nil_append]
theorem wr_piece {b : UInt8} {t X : List UInt8} (hc : ctl b = false) (h : chr (b :: t) ≠ 0) (hX : wr X = true) : wr ((b :: t).take (chr (b :: t)) ++ X) = true := by
  obtain ⟨u, e1, e2, e3⟩ := chr_on b t X h
  rw [e1, wr_on hc (by rw [e2]; exact h), e2, e3]
  exact hX
theorem nobar_piece {b : UInt8} {t X : List UInt8} (h : chr (b :: t) ≠ 0) (h1 : b ≠ 124) (h2 : b ≠ 92) (hX : nobar X = true) : nobar ((b :: t).take (chr (b :: t)) ++ X) = true := by
  obtain ⟨u, e1, e2, e3⟩ := chr_on b t X h
  rw [e1, nobar_char b u (by rw [e2]; exact h) h1 h2, e2, e3]
  exact hX
theorem dStr_text (g : Nat) : ∀ (N : Nat) (a l : List UInt8) (i : Nat) (tk : Tok) (r : List UInt8), l.length ≤ N → dStr g a l i = .tok tk r → ∃ X, tk.text = a ++ X ∧ wr X = true ∧ tk.kind = 9 ∧ X.length + r.length ≤ l.length := by
  intro N
  induction N with
  | zero =>
    intro a l i tk r hN h
    cases l with
    | nil => rw [dStr] at h; cases h
    | cons b t => simp at hN
  | succ N ih =>
    intro a l i tk r hN h
    cases l with
    | nil => rw [dStr] at h; cases h
    | cons b t =>
      rw [dStr.eq_def] at h
      simp only at h
      by_cases h34 : b = 34
      · rw [if_pos h34] at h
        cases t with
        | nil =>
          obtain ⟨rfl, rfl⟩ := tok_inj h
          exact ⟨[], by simp, wr_nil, rfl, by simp⟩
        | cons c s =>
          simp only at h
          by_cases hc : c = 34
          · rw [if_pos hc] at h
            obtain ⟨X, e1, e2, e3, e4⟩ := ih _ _ _ _ _ (by simp at hN; omega) h
            refine ⟨34 :: X, by rw [e1]; simp, ?_, e3, by simp; omega⟩
            have h1 : chr (34 :: X) = 1 := by rw [chr_cons]; rfl
            rw [wr_on (by decide) (by rw [h1]; decide), h1]
            exact e2
          · rw [if_neg hc] at h
            obtain ⟨rfl, rfl⟩ := tok_inj h
            exact ⟨[], by simp, wr_nil, rfl, by simp⟩
      · rw [if_neg h34] at h
        by_cases hc : ctl b = true
        · rw [if_pos hc] at h; cases h
        · rw [if_neg hc] at h
          by_cases h0 : chr (b :: t) = 0
          · rw [dif_pos h0] at h; cases h
          · rw [dif_neg h0] at h
            have hl := chr_le (b :: t)
            obtain ⟨X, e1, e2, e3, e4⟩ := ih _ _ _ _ _ (by rw [List.length_drop]; omega) h
            refine ⟨(b :: t).take (chr (b :: t)) ++ X, by rw [e1, List.append_assoc], wr_piece (by simpa using hc) h0 e2, e3, ?_⟩
            rw [List.length_drop] at e4
            rw [List.length_append, List.length_take]
            omega
theorem dBars_text (g : Nat) : ∀ (N : Nat) (a l : List UInt8) (i : Nat) (tk : Tok) (r : List UInt8), l.length ≤ N → dBars g a l i = .tok tk r → ∃ X, tk.text = a ++ X ∧ wr X = true ∧ nobar X = true ∧ tk.kind = 3 ∧ X.length + r.length ≤ l.length := by
  intro N
  induction N with
  | zero =>
    intro a l i tk r hN h
    cases l with
    | nil => rw [dBars] at h; cases h
    | cons b t => simp at hN
  | succ N ih =>
    intro a l i tk r hN h
    cases l with
    | nil => rw [dBars] at h; cases h
    | cons b t =>
      rw [dBars.eq_def] at h
      simp only at h
      by_cases h124 : b = 124
      · rw [if_pos h124] at h
        obtain ⟨rfl, rfl⟩ := tok_inj h
        exact ⟨[], by simp, wr_nil, rfl, rfl, by simp⟩
      · rw [if_neg h124] at h
        by_cases h92 : b = 92
        · rw [if_pos h92] at h; cases h
        · rw [if_neg h92] at h
          by_cases hc : ctl b = true
          · rw [if_pos hc] at h; cases h
          · rw [if_neg hc] at h
            by_cases h0 : chr (b :: t) = 0
            · rw [dif_pos h0] at h; cases h
            · rw [dif_neg h0] at h
              have hl := chr_le (b :: t)
              obtain ⟨X, e1, e2, e3, e4, e5⟩ := ih _ _ _ _ _ (by rw [List.length_drop]; omega) h
              refine ⟨(b :: t).take (chr (b :: t)) ++ X, by rw [e1, List.append_assoc], wr_piece (by simpa using hc) h0 e2, nobar_piece h0 h124 h92 e3, e4, ?_⟩
              rw [List.length_drop] at e5
              rw [List.length_append, List.length_take]
              omega
theorem oneOf_of {k : Int} {b : UInt8} {t : List UInt8} {tk : Tok} (hw : white b = false) (h59 : b ≠ 59) (h : dOne res b t 0 = .tok tk []) (hk : (tk.kind : Int) = k) (ht : tk.text = b :: t) : oneOf res k (b :: t) = true := by
  have e : run res .idle (b :: t) 0 = ([tk], 0, 0) := by
    rw [run_one res b t 0 hw h59, h]
    rfl
  unfold oneOf
  rw [e]
  simp [hk, ht]
theorem spl_of {k : Nat} {x : List UInt8} (h3 : k ≠ 3) (h9 : k ≠ 9) (h10 : k ≠ 10) (h : oneOf res k x = true) : ∃ s, spl res k x = some s := by
  refine ⟨x, ?_⟩
  unfold spl
  rw [if_neg (by omega), if_neg (by omega), if_neg (by omega), if_pos h]
theorem front_all {p : UInt8 → Bool} {a : List UInt8} (h : ∀ x, x ∈ a → p x = true) : front p a = a ∧ rest p a = [] := by
  have := front_of p a [] h (fun c s' e => by cases e)
  rw [List.append_nil] at this
  exact this
theorem numTail_tok {i : Nat} {u r0 : List UInt8} {tk : Tok} {r : List UInt8} (h : dNumTail i u r0 = .tok tk r) : (tk.kind = 5 ∧ tk.text = u) ∨ ∃ r', r0 = 46 :: r' ∧ front dig r' ≠ [] ∧ tk.kind = 6 ∧ tk.text = u ++ 46 :: front dig r' := by
  unfold dNumTail at h
  cases r0 with
  | nil => obtain ⟨rfl, -⟩ := dAfter_tok h; exact .inl ⟨rfl, rfl⟩
  | cons c r' =>
    simp only at h
    by_cases hc : c = 46
    · rw [if_pos hc] at h
      by_cases hf : front dig r' = []
      · rw [if_pos hf] at h; cases h
      · rw [if_neg hf] at h
        obtain ⟨rfl, -⟩ := dAfter_tok h
        exact .inr ⟨r', by rw [hc], hf, rfl, rfl⟩
    · rw [if_neg hc] at h
      obtain ⟨rfl, -⟩ := dAfter_tok h
      exact .inl ⟨rfl, rfl⟩
theorem dig_46 : dig 46 = false := by decide
theorem dig_not {b : UInt8} (h : dig b = true) : b ≠ 40 ∧ b ≠ 41 ∧ b ≠ 34 ∧ b ≠ 124 ∧ b ≠ 35 ∧ b ≠ 59 ∧ white b = false := by
  refine ⟨?_, ?_, ?_, ?_, ?_, ?_, ?_⟩
  · rintro rfl; exact absurd h (by decide)
  · rintro rfl; exact absurd h (by decide)
  · rintro rfl; exact absurd h (by decide)
  · rintro rfl; exact absurd h (by decide)
  · rintro rfl; exact absurd h (by decide)
  · rintro rfl; exact absurd h (by decide)
  · have := dig_lt h
    simp [white]
    omega
theorem dOne_num {b : UInt8} {t : List UInt8} {i : Nat} (h : dig b = true) : dOne res b t i = dNum b t i := by
  obtain ⟨h1, h2, h3, h4, h5, -, -⟩ := dig_not h
  unfold dOne
  rw [if_neg h1, if_neg h2, if_neg h3, if_neg h4, if_neg h5, if_pos h]
theorem num_spl {b : UInt8} {t : List UInt8} {i : Nat} {tk : Tok} {r : List UInt8} (hb : dig b = true) (h : dNum b t i = .tok tk r) : ∃ s, spl res tk.kind tk.text = some s := by
  obtain ⟨-, -, -, -, -, n59, nw⟩ := dig_not hb
  unfold dNum at h
  by_cases h48 : b = 48
  · rw [if_pos h48] at h
    subst h48
    rcases numTail_tok h with ⟨e1, e2⟩ | ⟨r', e0, e1, e2, e3⟩
    · rw [e1, e2]
      refine spl_of res (by decide) (by decide) (by decide) (oneOf_of res (tk := ⟨5, 0, 1, [48]⟩) nw n59 ?_ rfl rfl)
      rw [dOne_num res hb]
      rfl
    · rw [e2, e3]
      obtain ⟨g1, g2⟩ := front_front dig r'
      refine spl_of res (by decide) (by decide) (by decide) (oneOf_of res (b := 48) (t := 46 :: front dig r') (tk := ⟨6, 0, 0 + 1 + 1 + (front dig r').length, 48 :: 46 :: front dig r'⟩) nw n59 ?_ rfl rfl)
      rw [dOne_num res hb]
      unfold dNum
      rw [if_pos rfl]
      unfold dNumTail
      simp only [if_true]
      rw [g1, if_neg e1, g2]
      rfl
  · rw [if_neg h48] at h
    obtain ⟨g1, g2⟩ := front_front dig t
    rcases numTail_tok h with ⟨e1, e2⟩ | ⟨r', e0, e1, e2, e3⟩
    · rw [e1, e2]
      refine spl_of res (by decide) (by decide) (by decide) (oneOf_of res (b := b) (t := front dig t) (tk := ⟨5, 0, 0 + (b :: front dig t).length, b :: front dig t⟩) nw n59 ?_ rfl rfl)
      rw [dOne_num res hb]
      unfold dNum
      rw [if_neg h48, g1, g2]
      rfl
    · rw [e2, e3]
      obtain ⟨f1, f2⟩ := front_front dig r'
      obtain ⟨k1, k2⟩ := front_of dig (front dig t) (46 :: front dig r') (mem_front dig t) (fun c s' e => by cases e; exact dig_46)
      refine spl_of res (by decide) (by decide) (by decide) (oneOf_of res (b := b) (t := front dig t ++ 46 :: front dig r') (tk := ⟨6, 0, 0 + (b :: front dig t).length + 1 + (front dig r').length, b :: front dig t ++ 46 :: front dig r'⟩) nw n59 ?_ rfl rfl)
      rw [dOne_num res hb]
      unfold dNum
      rw [if_neg h48, k1, k2]
      unfold dNumTail
      simp only [if_true]
      rw [f1, if_neg e1, f2]
      rfl
theorem hexa_small {b : UInt8} (h : hexa b = true) : hexa (small b) = true ∧ small (small b) = small b := by
  by_cases hb : 65 ≤ b.toNat ∧ b.toNat ≤ 70
  · have e : (b + 32).toNat = b.toNat + 32 := by
      rw [UInt8.toNat_add]
      show (b.toNat + 32) % 256 = _
      omega
    have es : small b = b + 32 := by unfold small; rw [if_pos hb]
    rw [es]
    refine ⟨?_, ?_⟩
    · unfold hexa
      rw [decide_eq_true (by omega : 97 ≤ (b + 32).toNat ∧ (b + 32).toNat ≤ 102)]
      simp
    · unfold small
      rw [if_neg (by omega)]
  · have es : small b = b := by unfold small; rw [if_neg hb]
    rw [es, es]
    exact ⟨h, rfl⟩
theorem bin_small {b : UInt8} (h : bin b = true) : small b = b := by
  have := of_decide_eq_true h
  unfold small
  rw [if_neg (by omega)]
theorem hash_spl {t : List UInt8} {i : Nat} {tk : Tok} {r : List UInt8} (h : dHash t i = .tok tk r) : ∃ s, spl res tk.kind tk.text = some s := by
  have hd : ∀ t, dOne res 35 t 0 = dHash t 0 := fun t => rfl
  cases t with
  | nil => cases h
  | cons c s =>
    unfold dHash at h
    simp only at h
    by_cases h120 : c = 120
    · rw [if_pos h120] at h
      by_cases hf : front hexa s = []
      · rw [if_pos hf] at h; cases h
      · rw [if_neg hf] at h
        obtain ⟨rfl, -⟩ := dAfter_tok h
        have m1 : ∀ x, x ∈ (front hexa s).map small → hexa x = true := by
          intro x hx
          obtain ⟨y, hy, rfl⟩ := List.mem_map.1 hx
          exact (hexa_small (mem_front hexa s y hy)).1
        have m2 : ((front hexa s).map small).map small = (front hexa s).map small := by
          rw [List.map_map]
          exact List.map_congr_left fun y hy => (hexa_small (mem_front hexa s y hy)).2
        obtain ⟨g1, g2⟩ := front_all m1
        refine spl_of res (by show (7 : Nat) ≠ 3; decide) (by show (7 : Nat) ≠ 9; decide) (by show (7 : Nat) ≠ 10; decide) (oneOf_of res (b := 35) (t := 120 :: (front hexa s).map small) (tk := ⟨7, 0, 0 + 2 + ((front hexa s).map small).length, 35 :: 120 :: (front hexa s).map small⟩) (by decide) (by decide) ?_ rfl rfl)
        rw [hd]
        unfold dHash
        simp only [if_true]
        rw [g1, if_neg (by simpa using hf), g2, m2]
        rfl
    · rw [if_neg h120] at h
      by_cases h98 : c = 98
      · rw [if_pos h98] at h
        by_cases hf : front bin s = []
        · rw [if_pos hf] at h; cases h
        · rw [if_neg hf] at h
          obtain ⟨rfl, -⟩ := dAfter_tok h
          have m0 : (front bin s).map small = front bin s := by
            conv => rhs; rw [← List.map_id (front bin s)]
            exact List.map_congr_left fun y hy => bin_small (mem_front bin s y hy)
          rw [m0]
          obtain ⟨g1, g2⟩ := front_front bin s
          refine spl_of res (by show (8 : Nat) ≠ 3; decide) (by show (8 : Nat) ≠ 9; decide) (by show (8 : Nat) ≠ 10; decide) (oneOf_of res (b := 35) (t := 98 :: front bin s) (tk := ⟨8, 0, 0 + 2 + (front bin s).length, 35 :: 98 :: front bin s⟩) (by decide) (by decide) ?_ rfl rfl)
          rw [hd]
          unfold dHash
          simp only [if_true]
          rw [if_neg (by decide), g1, if_neg hf, g2, m0]
          rfl
      · rw [if_neg h98] at h; cases h
theorem smp_front {c : UInt8} {s : List UInt8} (hs : sym c = true) (hd : dig c = false) : smp (front sym (c :: s)) = true := by
  have hx : front sym (c :: s) = c :: front sym s := by simp [front, hs]
  rw [hx]
  unfold smp
  simp only [hd, Bool.not_false, Bool.true_and, List.all_eq_true]
  intro x hx
  rcases List.mem_cons.1 hx with rfl | h
  · exact hs
  · exact mem_front sym s x h
/-- Every token has a spelling; its text is no longer than what it stands for. -/
theorem one_spl {b : UInt8} {t : List UInt8} {i : Nat} {tk : Tok} {r : List UInt8} (hw : white b = false) (h59 : b ≠ 59) (h : dOne res b t i = .tok tk r) : ∃ s, spl res tk.kind tk.text = some s := by
  have h' := h
  unfold dOne at h
  by_cases h40 : b = 40
  · rw [if_pos h40] at h
    obtain ⟨rfl, -⟩ := tok_inj h
    exact spl_of res (by show (1 : Nat) ≠ 3; decide) (by show (1 : Nat) ≠ 9; decide) (by show (1 : Nat) ≠ 10; decide) (oneOf_of res (b := 40) (t := []) (tk := ⟨1, 0, 1, [40]⟩) (by decide) (by decide) rfl rfl rfl)
  rw [if_neg h40] at h
  by_cases h41 : b = 41
  · rw [if_pos h41] at h
    obtain ⟨rfl, -⟩ := tok_inj h
    exact spl_of res (by show (2 : Nat) ≠ 3; decide) (by show (2 : Nat) ≠ 9; decide) (by show (2 : Nat) ≠ 10; decide) (oneOf_of res (b := 41) (t := []) (tk := ⟨2, 0, 1, [41]⟩) (by decide) (by decide) rfl rfl rfl)
  rw [if_neg h41] at h
  by_cases h34 : b = 34
  · rw [if_pos h34] at h
    obtain ⟨X, e1, e2, e3, -⟩ := dStr_text i t.length [] t _ _ _ (Nat.le_refl _) h
    rw [e1, e3, List.nil_append]
    refine ⟨34 :: (dbl X ++ [34]), ?_⟩
    unfold spl
    rw [if_neg (by decide), if_pos (by decide)]
    unfold lit
    rw [if_pos e2]
  rw [if_neg h34] at h
  by_cases h124 : b = 124
  · rw [if_pos h124] at h
    obtain ⟨X, e1, e2, e3, e4, -⟩ := dBars_text i t.length [] t _ _ _ (Nat.le_refl _) h
    rw [e1, e4, List.nil_append]
    unfold spl
    rw [if_pos (by decide)]
    unfold quo
    split
    · exact ⟨_, rfl⟩
    · rw [e2, e3]
      exact ⟨_, rfl⟩
  rw [if_neg h124] at h
  by_cases h35 : b = 35
  · rw [if_pos h35] at h
    exact hash_spl res h
  rw [if_neg h35] at h
  by_cases hd : dig b = true
  · rw [if_pos hd] at h
    exact num_spl res hd h
  rw [if_neg hd] at h
  by_cases h58 : b = 58
  · rw [if_pos h58] at h
    unfold dColon at h
    cases t with
    | nil => cases h
    | cons c s =>
      simp only at h
      by_cases hc : sym c ∧ ¬ dig c
      · rw [if_pos hc] at h
        obtain ⟨rfl, -⟩ := tok_inj h
        refine ⟨58 :: front sym (c :: s), ?_⟩
        show spl res ((10 : Nat) : Int) (front sym (c :: s)) = _
        unfold spl
        rw [if_neg (by decide), if_neg (by decide), if_pos (by decide), if_pos (smp_front hc.1 (by simpa using hc.2))]
      · rw [if_neg hc] at h; cases h
  rw [if_neg h58] at h
  by_cases hs : sym b = true
  · rw [if_pos hs] at h
    unfold dName at h
    obtain ⟨rfl, -⟩ := tok_inj h
    have hsm := smp_front (s := t) hs (by simpa using hd)
    by_cases hr : res (front sym (b :: t)) = true
    · show ∃ s, spl res ((if res (front sym (b :: t)) = true then 4 else 3 : Nat) : Int) (front sym (b :: t)) = some s
      rw [if_pos hr]
      have hx : ∀ t, front sym (b :: t) = b :: front sym t := by intro t; simp [front, hs]
      have hy : ∀ t, rest sym (b :: t) = rest sym t := by intro t; simp [rest, hs]
      obtain ⟨g1, g2⟩ := front_front sym t
      rw [hx] at hr ⊢
      refine spl_of res (by decide) (by decide) (by decide) (oneOf_of res (b := b) (t := front sym t) (tk := ⟨4, 0, 0 + (b :: front sym t).length, b :: front sym t⟩) hw h59 ?_ rfl rfl)
      unfold dOne
      rw [if_neg h40, if_neg h41, if_neg h34, if_neg h124, if_neg h35, if_neg hd, if_neg h58, if_pos hs]
      unfold dName
      rw [hx, hy, g1, g2, if_pos hr]
    · show ∃ s, spl res ((if res (front sym (b :: t)) = true then 4 else 3 : Nat) : Int) (front sym (b :: t)) = some s
      rw [if_neg hr]
      refine ⟨front sym (b :: t), ?_⟩
      unfold spl
      rw [if_pos (by decide)]
      unfold quo
      rw [hsm, if_pos (by simpa using hr)]
  rw [if_neg hs] at h
  by_cases h128 : 128 ≤ b.toNat
  · rw [if_pos h128] at h; cases h
  · rw [if_neg h128] at h; cases h
theorem one_len {b : UInt8} {t : List UInt8} {i : Nat} {tk : Tok} {r : List UInt8} (hw : white b = false) (h59 : b ≠ 59) (h : dOne res b t i = .tok tk r) : tk.text.length + r.length ≤ t.length + 1 := by
  have hk : Tk tk := by
    refine run_okL res (b :: t) .idle i trivial tk ?_
    rw [run_one res b t i hw h59, h]
    exact List.mem_cons_self
  obtain ⟨c1, n, c2, c3, c4, -⟩ := dOne_cut res b t i tk r h
  by_cases hb : tk.kind ≠ 3 ∧ tk.kind ≠ 9 ∧ tk.kind ≠ 10
  · have := hk.1 hb.1 hb.2.1 hb.2.2
    rw [c4, List.length_drop]
    omega
  · unfold dOne at h
    by_cases h40 : b = 40
    · rw [if_pos h40] at h
      obtain ⟨rfl, rfl⟩ := tok_inj h
      show [40].length + _ ≤ _
      simp; omega
    rw [if_neg h40] at h
    by_cases h41 : b = 41
    · rw [if_pos h41] at h
      obtain ⟨rfl, rfl⟩ := tok_inj h
      show [41].length + _ ≤ _
      simp; omega
    rw [if_neg h41] at h
    by_cases h34 : b = 34
    · rw [if_pos h34] at h
      obtain ⟨X, e1, -, -, e4⟩ := dStr_text i t.length [] t _ _ _ (Nat.le_refl _) h
      rw [e1, List.nil_append]
      omega
    rw [if_neg h34] at h
    by_cases h124 : b = 124
    · rw [if_pos h124] at h
      obtain ⟨X, e1, -, -, -, e4⟩ := dBars_text i t.length [] t _ _ _ (Nat.le_refl _) h
      rw [e1, List.nil_append]
      omega
    rw [if_neg h124] at h
    by_cases h35 : b = 35
    · rw [if_pos h35] at h
      exfalso
      apply hb
      unfold dHash at h
      cases t with
      | nil => cases h
      | cons c s =>
        simp only at h
        repeat' split at h
        all_goals first
          | (cases h; done)
          | (obtain ⟨rfl, -⟩ := dAfter_tok h; exact ⟨by simp, by simp, by simp⟩)
    rw [if_neg h35] at h
    by_cases hd : dig b = true
    · rw [if_pos hd] at h
      exfalso
      apply hb
      unfold dNum at h
      split at h
      · rcases numTail_tok h with ⟨e1, -⟩ | ⟨r', -, -, e1, -⟩ <;> rw [e1] <;> decide
      · rcases numTail_tok h with ⟨e1, -⟩ | ⟨r', -, -, e1, -⟩ <;> rw [e1] <;> decide
    rw [if_neg hd] at h
    by_cases h58 : b = 58
    · rw [if_pos h58] at h
      unfold dColon at h
      cases t with
      | nil => cases h
      | cons c s =>
        simp only at h
        by_cases hc : sym c ∧ ¬ dig c
        · rw [if_pos hc] at h
          obtain ⟨rfl, rfl⟩ := tok_inj h
          have := front_len sym (c :: s)
          show (front sym (c :: s)).length + _ ≤ _
          omega
        · rw [if_neg hc] at h; cases h
    rw [if_neg h58] at h
    by_cases hs : sym b = true
    · rw [if_pos hs] at h
      unfold dName at h
      obtain ⟨rfl, rfl⟩ := tok_inj h
      have := front_len sym (b :: t)
      show (front sym (b :: t)).length + _ ≤ _
      rw [List.length_cons] at this
      omega
    rw [if_neg hs] at h
    by_cases h128 : 128 ≤ b.toNat
    · rw [if_pos h128] at h; cases h
    · rw [if_neg h128] at h; cases h
/-- How long the texts of tokens are, all together. -/
def ttot : List Tok → Nat
  | [] => 0
  | t :: r => t.text.length + ttot r
theorem run_spl (l : List UInt8) (i : Nat) : (∀ t, t ∈ (run res .idle l i).1 → ∃ s, spl res t.kind t.text = some s) ∧ ttot (run res .idle l i).1 ≤ l.length := by
  induction hn : l.length using Nat.strongRecOn generalizing l i with
  | _ N ih =>
    rw [run_doc]
    rcases hs : dSkip l i with ⟨r, k⟩ | ⟨e, p⟩
    · obtain ⟨n, e1, e2, e3, e4⟩ := dSkip_gap l i r k hs
      cases r with
      | nil => exact ⟨fun t ht => absurd ht (by simp), Nat.zero_le _⟩
      | cons b t =>
        obtain ⟨w1, w2⟩ := dSkip_head l i b t k hs
        have hlen : t.length + 1 = l.length - n := by
          have := congrArg List.length e3
          simpa using this
        show (∀ u, u ∈ ((dOne res b t k).out res).1 → _) ∧ ttot ((dOne res b t k).out res).1 ≤ _
        rcases ho : dOne res b t k with ⟨tk, r'⟩ | ⟨e, p⟩
        · have hl := one_len res w1 w2 ho
          obtain ⟨c1, m, c2, c3, c4, c5⟩ := dOne_cut res b t k tk r' ho
          have hr : r'.length ≤ t.length := by rw [c4, List.length_drop]; omega
          obtain ⟨i1, i2⟩ := ih r'.length (by omega) r' tk.fin rfl
          refine ⟨fun u hu => ?_, ?_⟩
          · have hu : u ∈ tk :: (run res .idle r' tk.fin).1 := hu
            rcases List.mem_cons.1 hu with rfl | hu
            · exact one_spl res w1 w2 ho
            · exact i1 u hu
          · show tk.text.length + ttot (run res .idle r' tk.fin).1 ≤ _
            omega
        · exact ⟨fun t ht => absurd ht List.not_mem_nil, Nat.zero_le _⟩
    · exact ⟨fun t ht => absurd ht List.not_mem_nil, Nat.zero_le _⟩
end Go.Proofs.YtackibimlpkcmaaGreatDoor.S
namespace Go.Proofs.YtackibimlpkcmaaGreatDoor.X
open Go.Proofs.YtackibimlpkcmaaGreatDoor.S
set_option linter.unusedVariables false
theorem fr_all : ∀ (r T : List Tok) (ns : List N) (st : List Nat), Fr st ns T → (∀ f st', X.pr r ns st = .inl (f, st') → Fr st' f (T ++ r)) ∧ (∀ f b, X.pr r ns st = .inr (f, b) → ∃ R R', r = R ++ R' ∧ Sq (T ++ R) f)
  | [], T, ns, st, h => by
    refine ⟨fun f st' e => ?_, fun f b e => ?_⟩
    · unfold X.pr at e
      cases e
      rw [List.append_nil]
      exact h
    · unfold X.pr at e
      cases e
  | t :: r, T, ns, st, h => by
    rw [pr_cons]
    by_cases h1 : t.kind = 1
    · rw [if_pos h1]
      obtain ⟨a1, a2⟩ := fr_all r (T ++ [t]) _ _ (Fr.more st ns T t [] [] h h1 .nil)
      refine ⟨fun f st' e => by have := a1 f st' e; simpa using this, fun f b e => ?_⟩
      obtain ⟨R, R', e1, e2⟩ := a2 f b e
      exact ⟨t :: R, R', by rw [e1]; rfl, by simpa using e2⟩
    · rw [if_neg h1]
      by_cases h2 : t.kind = 2
      · rw [if_pos h2]
        cases st with
        | nil =>
          refine ⟨fun f st' e => (by cases e), fun f b e => ?_⟩
          cases e
          exact ⟨[], t :: r, rfl, by rw [List.append_nil]; exact h⟩
        | cons g st =>
          obtain ⟨ns, T, o, T1, M1, rfl, rfl, rfl, h, h3, h4⟩ := h
          have hS : Sq (o :: (T1 ++ [t])) (⟨1, o.beg, t.fin, M1.length + 1, []⟩ :: M1) := by
            have := Sq.list o t T1 M1 [] [] h3 h2 h4 .nil
            simpa using this
          obtain ⟨a1, a2⟩ := fr_all r (T ++ o :: (T1 ++ [t])) _ _ (h.app hS)
          rw [← shut_at] at a1 a2
          refine ⟨fun f st' e => by have := a1 f st' e; simpa using this, fun f b e => ?_⟩
          obtain ⟨R, R', e1, e2⟩ := a2 f b e
          exact ⟨t :: R, R', by rw [e1]; rfl, by simpa using e2⟩
      · rw [if_neg h2]
        obtain ⟨a1, a2⟩ := fr_all r (T ++ [t]) _ _ (h.app (Sq.atom t [] [] h1 h2 .nil))
        refine ⟨fun f st' e => by have := a1 f st' e; simpa using this, fun f b e => ?_⟩
        obtain ⟨R, R', e1, e2⟩ := a2 f b e
        exact ⟨t :: R, R', by rw [e1]; rfl, by simpa using e2⟩
theorem fr_take : ∀ (st : List Nat) (g : Nat) (ns : List N) (T : List Tok), Fr (g :: st) ns T → ∃ R R', T = R ++ R' ∧ Sq R (ns.take ((g :: st).getLastD 0)) ∧ (g :: st).getLastD 0 ≤ ns.length
  | [], g, N, U, h => by
    obtain ⟨ns, T, o, T', M', rfl, rfl, rfl, h, -, -⟩ := h
    refine ⟨T, o :: T', rfl, ?_, ?_⟩
    · show Sq T ((ns ++ newL o :: M').take ns.length)
      rw [List.take_left]
      exact h
    · show ns.length ≤ _
      simp
  | g2 :: st, g, N, U, h => by
    obtain ⟨ns, T, o, T', M', rfl, rfl, rfl, h, -, -⟩ := h
    obtain ⟨R, R', e1, e2, e3⟩ := fr_take st g2 ns T h
    have e : (ns.length :: g2 :: st).getLastD 0 = (g2 :: st).getLastD 0 := rfl
    rw [e]
    refine ⟨R, R' ++ o :: T', by rw [e1]; simp, ?_, by rw [List.length_append]; omega⟩
    rw [List.take_append_of_le_length e3]
    exact e2
/-- What is read, even ahead of an error, is made by some of the tokens, the first ones. -/
theorem out_sq (ts : List Tok) (e p : Nat) : ∃ R R', ts = R ++ R' ∧ Sq R (X.out ts e p).1 := by
  obtain ⟨a1, a2⟩ := fr_all ts [] [] [] (.base _ _ .nil)
  unfold X.out
  rcases h : X.pr ts [] [] with ⟨f, st⟩ | ⟨f, b⟩
  · have h1 := a1 f st h
    rw [List.nil_append] at h1
    cases st with
    | nil => exact ⟨ts, [], by simp, h1⟩
    | cons g st =>
      obtain ⟨R, R', e1, e2, -⟩ := fr_take st g f ts h1
      exact ⟨R, R', e1, e2⟩
  · obtain ⟨R, R', e1, e2⟩ := a2 f b h
    exact ⟨R, R', e1, by rw [List.nil_append] at e2; exact e2⟩
/-- The nodes are lists, or atoms of tokens. -/
theorem Sq.mem {T : List Tok} {M : List N} (h : Sq T M) : ∀ n ∈ M, (n.kind = 1 ∧ n.text = []) ∨ ∃ t ∈ T, n = X.atom t ∧ t.kind ≠ 1 := by
  induction h using Sq.ind with
  | nil => intro n hn; cases hn
  | atom t T M h1 h2 h ih =>
    intro n hn
    rcases List.mem_cons.1 hn with rfl | hn
    · exact .inr ⟨t, List.mem_cons_self, rfl, h1⟩
    · rcases ih n hn with h | ⟨u, hu, e⟩
      · exact .inl h
      · exact .inr ⟨u, List.mem_cons_of_mem _ hu, e⟩
  | list o c T M U K h1 h2 h h' ih1 ih2 =>
    intro n hn
    rcases List.mem_cons.1 hn with rfl | hn
    · exact .inl ⟨rfl, rfl⟩
    · rcases List.mem_append.1 hn with hn | hn
      · rcases ih1 n hn with h | ⟨u, hu, e⟩
        · exact .inl h
        · exact .inr ⟨u, by simp [hu], e⟩
      · rcases ih2 n hn with h | ⟨u, hu, e⟩
        · exact .inl h
        · exact .inr ⟨u, by simp [hu], e⟩
def ntot : List N → Nat
  | [] => 0
  | n :: r => n.text.length + ntot r
theorem ntot_append : ∀ (a b : List N), ntot (a ++ b) = ntot a + ntot b
  | [], b => by simp [ntot]
  | n :: r, b => by rw [List.cons_append, ntot, ntot, ntot_append r b]; omega
theorem ttot_append : ∀ (a b : List Tok), ttot (a ++ b) = ttot a + ttot b
  | [], b => by simp [ttot]
  | n :: r, b => by rw [List.cons_append, ttot, ttot, ttot_append r b]; omega
theorem Sq.tot {T : List Tok} {M : List N} (h : Sq T M) : ntot M ≤ ttot T := by
  induction h using Sq.ind with
  | nil => exact Nat.le_refl _
  | atom t T M h1 h2 h ih => rw [ntot, ttot]; exact Nat.add_le_add_left ih _
  | list o c T M U K h1 h2 h h' ih1 ih2 =>
    rw [ntot, ttot, ntot_append, ttot_append, ttot]
    show 0 + _ ≤ _
    omega
end Go.Proofs.YtackibimlpkcmaaGreatDoor.X
/- ==== TopMath ==== -/
namespace Go.Proofs.YtackibimlpkcmaaGreatDoor
open Go.RowKit
set_option linter.unusedVariables false
theorem jn_some : ∀ (l : List (Int × List UInt8)) (p : Option Int), (∀ x ∈ l, ∃ s, S.spl resv x.1 x.2 = some s) → ∃ s, S.jn resv p l = some s
  | [], p, _ => ⟨[], rfl⟩
  | (k, x) :: r, p, h => by
    obtain ⟨s, hs⟩ := h (k, x) List.mem_cons_self
    obtain ⟨t, ht⟩ := jn_some r (some k) (fun y hy => h y (List.mem_cons_of_mem _ hy))
    refine ⟨S.sep p k ++ s ++ t, ?_⟩
    rw [S.jn, hs]
    simp only
    rw [ht]
theorem pops_mem (i : Nat) : ∀ (st : List Nat) (j : J), j ∈ (pops i st).1 → j = clo
  | [], j, h => by cases h
  | a :: st, j, h => by
    rw [pops] at h
    split at h
    · rcases List.mem_cons.1 h with rfl | h
      · rfl
      · exact pops_mem i st j h
    · cases h
theorem tks_mem : ∀ (r : List Nd) (i : Nat) (st : List Nat) (j : J), j ∈ tks r i st → j = clo ∨ ∃ x ∈ r, j = tokOf x
  | [], i, st, j, h => by cases h
  | x :: r, i, st, j, h => by
    rw [tks] at h
    rcases List.mem_cons.1 h with rfl | h
    · exact .inr ⟨x, List.mem_cons_self, rfl⟩
    · rcases List.mem_append.1 h with h | h
      · exact .inl (pops_mem _ _ _ h)
      · rcases tks_mem r _ _ j h with h | ⟨y, hy, e⟩
        · exact .inl h
        · exact .inr ⟨y, List.mem_cons_of_mem _ hy, e⟩
theorem spl_shut : ∃ s, S.spl resv 2 [41] = some s := ⟨[41], by decide +kernel⟩
theorem spl_open : ∃ s, S.spl resv 1 [40] = some s := ⟨[40], by decide +kernel⟩
/-- Every node's token has a spelling. -/
def NSp (ns : List Nd) : Prop := ∀ x ∈ ns, ∃ s, S.spl resv (tokOf x).kind (tokOf x).text = some s
theorem tks_spl {r : List Nd} (h : NSp r) (i : Nat) (st : List Nat) : ∀ x ∈ jk (tks r i st), ∃ s, S.spl resv x.1 x.2 = some s := by
  intro x hx
  obtain ⟨j, hj, rfl⟩ := List.mem_map.1 hx
  rcases tks_mem r i st j hj with rfl | ⟨y, hy, rfl⟩
  · exact spl_shut
  · exact h y hy
theorem shw_some (ns : List Nd) (h : NSp ns) : ∀ (ks : List Nat) (acc : List UInt8), ∃ out, shw ns ks acc = some out
  | [], acc => ⟨acc, rfl⟩
  | k :: r, acc => by
    have hp : NSp (piece ns k) := fun x hx => h x (List.mem_of_mem_drop (List.mem_of_mem_take hx))
    obtain ⟨s, hs⟩ := jn_some (jk (lnt ns k)) none (tks_spl hp 0 [])
    rw [shw, hs]
    exact shw_some ns h r _
theorem nsp_of {T : List S.Tok} {M : List X.N} (h : X.Sq T M) (ht : ∀ t ∈ T, ∃ s, S.spl resv t.kind t.text = some s) : NSp (M.map toNd) := by
  intro x hx
  obtain ⟨n, hn, rfl⟩ := List.mem_map.1 hx
  rcases h.mem n hn with ⟨k1, k2⟩ | ⟨t, hm, rfl, k1⟩
  · have : tokOf (toNd n) = ⟨1, 0, 0, [40]⟩ := by
      unfold tokOf
      rw [if_pos (by show (n.kind : Int) = 1; rw [k1]; rfl)]
    rw [this]
    exact spl_open
  · have : tokOf (toNd (X.atom t)) = ⟨t.kind, 0, 0, t.text⟩ := by
      unfold tokOf
      rw [if_neg (by show ¬ (t.kind : Int) = 1; omega)]
      rfl
    rw [this]
    exact ht t hm
theorem key_nkey {n : X.N} (h : n.kind = 1 → n.text = []) : key (toNd n) = nkey n := by
  unfold key nkey
  show ((n.kind : Int), (n.size : Int), if (n.kind : Int) = 1 then [] else n.text.toArray.toList) = _
  by_cases hk : n.kind = 1
  · rw [if_pos (by rw [hk]; rfl), h hk]
  · rw [if_neg (by omega)]
theorem sq_keys {T : List S.Tok} {M : List X.N} (h : X.Sq T M) : (M.map toNd).map key = M.map nkey := by
  rw [List.map_map]
  refine List.map_congr_left fun n hn => ?_
  refine key_nkey fun hk => ?_
  rcases h.mem n hn with ⟨-, k2⟩ | ⟨t, -, rfl, k1⟩
  · exact k2
  · exact absurd hk k1
theorem wt_ntot : ∀ M : List X.N, wt (M.map toNd) = 2 * X.ntot M + 10 * M.length
  | [] => rfl
  | n :: r => by
    rw [List.map_cons, wt, X.ntot, wt_ntot r, List.length_cons]
    show 2 * n.text.length + 10 + _ = _
    omega
def jOf (t : S.Tok) : J := ⟨t.kind, t.beg, t.fin, t.text⟩
theorem jk_of (T : List S.Tok) : jk (T.map jOf) = T.map kt := by
  unfold jk
  rw [List.map_map]
  rfl
theorem jtot_of : ∀ T : List S.Tok, jtot (T.map jOf) = 2 * S.ttot T + 3 * T.length
  | [] => rfl
  | t :: r => by
    rw [List.map_cons, jtot, S.ttot, jtot_of r, List.length_cons]
    show 2 * t.text.length + 3 + _ = _
    omega
theorem run_len (l : List UInt8) (i : Nat) : (S.run resv .idle l i).1.length ≤ l.length := by
  induction hn : l.length using Nat.strongRecOn generalizing l i with
  | _ N ih =>
    rw [S.run_doc]
    rcases hs : S.dSkip l i with ⟨r, k⟩ | ⟨e, p⟩
    · obtain ⟨n, e1, e2, e3, e4⟩ := S.dSkip_gap l i r k hs
      cases r with
      | nil => exact Nat.zero_le _
      | cons b t =>
        have hlen : t.length + 1 = l.length - n := by
          have := congrArg List.length e3
          simpa using this
        show ((S.dOne resv b t k).out resv).1.length ≤ _
        rcases ho : S.dOne resv b t k with ⟨tk, r'⟩ | ⟨e, p⟩
        · obtain ⟨c1, m, c2, c3, c4, c5⟩ := S.dOne_cut resv b t k tk r' ho
          have hr : r'.length ≤ t.length := by rw [c4, List.length_drop]; omega
          have i1 := ih r'.length (by omega) r' tk.fin rfl
          show (tk :: (S.run resv .idle r' tk.fin).1).length ≤ _
          rw [List.length_cons]
          omega
        · exact Nat.zero_le _
    · exact Nat.zero_le _
theorem run_kinds (l : List UInt8) : ∀ t ∈ (S.run resv .idle l 0).1, 1 ≤ t.kind ∧ t.kind ≤ 10 := fun t ht => by
  have := S.run_okL resv l .idle 0 trivial t ht
  exact ⟨this.2.1, this.2.2.1⟩
theorem sq_forest {T : List S.Tok} {M : List X.N} (h : X.Sq T M) (hk : ∀ t ∈ T, 1 ≤ t.kind ∧ t.kind ≤ 10) : forestB (M.map toNd) = true := by
  have := fo_sq h hk [] 0 M.length [] (by omega)
  unfold forestB
  rw [List.append_nil] at this
  rw [List.length_map, this]
  rfl
/-- What is shown is read as the tokens of the nodes. -/
theorem show_back2 {ns : List Nd} (hf : forestB ns = true) {out : List UInt8} (h : showA ns = some out) :
    out.length ≤ wt ns + ns.length ∧ ∃ T, S.run resv .idle out 0 = (T, 0, 0) ∧ T.map kt = jk (tks ns 0 []) := by
  have hS := forest_sizes hf
  obtain ⟨s, e1, e0, e2⟩ := shw_read ns _ _ _ h
  rw [kl_tks ns hS ns.length 0 (Nat.zero_le _) (by omega) (by rw [List.drop_zero]; exact hf), List.drop_zero] at e0 e2
  rw [List.nil_append] at e1
  subst e1
  have h1 := tks_tot ns 0 []
  have h2 := kl_length ns ns.length ns.length 0
  simp only [List.length_nil] at h1
  refine ⟨by omega, ?_⟩
  obtain ⟨T, g1, g2⟩ := e2 0
  exact ⟨T, g1, g2⟩
/-- All that TopText says, of the text l. -/
structure TM (l : List UInt8) (f : List X.N) : Prop where
  len : f.length ≤ l.length
  wts : wt (f.map toNd) ≤ 12 * l.length
  forest : forestB (f.map toNd) = true
  back : ∃ out, showA (f.map toNd) = some out ∧ out.length ≤ 13 * l.length ∧ ∃ T fs, S.run resv .idle out 0 = (T, 0, 0) ∧ X.out T 0 0 = (fs, 0, 0) ∧ fs.map nkey = f.map nkey ∧ fs.length = f.length ∧ forestB (fs.map toNd) = true ∧ showA (fs.map toNd) = some out ∧ (∀ k, lnt (fs.map toNd) k = lnt (f.map toNd) k) ∧
    jtot (T.map jOf) ≤ 65 * l.length ∧ ∃ j, S.jn resv none (jk (T.map jOf)) = some j ∧ j.length ≤ 65 * l.length ∧ ∃ T3 f3, S.run resv .idle j 0 = (T3, 0, 0) ∧ X.out T3 0 0 = (f3, 0, 0) ∧ f3.map nkey = f.map nkey ∧ f3.length = f.length
theorem out_of_pr {T : List S.Tok} {fs : List X.N} (h : X.pr T [] [] = .inl (fs, [])) : X.out T 0 0 = (fs, 0, 0) := by
  unfold X.out
  rw [h]
theorem tm_of (l : List UInt8) (e p : Nat) : TM l (X.out (S.run resv .idle l 0).1 e p).1 := by
  obtain ⟨R, R', e1, hS⟩ := X.out_sq (S.run resv .idle l 0).1 e p
  obtain ⟨f, hf⟩ : ∃ f, (X.out (S.run resv .idle l 0).1 e p).1 = f := ⟨_, rfl⟩
  rw [hf] at hS ⊢
  obtain ⟨s1, s2⟩ := S.run_spl resv l 0
  have s3 := run_len l 0
  have s4 := run_kinds l
  rw [e1] at s1 s2 s3 s4
  rw [X.ttot_append] at s2
  rw [List.length_append] at s3
  have k1 := hS.len
  have k2 := hS.tot
  have k3 := wt_ntot f
  have hfo : forestB (f.map toNd) = true := sq_forest hS (fun t ht => s4 t (List.mem_append_left _ ht))
  have hns := nsp_of hS (fun t ht => s1 t (List.mem_append_left _ ht))
  have hkey := sq_keys hS
  obtain ⟨out, ho⟩ : ∃ out, showA (f.map toNd) = some out := shw_some _ hns _ _
  obtain ⟨b1, T, b2, b3⟩ := show_back2 hfo ho
  rw [List.length_map] at b1
  obtain ⟨fs, c1, c2⟩ := back_forest hfo b3
  have hSf := X.sq_of_pr c1
  have hfl : fs.length = f.length := by have := congrArg List.length c2; simpa using this
  have hkf := sq_keys hSf
  have hT := run_kinds out
  rw [b2] at hT
  have hff : forestB (fs.map toNd) = true := sq_forest hSf hT
  have hkk : (fs.map toNd).map key = (f.map toNd).map key := by rw [hkf, c2]
  have t1 := S.run_spl resv out 0
  have t2 := run_len out 0
  rw [b2] at t1 t2
  have t3 := jtot_of T
  simp only at t1 t2
  obtain ⟨j, hj⟩ := jn_some (T.map kt) none (fun x hx => by
    obtain ⟨t, ht, rfl⟩ := List.mem_map.1 hx
    exact t1.1 t ht)
  have hj' : S.jn resv none (jk (T.map jOf)) = some j := by rw [jk_of]; exact hj
  have hjl := jn_le _ _ _ hj'
  obtain ⟨T3, d1, d2⟩ := S.jn_read resv (T.map kt) none j 0 hj
  have d2' : T3.map kt = jk (tks (f.map toNd) 0 []) := by rw [← b3, ← d2]; rfl
  obtain ⟨f3, g1, g2⟩ := back_forest hfo d2'
  have hfl3 : f3.length = f.length := by have := congrArg List.length g2; simpa using this
  refine ⟨by omega, by omega, hfo, out, ho, by omega, T, fs, b2, out_of_pr c1, by rw [c2, hkey], hfl, hff, by rw [showA_key hkk]; exact ho, fun k => lnt_key hkk k, by omega, j, hj', by omega, T3, f3, d1, out_of_pr g1, by rw [g2, hkey], hfl3⟩
end Go.Proofs.YtackibimlpkcmaaGreatDoor
/- ==== RefClose ==== -/
namespace Go.Proofs.YtackibimlpkcmaaGreatDoor
open Go.RowKit
set_option linter.unusedVariables false
/-- A list of numbers of one's own. -/
def OwnI (B : Nat) (w : World) (v : Value) (xs : List Int) : Prop := w.ownsRow B 3 1 v xs.length (xs.map (Value.int .i64))
theorem OwnI.at_ {B : Nat} {w : World} {v : Value} {xs : List Int} (h : OwnI B w v xs) {j : Nat} (hj : j < xs.length) :
    ∃ g cap, v = .slice (some ⟨g, 0, none⟩) xs.length cap ∧ xs.length ≤ cap ∧ cap ≤ 9223372036854775807 ∧ B ≤ g ∧ g < w.heap.size ∧ (∀ k, w.frozen? ⟨g, k, none⟩ = false) ∧
      (∀ k, k < xs.length → w.cell? ⟨g, k, none⟩ = some (.int .i64 (xs.getD k 0))) ∧
      (∀ (k : Nat) (x : Int), OwnI B (w.setCell ⟨g, k, none⟩ (.int .i64 x)) v (xs.set k x)) := by
  have h' := h
  obtain ⟨h1, h2⟩ := h
  rcases h2 with ⟨_, h0⟩ | ⟨g, cap, cur, rfl, hB, hb, hn, hm, hs, ht⟩
  · omega
  · have hc := h'.cells (g := g) rfl
    refine ⟨g, cap, rfl, hn, by unfold maxLen at hm; omega, hB, (Array.getElem?_eq_some_iff.1 hb).1, fun k => frozen_of_row w g k cur _ hb, ?_, ?_⟩
    · intro k hk
      have := hc k (.int .i64 (xs.getD k 0)) (by rw [List.getElem?_map, List.getD_eq_getElem?_getD, List.getElem?_eq_getElem hk]; rfl)
      rwa [add_zero'] at this
    · intro k x
      have b1 := heap_setCell_same w g k cur _ (.int .i64 x) hb
      refine ⟨by simp, .inr ⟨g, cap, _, by simp, hB, b1, by simpa using hn, hm, by simpa using hs, ?_⟩⟩
      rw [List.length_set, Array.toList_setIfInBounds, List.take_set, ht, List.map_set]
theorem OwnK.mono_ {B : Nat} {w : World} {v : Value} {st : List Nat} (h : OwnK B w v st) : ∀ g, v.ownBlock = some g → B ≤ g := fun g hg => (h.lt g hg).1
/-- 'make([]int, n)'. -/
theorem wpList_make_ints {P : Program} (w : World) {ops : Array Oper} {rest : List Oper} {o : Oper} {a : Act} {Q : Exit → Act → World → Prop}
    (hg : o.guard = none) (l c : Operand) (t : TypeId) (hop : o.op = Op.makeSlice t l c) (k : IntKind) (e : TypeId) (bytes : Nat) (h1 : P.underlying t = some (.slice e))
    (h2 : (P.info? e).map (fun i => (i.zero, i.size, i.bytes)) = some (some (.int k 0), 1, bytes))
    (kl kc : IntKind) (L C : Int) (n : Nat) (hl : a.eval l = .int kl L) (hc : a.eval c = .int kc C) (hL : L = (n : Int)) (hC : C = (n : Int)) (hb : bytes ≤ 8) (hn : n ≤ 35184372088832)
    (hK : ∀ w', w'.ownsRow w.heap.size e 1 (.slice (some ⟨w.heap.size, 0, none⟩) n n) n ((List.replicate n (0 : Int)).map (Value.int k)) → w.grownBy w' none → w'.heap.size = w.heap.size + 1 → wpList P ops Q rest (a.put o.dst (.slice (some ⟨w.heap.size, 0, none⟩) n n)) w') :
    wpList P ops Q (o :: rest) a w := by
  obtain ⟨i, hi, hz0, hz1, hz2⟩ := info_parts h2
  refine wpList_plain hg fun K hK' => ?_
  have hbn : i.bytes * n ≤ 8 * 35184372088832 := Nat.mul_le_mul (by omega) hn
  have hrun := run_make (P := P) w t e i (.int k 0) h1 hi hz0 kl kc n n (by omega) (Int.le_refl _) (by
    have : ((i.bytes * n : Nat) : Int) ≤ 281474976710656 := by omega
    simpa using this) (by omega)
  subst hL
  subst hC
  have hcells : (madeCells (Value.int k 0).cells ((n : Int).toNat * i.size)) = ((List.replicate n (0 : Int)).map (Value.int k)).toArray := by
    rw [hz1]
    simp [madeCells, Value.cells]
    apply Array.ext
    · simp
    · intro j h1 h2
      simp [Nat.mod_one]
  rw [hcells] at hrun
  have hk := hK (w.alloc (.cells ((List.replicate n (0 : Int)).map (Value.int k)).toArray e)) ⟨by simp, .inr ⟨w.heap.size, n, _, rfl, Nat.le_refl _, heap_alloc_new w _, Nat.le_refl _, by unfold maxLen; omega, by simp, by simp⟩⟩ (World.grownBy_alloc _ _ _) (by simp)
  unfold Oper.wp
  simp only [Int.toNat_natCast] at hrun
  generalize hcs : ((List.replicate n (0 : Int)).map (Value.int k)).toArray = cs at *
  clear hcs hcells
  simp [execOp, hop, hl, hc, hrun, Result.andThen]
  exact hK' _ _ hk
/-- Where closing is. -/
def ClAt (ts : List S.Tok) (k : Nat) (tq : List Int) (op : List Nat) : Prop := X.cl (ts.drop k) k tq op = X.cl ts 0 [] [] ∧ tq.length = k ∧ op.length ≤ k ∧ ∀ g ∈ op, g < k
theorem set_at (tq : List Int) (n k : Nat) (x : Int) (h1 : tq.length = k) (h2 : k < n) : (tq ++ List.replicate (n - k) 0).set k x = (tq ++ [x]) ++ List.replicate (n - (k + 1)) 0 := by
  subst h1
  rw [List.set_append_right _ _ (Nat.le_refl _), Nat.sub_self, show n - tq.length = (n - (tq.length + 1)) + 1 from by omega, List.replicate_succ]
  simp
theorem set_last (tq : List Int) (n k : Nat) (x y : Int) (h1 : tq.length = k) : ((tq ++ [x]) ++ List.replicate n 0).set k y = (tq ++ [y]) ++ List.replicate n 0 := by
  subst h1
  rw [List.append_assoc, List.set_append_right _ _ (Nat.le_refl _), Nat.sub_self]
  simp
theorem set_old (tq : List Int) (n g : Nat) (y : Int) (h : g < tq.length) : (tq ++ List.replicate n 0).set g y = tq.set g y ++ List.replicate n 0 := by
  rw [List.set_append_left _ _ h]
theorem one_newS (W : World) (a1 a2 : Addr) (u1 u2 x : Value) : ∀ j u, ([x] : List Value)[j]? = some u → (((W.setCell a1 u1).setCell a2 u2).alloc (.cells #[x] 3)).cell? ((⟨W.heap.size, 0, none⟩ : Addr).add j) = some u := by
  have h := cell_one_new ((W.setCell a1 u1).setCell a2 u2) x 3
  simpa using h
/-- What closing answers. -/
def clV (r : (List Int × List Nat) ⊕ (List Int × Nat)) : List Int × Int := match r with | .inl (tq, _) => (tq, -1) | .inr (tq, b) => (tq, b)
set_option maxRecDepth 100000 in
set_option maxHeartbeats 1000000 in
theorem closing_calls (w : World) (v : Value) (ts : List S.Tok) (hv : TRow w v ts) (hn0 : ts.length ≤ 4294967298) (o : List Int × Int) (ho : o = clV (X.cl ts 0 [] [])) :
    Calls Tryz.prog 25 #[v] w fun e w' => ∃ u, e = .returned (.tuple #[u, .int .i64 o.2]) ∧ (∃ m, OwnI w.heap.size w' u (o.1 ++ List.replicate m 0) ∧ o.1.length + m = ts.length) ∧ Below w.heap.size w w' := by
  obtain ⟨i1, hj, hy0, hy1, hy2⟩ := info_parts infoInt
  obtain ⟨n, hn⟩ : ∃ n, ts.length = n := ⟨_, rfl⟩
  obtain ⟨a1, cp1, rfl, n1, n1'⟩ := hv.shape
  have t1 := hide hv
  rw [hn] at n1 hn0 t1 ⊢
  have hnH := hide hn
  have hoH := hide ho
  clear hv hn ho
  have QA : Hid True := trivial
  go_enter Tryz.func25, Tryz.ntmps25
  go_wp2_with (first
    | (at_make; have y := QA; clear y; refine wpList_make_ints _ rfl _ _ 59 rfl .i64 3 8 sliceInt infoInt .i64 .i64 _ _ n rfl rfl rfl rfl (by decide) (by omega) ?_; intro w1 o1 g1 z1; replace o1 := hide o1; replace g1 := hide g1; clear QA)
    | (at_make; refine wpList_make_ints _ rfl _ _ 59 rfl .i64 3 8 sliceInt infoInt .i64 .i64 _ _ 0 rfl rfl rfl rfl (by decide) (by omega) ?_; intro w2 o2 g2 z2; replace o2 := hide o2; replace g2 := hide g2))
  have T2 : OwnI w.heap.size w2 (.slice (some ⟨w.heap.size, 0, none⟩) n n) ([] ++ List.replicate (n - 0) 0) := by
    have := o1.out.kept g2.out (.inr (by simp [Value.ownBlock]))
    unfold OwnI
    simpa using this
  have K2 : OwnK (w.heap.size + 1) w2 (.slice (some ⟨w.heap.size + 1, 0, none⟩) 0 0) [] := by
    have := o2.out
    rw [z1] at this
    unfold OwnK
    simpa using this
  replace T2 := hide T2
  replace K2 := hide K2
  have B2 : Hid (Below w.heap.size w w2) := ((Below.refl _ w).grown g1.out (Nat.le_refl _) (by simp)).grown g2.out (by omega) (by simp)
  have P2 : Hid (ClAt ts 0 [] []) := ⟨rfl, rfl, Nat.le_refl _, fun g hg => by simp at hg⟩
  clear o1 o2 g1 g2
  go_loopw [5, 6] (fun u j wr => ∃ (k : Nat) (tq : List Int) (op : List Nat), k ≤ n ∧ j = .int .i64 k ∧ Hid (ClAt ts k tq op) ∧ Hid (OwnI w.heap.size wr (.slice (some ⟨w.heap.size, 0, none⟩) n n) (tq ++ List.replicate (n - k) 0)) ∧ Hid (OwnK (w.heap.size + 1) wr u op) ∧ Hid (Below w.heap.size w wr)) (fun _ j _ => n - (intOf j).toNat)
  case atStart => exact ⟨0, [], [], Nat.zero_le _, rfl, P2, T2, K2, B2⟩
  case round =>
    clear P2 T2 K2 B2 z1 z2
    obtain ⟨k, tq, op, hk, rfl, hP, hT, hK, hB⟩ := hrel
    have hwz : w.heap.size ≤ wr.heap.size := hB.out.size
    obtain ⟨ua, uc, hu⟩ := own_shape (ownsRow_zero hK.out)
    subst hu
    by_cases hlt : k < n
    · have hkl : k < ts.length := by rw [hnH.out]; exact hlt
      have hTl : (tq ++ List.replicate (n - k) 0).length = n := by have := hP.out.2.1; simp; omega
      obtain ⟨G, cp, eG, _, _, _, hGl, fz, hcell, hset⟩ := hT.out.at_ (j := k) (by omega)
      rw [hTl] at eG hcell
      cases eG
      obtain ⟨b, off, rfl, x0, x1, x2, x3⟩ := (t1.out.below hB.out).at_ hkl
      obtain ⟨b', off', eb, y0, _, _, _⟩ := t1.out.at_ hkl
      cases eb
      have hbG : b < w.heap.size := World.block_lt_of_cell? w _ y0
      have hb1 : ¬ b = w.heap.size := by omega
      have hb2 : ¬ w.heap.size = b := by omega
      have ed := tok_split ts k hkl
      have hP1 := hP.out.1
      rw [ed] at hP1
      generalize ts.getD k tk0 = t at x0 x1 x2 x3 hP1
      obtain ⟨tk, tb, tf, tx⟩ := t
      simp only at x0 x1 x2 x3
      have ik : (k : Int) < n := by omega
      clear ed y0 x1 x2 x3
      generalize hR : X.cl ts 0 [] [] = R at hP1
      unfold X.cl at hP1
      simp only at hP1
      subst hR
      have ck := hcell k hlt
      have fk := fz k
      obtain ⟨M, hM⟩ : ∃ M, op.length = M := ⟨_, rfl⟩
      have hMk : M ≤ k := by rw [← hM]; exact hP.out.2.2.1
      have hK2 := hK.out
      unfold OwnK at hK2
      rw [hM] at hK2 hK ⊢
      replace hK2 := hide hK2
      have hMh := hide hM
      clear hM
      have hap : (Value.slice ua M uc).ownBlock ≠ some w.heap.size := fun e => by have := (hK2.out.lt _ e).1; omega
      have hapH := hide hap
      have hTk := hP.out.2.1
      clear hap
      by_cases h1 : tk = 1
      · subst h1
        rw [if_pos rfl] at hP1
        have hP2 : Hid (ClAt ts (k + 1) (tq ++ [-1]) (k :: op)) := by
          have hMe := hMh.out
          refine ⟨hP1, by simp; omega, by simp; omega, ?_⟩
          intro g hg
          rcases List.mem_cons.1 hg with rfl | hg
          · omega
          · have := hP.out.2.2.2 g hg
            omega
        have hT2 : Hid (OwnI w.heap.size ((wr.setCell ⟨w.heap.size, k, none⟩ (.int .i64 (k : Int))).setCell ⟨w.heap.size, k, none⟩ (.int .i64 (-1))) (.slice (some ⟨w.heap.size, 0, none⟩) n n) ((tq ++ [-1]) ++ List.replicate (n - (k + 1)) 0)) := by
          have s1 := hset k k
          rw [set_at tq n k k hTk hlt] at s1
          obtain ⟨G2, cp2, eG2, _, _, _, _, _, _, hset2⟩ := s1.at_ (j := k) (by simp; omega)
          simp only [Value.slice.injEq, Option.some.injEq, Addr.mk.injEq] at eG2
          have s2 := hset2 k (-1)
          rw [set_last tq _ k k (-1) hTk, ← eG2.1.1] at s2
          exact s2
        have hB2 : Hid (Below w.heap.size w ((wr.setCell ⟨w.heap.size, k, none⟩ (.int .i64 (k : Int))).setCell ⟨w.heap.size, k, none⟩ (.int .i64 (-1)))) := (hB.out.setCell (Nat.le_refl _) _).setCell (Nat.le_refl _) _
        have hK3 : Hid (((wr.setCell ⟨w.heap.size, k, none⟩ (.int .i64 (k : Int))).setCell ⟨w.heap.size, k, none⟩ (.int .i64 (-1))).ownsRow (w.heap.size + 1) 3 1 (.slice ua M uc) M (op.reverse.map fun n : Nat => .int .i64 (n : Int))) := World.ownsRow.kept (World.ownsRow.kept hK2.out (set_grown _ _ _ _) (.inr hapH.out)) (set_grown _ _ _ _) (.inr hapH.out)
        clear hP1 hP hset hcell fz
        go_wp2_with (at_builtin; (refine wpList_append_own _ rfl _ _ 59 rfl (w.heap.size + 1) 3 i1 (.int .i64 0) 1 8 sliceInt hj hy0 hy1 hy2 rfl (by decide) _ M _ rfl (hK3.out.alloc _) ⟨wr.heap.size, 0, none⟩ 1 1 [.int .i64 (k : Int)] rfl rfl (one_newS _ _ _ _ _ _) (by simp [Value.oneCell']) (by unfold maxLen; omega) (by omega) (by simp; omega) ?_; intro u3 w3 o3 g3 _; have b3 := (hB2.out.alloc hB2.out.size _).grown g3 (by simp; omega) (fun g hg => by have := (hK2.out.lt g hg).1; omega); have x5 := (b3.cell (p := ⟨b, off + k * 4, none⟩) hbG).trans ((hB.out.cell (p := ⟨b, off + k * 4, none⟩) hbG).symm.trans x0); replace b3 := hide b3; replace o3 := hide o3; replace g3 := hide g3))
        refine ⟨⟨k + 1, _, _, by omega, by go_num, hP2, World.ownsRow.kept (World.ownsRow.alloc hT2.out _) g3.out (.inr ?_), OwnK.push hMh.out o3.out, b3.out⟩, by simp [intOf]; omega⟩
        intro e
        exact hapH.out e.symm
      · by_cases h2 : tk = 2
        · subst h2
          rw [if_neg (by decide), if_pos rfl] at hP1
          cases op with
          | nil =>
            have hM0 : M = 0 := by have := hMh.out; simpa using this.symm
            subst hM0
            have out : Hid (o = (tq ++ [(k : Int)], (k : Int))) := by
              have h1 := hoH.out
              rw [← hP1] at h1
              exact h1
            have s1 : Hid (OwnI w.heap.size (wr.setCell ⟨w.heap.size, k, none⟩ (.int .i64 (k : Int))) (.slice (some ⟨w.heap.size, 0, none⟩) n n) ((tq ++ [(k : Int)]) ++ List.replicate (n - (k + 1)) 0)) := by
              have s1 := hset k k
              rw [set_at tq n k k hTk hlt] at s1
              exact s1
            clear hP1 hP hset hcell fz
            go_wp2
            refine bodyPost_ret (v := .tuple #[.slice (some ⟨w.heap.size, 0, none⟩) n n, .int .i64 (k : Int)]) (by simp [results, Tryz.results25, go_sem]) rfl ?_
            exact ⟨_, by rw [out.out], ⟨n - (k + 1), by rw [out.out]; exact s1.out, by rw [out.out]; simp; omega⟩, hB.out.setCell (Nat.le_refl _) _⟩
          | cons g op' =>
            simp only at hP1
            have hgk := hP.out.2.2.2 g List.mem_cons_self
            obtain ⟨gk, kc, ek, q1, q2, q3, q4, ctop, kpop, clast⟩ := hK.out.top
            obtain ⟨Q, hQ⟩ : ∃ Q, op'.length = Q := ⟨_, rfl⟩
            rw [hQ] at ek q1 ctop kpop
            cases ek
            have hP2 : Hid (ClAt ts (k + 1) ((tq ++ [(k : Int)]).set g k) op') := by
              have hPo := hP.out
              have hMe := hMh.out
              refine ⟨hP1, by simp; omega, by omega, ?_⟩
              intro g' hg'
              have := hPo.2.2.2 g' (List.mem_cons_of_mem _ hg')
              omega
            have gkn : ¬ gk = w.heap.size := by omega
            have gkn2 : ¬ w.heap.size = gk := by omega
            have s1 := hset k k
            rw [set_at tq n k k hTk hlt] at s1
            obtain ⟨G2, cp2, eG2, _, _, _, _, fz2, hcell2, hset2⟩ := s1.at_ (j := k) (by simp; omega)
            simp only [Value.slice.injEq, Option.some.injEq, Addr.mk.injEq] at eG2
            have s2 := hset2 g k
            have cg := hcell2 g (by simp; omega)
            have fg := fz2 g
            rw [← eG2.1.1] at s2 cg fg
            rw [set_old (tq ++ [(k : Int)]) _ g k (by simp; omega)] at s2
            replace s2 := hide s2
            have cgw := hcell g (by omega)
            have fgw := fz g
            have hB2 : Hid (Below w.heap.size w ((wr.setCell ⟨w.heap.size, k, none⟩ (.int .i64 (k : Int))).setCell ⟨w.heap.size, g, none⟩ (.int .i64 (k : Int)))) := (hB.out.setCell (Nat.le_refl _) _).setCell (Nat.le_refl _) _
            have hap2 : (Value.slice (some ⟨gk, 0, none⟩) Q uc).ownBlock ≠ some w.heap.size := by simp [Value.ownBlock]; omega
            have hK3 : Hid (OwnK (w.heap.size + 1) ((wr.setCell ⟨w.heap.size, k, none⟩ (.int .i64 (k : Int))).setCell ⟨w.heap.size, g, none⟩ (.int .i64 (k : Int))) (.slice (some ⟨gk, 0, none⟩) Q uc) op') := World.ownsRow.kept (World.ownsRow.kept kpop (set_grown _ _ _ _) (.inr hap2)) (set_grown _ _ _ _) (.inr hap2)
            have gi : (g : Int) < n := by omega
            clear hP1 hP hset hcell fz s1 hset2 hcell2 fz2 eG2 hap2 kpop clast
            go_wp2
            refine ⟨⟨k + 1, _, _, by omega, by go_num, hP2, s2.out, hK3.out, hB2.out⟩, by simp [intOf]; omega⟩
        · rw [if_neg h1, if_neg h2] at hP1
          have hP2 : Hid (ClAt ts (k + 1) (tq ++ [(k : Int)]) op) := by
            have hPo := hP.out
            have hMe := hMh.out
            refine ⟨hP1, by simp; omega, by omega, ?_⟩
            intro g' hg'
            have := hPo.2.2.2 g' hg'
            omega
          have s1 : Hid (OwnI w.heap.size (wr.setCell ⟨w.heap.size, k, none⟩ (.int .i64 (k : Int))) (.slice (some ⟨w.heap.size, 0, none⟩) n n) ((tq ++ [(k : Int)]) ++ List.replicate (n - (k + 1)) 0)) := by
            have s1 := hset k k
            rw [set_at tq n k k hTk hlt] at s1
            exact s1
          have k1 : ¬ (tk : Int) = 1 := by omega
          have k2 : ¬ (tk : Int) = 2 := by omega
          clear hP1 hP hset hcell fz h1 h2
          go_wp2
          refine ⟨⟨k + 1, _, _, by omega, by go_num, hP2, s1.out, World.ownsRow.kept hK.out (set_grown _ _ _ _) (.inr hapH.out), hB.out.setCell (Nat.le_refl _) _⟩, by simp [intOf]; omega⟩
    · have ik : ¬ (k : Int) < n := by omega
      have hkn : k = n := by omega
      have hP1 := hP.out.1
      rw [List.drop_eq_nil_of_le (by rw [hnH.out]; omega)] at hP1
      generalize hR : X.cl ts 0 [] [] = R at hP1
      unfold X.cl at hP1
      subst hP1
      have out : Hid (o = (tq, -1)) := by
        have h1 := hoH.out
        rw [hR] at h1
        exact h1
      clear hR
      go_wp2
      refine bodyPost_ret (v := .tuple #[.slice (some ⟨w.heap.size, 0, none⟩) n n, .int .i64 (-1)]) (by simp [results, Tryz.results25, go_sem]) rfl ?_
      exact ⟨_, by rw [out.out], ⟨n - k, by rw [out.out]; exact hT.out, by rw [out.out]; have := hP.out.2.1; have := hnH.out; simp only; omega⟩, hB.out⟩
end Go.Proofs.YtackibimlpkcmaaGreatDoor
