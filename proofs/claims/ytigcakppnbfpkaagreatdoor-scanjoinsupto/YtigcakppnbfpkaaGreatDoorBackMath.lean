/-
  What Join writes is read back, in plain words (spl_read, jn_read: ScanBack's heart).
-/
import Derived.Test.YtigcakppnbfpkaaGreatDoorJoinMath
namespace Go.Proofs.YtigcakppnbfpkaaGreatDoor.S
set_option linter.unusedVariables false
variable (res : List UInt8 → Bool)
theorem dl_sym {r : List UInt8} (h : Dl r) : ∀ c s', r = c :: s' → sym c = false := by
  intro c s' e
  rcases h with rfl | ⟨t, rfl | rfl⟩
  · cases e
  · cases e; decide
  · cases e; decide
theorem okTail_bar2 : ∀ (n lo hi : Nat) (t r : List UInt8), 128 ≤ lo → okTail n lo hi (t ++ 124 :: r) = okTail n lo hi t
  | 0, _, _, _, _, _ => rfl
  | n + 1, lo, hi, [], r, h => by
    rw [List.nil_append, okTail, okTail]
    have : ¬ (lo ≤ (124 : UInt8).toNat ∧ (124 : UInt8).toNat ≤ hi) := by
      intro q
      have e : (124 : UInt8).toNat = 124 := rfl
      omega
    rw [decide_eq_false this]
    rfl
  | n + 1, lo, hi, c :: t, r, h => by
    rw [List.cons_append, okTail, okTail, okTail_bar2 n 0x80 0xBF t r (by decide)]
theorem chr_bar2 (b : UInt8) (t r : List UInt8) : chr (b :: (t ++ 124 :: r)) = chr (b :: t) := by
  rw [chr_cons, chr_cons]
  by_cases h1 : b.toNat < 128
  · rw [if_pos h1, if_pos h1]
  · rw [if_neg h1, if_neg h1]
    by_cases h2 : (follow b).1 = 0
    · rw [if_pos h2, if_pos h2]
    · rw [if_neg h2, if_neg h2, okTail_bar2 _ _ _ _ _ (follow_low b h2)]
theorem bars_kind (g : Nat) (a l : List UInt8) (i : Nat) : ∀ tk r, dBars g a l i = .tok tk r → tk.kind = 3 := by
  induction hm : l.length using Nat.strongRecOn generalizing a l i with
  | _ n ih =>
    intro tk r h
    cases l with
    | nil => rw [dBars] at h; cases h
    | cons b t =>
      by_cases n1 : b = 124
      · rw [dBars, if_pos n1] at h
        have := (tok_inj h).1
        rw [← this]
      · by_cases n2 : b = 92
        · rw [dBars, if_neg n1, if_pos n2] at h
          cases h
        · by_cases hc : ctl b = true
          · rw [dBars, if_neg n1, if_neg n2, if_pos hc] at h
            cases h
          · by_cases h0 : chr (b :: t) = 0
            · rw [dBars, if_neg n1, if_neg n2, if_neg hc, dif_pos h0] at h
              cases h
            · have hle := chr_le (b :: t)
              rw [dBars_on g a i n1 n2 (by simpa using hc) h0] at h
              exact ih _ (by rw [List.length_drop]; simp at *; omega) _ _ _ rfl tk r h
theorem bars_more (g : Nat) (a l r : List UInt8) (i : Nat) (h : wr l = true) (hn : nobar l = true) : dBars g a (l ++ 124 :: r) i = .tok ⟨3, g, i + l.length + 1, a ++ l⟩ r := by
  induction hm : l.length using Nat.strongRecOn generalizing a l i with
  | _ n ih =>
    cases l with
    | nil =>
      rw [List.nil_append, dBars, if_pos rfl]
      subst hm
      simp
    | cons b t =>
      have n1 : b ≠ 124 := by rintro rfl; simp [nobar] at hn
      have n2 : b ≠ 92 := by rintro rfl; simp [nobar] at hn
      have hc : ctl b = false := by
        cases hc : ctl b
        · rfl
        · rw [wr_ctl hc] at h
          exact absurd h (by simp)
      have h0 : chr (b :: t) ≠ 0 := by
        intro e
        rw [wr_none e] at h
        exact absurd h (by simp)
      have hle := chr_le (b :: t)
      rw [wr_on hc h0] at h
      rw [nobar_char b t h0 n1 n2] at hn
      rw [List.cons_append, dBars_on g a i n1 n2 hc (by rw [chr_bar2]; exact h0)]
      rw [chr_bar2, ← List.cons_append, List.take_append_of_le_length hle, List.drop_append_of_le_length hle]
      rw [ih ((b :: t).drop (chr (b :: t))).length (by rw [List.length_drop]; simp at *; omega) _ _ _ h hn rfl, List.append_assoc, List.take_append_drop]
      subst hm
      congr 3
      rw [List.length_drop]
      omega
theorem okTail_front : ∀ (n lo hi : Nat) (t u : List UInt8), okTail n lo hi t = true → t.take n = u.take n → okTail n lo hi u = true
  | 0, _, _, _, _, _, _ => rfl
  | n + 1, lo, hi, [], u, h, _ => by simp [okTail] at h
  | n + 1, lo, hi, c :: t, u, h, e => by
    cases u with
    | nil => simp at e
    | cons d u =>
      rw [List.take_succ_cons, List.take_succ_cons] at e
      obtain ⟨rfl, e'⟩ := List.cons.inj e
      rw [okTail, Bool.and_eq_true] at h ⊢
      exact ⟨h.1, okTail_front n 0x80 0xBF t u h.2 e'⟩
/-- A character is told by its own bytes. -/
theorem chr_front (b : UInt8) (t u : List UInt8) (h : chr (b :: t) ≠ 0) (e : (b :: t).take (chr (b :: t)) = (b :: u).take (chr (b :: t))) : chr (b :: u) = chr (b :: t) := by
  rw [chr_cons] at *
  rw [chr_cons]
  by_cases h1 : b.toNat < 128
  · rw [if_pos h1, if_pos h1]
  · rw [if_neg h1] at *
    rw [if_neg h1]
    by_cases h2 : (follow b).1 = 0
    · rw [if_pos h2] at h
      exact absurd rfl h
    · rw [if_neg h2] at *
      rw [if_neg h2]
      by_cases h3 : okTail (follow b).1 (follow b).2.1 (follow b).2.2 t = true
      · rw [if_pos h3] at e ⊢
        rw [List.take_succ_cons, List.take_succ_cons] at e
        rw [if_pos (okTail_front _ _ _ t u h3 (List.cons.inj e).2)]
      · rw [if_neg h3] at h
        exact absurd rfl h
theorem dStr_on (g : Nat) (a : List UInt8) {b : UInt8} {t : List UInt8} (i : Nat) (n1 : b ≠ 34) (hc : ctl b = false) (h : chr (b :: t) ≠ 0) : dStr g a (b :: t) i = dStr g (a ++ (b :: t).take (chr (b :: t))) ((b :: t).drop (chr (b :: t))) (i + chr (b :: t)) := by
  rw [dStr.eq_def]
  simp [n1, hc, h]
theorem str_more (g : Nat) (a l r : List UInt8) (i : Nat) (h : wr l = true) (hr : Dl r) : dStr g a (dbl l ++ 34 :: r) i = .tok ⟨9, g, i + (dbl l).length + 1, a ++ l⟩ r := by
  induction hm : l.length using Nat.strongRecOn generalizing a l i with
  | _ n ih =>
    cases l with
    | nil =>
      rw [dbl_nil, List.nil_append, dStr.eq_def]
      rcases hr with rfl | ⟨t, rfl | rfl⟩
      · simp
      · simp
      · simp
    | cons b t =>
      have hc : ctl b = false := by
        cases hc : ctl b
        · rfl
        · rw [wr_ctl hc] at h
          exact absurd h (by simp)
      have h0 : chr (b :: t) ≠ 0 := by
        intro e
        rw [wr_none e] at h
        exact absurd h (by simp)
      have hle := chr_le (b :: t)
      rw [wr_on hc h0] at h
      by_cases h34 : b = 34
      · subst h34
        have h1 : chr (34 :: t) = 1 := by rw [chr_cons]; rfl
        rw [h1] at h
        have h' : wr t = true := h
        rw [dbl_cons, if_pos rfl]
        show dStr g a (34 :: 34 :: (dbl t ++ 34 :: r)) i = _
        rw [dStr.eq_def]
        simp only [if_true]
        rw [ih t.length (by rw [← hm]; simp) _ t _ h' rfl]
        have e1 : i + 2 + (dbl t).length + 1 = i + ([34, 34] ++ dbl t).length + 1 := by simp; omega
        have e2 : (a ++ [34]) ++ t = a ++ 34 :: t := by simp
        rw [e1, e2]
      · have hd := dbl_char b t h0
        rw [if_neg h34, List.nil_append] at hd
        obtain ⟨c, u, hcu⟩ : ∃ c u, (b :: t).take (chr (b :: t)) = c :: u := by
          obtain ⟨m, hmm⟩ : ∃ m, chr (b :: t) = m + 1 := ⟨chr (b :: t) - 1, by omega⟩
          rw [hmm, List.take_succ_cons]
          exact ⟨_, _, rfl⟩
        have hcb : c = b := by
          obtain ⟨m, hmm⟩ : ∃ m, chr (b :: t) = m + 1 := ⟨chr (b :: t) - 1, by omega⟩
          rw [hmm, List.take_succ_cons] at hcu
          exact (List.cons.inj hcu).1.symm
        subst hcb
        have hul : (c :: u).length = chr (c :: t) := by rw [← hcu, List.length_take, Nat.min_eq_left hle]
        have hsplit : dbl (c :: t) = (c :: u) ++ dbl ((c :: t).drop (chr (c :: t))) := by
          conv => lhs; rw [← List.take_append_drop (chr (c :: t)) (c :: t)]
          rw [dbl_append, hd, hcu]
        rw [hsplit]
        show dStr g a (c :: (u ++ dbl ((c :: t).drop (chr (c :: t))) ++ 34 :: r)) i = _
        generalize hX : dbl ((c :: t).drop (chr (c :: t))) = X at *
        have hch : chr (c :: (u ++ X ++ 34 :: r)) = chr (c :: t) := by
          refine chr_front c t _ h0 ?_
          rw [hcu]
          have : c :: (u ++ X ++ 34 :: r) = (c :: u) ++ (X ++ 34 :: r) := by simp
          rw [this, ← hul, List.take_left]
        have hX2 : c :: (u ++ X ++ 34 :: r) = (c :: u) ++ (X ++ 34 :: r) := by simp
        rw [dStr_on g a i h34 hc (by rw [hch]; exact h0), hch, hX2, ← hul, List.take_left, List.drop_left, ← hX]
        rw [ih ((c :: t).drop (chr (c :: t))).length (by rw [List.length_drop]; simp at *; omega) _ _ _ h rfl]
        have e2 : (a ++ c :: u) ++ (c :: t).drop (chr (c :: t)) = a ++ c :: t := by
          rw [List.append_assoc, ← hcu, List.take_append_drop]
        rw [e2]
        have e3 : i + (c :: u).length + (dbl ((c :: t).drop (chr (c :: t)))).length + 1 = i + ((c :: u) ++ dbl ((c :: t).drop (chr (c :: t)))).length + 1 := by
          rw [List.length_append]
          omega
        rw [e3]
/-- A name with a delimiter behind it. -/
theorem name_more (k g : Nat) (a t r : List UInt8) (i : Nat) (ht : ∀ x, x ∈ t → sym x = true) (hr : Dl r) : run res (.name k g a) (t ++ r) i = pre [tok res k g (i + t.length) (a ++ t)] (run res .idle r (i + t.length)) := by
  obtain ⟨e1, e2⟩ := front_of sym t r ht (dl_sym hr)
  rw [run_name, e1, e2]
theorem smp_parts {x : List UInt8} (h : smp x = true) : ∃ b t, x = b :: t ∧ dig b = false ∧ sym b = true ∧ ∀ y, y ∈ t → sym y = true := by
  cases x with
  | nil => simp [smp] at h
  | cons b t =>
    have h : (!dig b && (b :: t).all sym) = true := h
    rw [Bool.and_eq_true] at h
    have ha := List.all_eq_true.1 h.2
    exact ⟨b, t, rfl, by simpa using h.1, ha b List.mem_cons_self, fun y hy => ha y (List.mem_cons_of_mem _ hy)⟩
theorem oneOf_parts {k : Int} {x : List UInt8} (h : oneOf res k x = true) : ∃ t, run res .idle x 0 = ([t], 0, 0) ∧ (t.kind : Int) = k ∧ t.text = x := by
  have hp := run_place res x .idle 0
  unfold oneOf at h
  rcases hr : run res .idle x 0 with ⟨ts, e, p⟩
  rw [hr] at h hp
  simp only at h hp
  split at h
  · rename_i t
    rw [Bool.and_eq_true] at h
    refine ⟨t, by rw [hp rfl], of_decide_eq_true h.1, by simpa using h.2⟩
  · exact absurd h (by simp)
/-- A token's spelling is read as that token. -/
theorem spl_read {k : Int} {x s : List UInt8} (h : spl res k x = some s) (r : List UInt8) (i : Nat) (hr : k = 1 ∨ k = 2 ∨ Dl r) :
    ∃ t : Tok, run res .idle (s ++ r) i = pre [t] (run res .idle r (i + s.length)) ∧ (t.kind : Int) = k ∧ t.text = x := by
  unfold spl at h
  by_cases h3 : k = 3
  · have hd : Dl r := by rcases hr with h | h | h <;> first | omega | exact h
    rw [if_pos h3] at h
    unfold quo at h
    by_cases hs : (smp x && !res x) = true
    · rw [if_pos hs] at h
      cases h
      rw [Bool.and_eq_true] at hs
      obtain ⟨b, t, rfl, h1, h2, h4⟩ := smp_parts hs.1
      have hlt := sym_lt h2
      have hst : step res .idle b i = .go [] (.name 3 i [b]) := by
        show stepIdle b i = _
        unfold stepIdle
        rw [if_neg (by omega), if_neg (by rw [h1]; simp), if_pos h2]
      rw [List.cons_append, run_go res hst, pre_nil, name_more res 3 i [b] t r (i + 1) h4 hd]
      refine ⟨tok res 3 i (i + 1 + t.length) ([b] ++ t), ?_, ?_, rfl⟩
      · rw [List.length_cons, Nat.add_assoc i 1, Nat.add_comm 1]
      · show ((word res 3 ([b] ++ t) : Nat) : Int) = k
        unfold word
        have : res (b :: t) = false := by simpa using hs.2
        rw [if_neg (by simp [this])]
        omega
    · rw [if_neg hs] at h
      by_cases hw : (wr x && nobar x) = true
      · rw [if_pos hw] at h
        cases h
        rw [Bool.and_eq_true] at hw
        have e : (124 :: (x ++ [124])) ++ r = 124 :: (x ++ 124 :: r) := by simp
        rw [e, run_one res 124 _ i (by decide) (by decide)]
        have ho : dOne res 124 (x ++ 124 :: r) i = dBars i [] (x ++ 124 :: r) (i + 1) := by
          unfold dOne
          simp
        rw [ho, bars_more i [] x r (i + 1) hw.1 hw.2]
        refine ⟨⟨3, i, i + 1 + x.length + 1, [] ++ x⟩, ?_, by show ((3 : Nat) : Int) = k; omega, rfl⟩
        show pre _ (run res .idle r (i + 1 + x.length + 1)) = _
        rw [show i + (124 :: (x ++ [124])).length = i + 1 + x.length + 1 from by simp; omega]
      · rw [if_neg hw] at h
        cases h
  · rw [if_neg h3] at h
    by_cases h9 : k = 9
    · have hd : Dl r := by rcases hr with h | h | h <;> first | omega | exact h
      rw [if_pos h9] at h
      unfold lit at h
      by_cases hw : wr x = true
      · rw [if_pos hw] at h
        cases h
        have e : (34 :: (dbl x ++ [34])) ++ r = 34 :: (dbl x ++ 34 :: r) := by simp
        rw [e, run_one res 34 _ i (by decide) (by decide)]
        have ho : dOne res 34 (dbl x ++ 34 :: r) i = dStr i [] (dbl x ++ 34 :: r) (i + 1) := by
          unfold dOne
          simp
        rw [ho, str_more i [] x r (i + 1) hw hd]
        refine ⟨⟨9, i, i + 1 + (dbl x).length + 1, [] ++ x⟩, ?_, by show ((9 : Nat) : Int) = k; omega, rfl⟩
        show pre _ (run res .idle r (i + 1 + (dbl x).length + 1)) = _
        rw [show i + (34 :: (dbl x ++ [34])).length = i + 1 + (dbl x).length + 1 from by simp; omega]
      · rw [if_neg hw] at h
        cases h
    · rw [if_neg h9] at h
      by_cases h10 : k = 10
      · have hd : Dl r := by rcases hr with h | h | h <;> first | omega | exact h
        rw [if_pos h10] at h
        by_cases hs : smp x = true
        · rw [if_pos hs] at h
          cases h
          obtain ⟨b, t, rfl, h1, h2, h4⟩ := smp_parts hs
          have hst : step res .idle 58 i = .go [] (.colon i) := by
            show stepIdle 58 i = _
            rfl
          have hst2 : step res (.colon i) b (i + 1) = .go [] (.name 10 i [b]) := by
            show (if sym b ∧ ¬ dig b then _ else _) = _
            rw [if_pos ⟨h2, by rw [h1]; simp⟩]
          rw [List.cons_append, run_go res hst, pre_nil, List.cons_append, run_go res hst2, pre_nil, name_more res 10 i [b] t r (i + 1 + 1) h4 hd]
          refine ⟨tok res 10 i (i + 1 + 1 + t.length) ([b] ++ t), ?_, ?_, rfl⟩
          · rw [show i + (58 :: b :: t).length = i + 1 + 1 + t.length from by simp; omega]
          · show ((word res 10 ([b] ++ t) : Nat) : Int) = k
            unfold word
            rw [if_neg (by simp)]
            omega
        · rw [if_neg hs] at h
          cases h
      · rw [if_neg h10] at h
        by_cases ho : oneOf res k x = true
        · rw [if_pos ho] at h
          cases h
          obtain ⟨t, e1, e2, e3⟩ := oneOf_parts res ho
          have hk := run_okL res x .idle 0 trivial t (by rw [e1]; exact List.mem_cons_self)
          obtain ⟨k1, k2, k3, k4, k5⟩ := hk
          by_cases h1 : k = 1
          · have hx : x = [40] := by rw [← e3]; exact k4 (by omega)
            subst hx
            refine ⟨⟨1, i, i + 1, [40]⟩, ?_, by show ((1 : Nat) : Int) = k; omega, rfl⟩
            have hst : step res .idle 40 i = .go [⟨1, i, i + 1, [40]⟩] .idle := rfl
            rw [List.cons_append, run_go res hst]
            rfl
          · by_cases h2 : k = 2
            · have hx : x = [41] := by rw [← e3]; exact k5 (by omega)
              subst hx
              refine ⟨⟨2, i, i + 1, [41]⟩, ?_, by show ((2 : Nat) : Int) = k; omega, rfl⟩
              have hst : step res .idle 41 i = .go [⟨2, i, i + 1, [41]⟩] .idle := rfl
              rw [List.cons_append, run_go res hst]
              rfl
            · have hd : Dl r := by rcases hr with h | h | h <;> first | omega | exact h
              have hlen := k1 (by omega) (by omega) (by omega)
              rw [e3] at hlen
              have hst := run_stands res x 0
              rw [e1] at hst
              obtain ⟨n, m, m1, m2, m3, m4, -⟩ := hst
              have hfin : t.fin = x.length := by omega
              have hbeg : t.beg = 0 := by omega
              have hnow : ¬ now x t := by
                rintro (h | h | h)
                · omega
                · omega
                · rw [hbeg] at h
                  cases x with
                  | nil => simp at h
                  | cons c y =>
                    have hc : c = 124 := by simpa using h
                    subst hc
                    rw [run_one res 124 y 0 (by decide) (by decide)] at e1
                    have hoo : dOne res 124 y 0 = dBars 0 [] y 1 := by unfold dOne; simp
                    rw [hoo] at e1
                    rcases hD : dBars 0 [] y 1 with ⟨tk, rr⟩ | ⟨e, p⟩
                    · rw [hD] at e1
                      have hcut := bars_kind 0 [] y 1 tk rr hD
                      have : tk = t := by
                        have h1 : [tk] ++ (run res .idle rr tk.fin).1 = [t] := (Prod.mk.inj e1).1
                        exact (List.cons.inj h1).1
                      rw [this] at hcut
                      omega
                    · rw [hD] at e1
                      have h1 : ([] : List Tok) = [t] := (Prod.mk.inj e1).1
                      simp at h1
              have := run_alone res x r t 0 i e1 hfin hnow hd
              exact ⟨shT i t, this, by show ((t.kind : Nat) : Int) = k; exact e2, e3⟩
        · rw [if_neg ho] at h
          cases h
/-- What is written behind a token begins with a delimiter, or the token is a parenthesis. -/
theorem jn_dl {k : Int} {l : List (Int × List UInt8)} {t : List UInt8} (h : jn res (some k) l = some t) : k = 1 ∨ Dl t := by
  by_cases h1 : k = 1
  · exact .inl h1
  · right
    cases l with
    | nil =>
      have : t = [] := by
        rw [jn] at h
        exact (Option.some.inj h).symm
      exact .inl this
    | cons y r =>
      obtain ⟨k', x⟩ := y
      rw [jn] at h
      cases hs : spl res k' x with
      | none => rw [hs] at h; cases h
      | some s =>
        rw [hs] at h
        simp only at h
        cases hj : jn res (some k') r with
        | none => rw [hj] at h; cases h
        | some u =>
          rw [hj] at h
          have h := (Option.some.inj h).symm
          by_cases h2 : k' = 2
          · subst h2
            have hx : s = [41] := by
              unfold spl at hs
              rw [if_neg (by decide), if_neg (by decide), if_neg (by decide)] at hs
              by_cases ho : oneOf res 2 x = true
              · rw [if_pos ho] at hs
                cases hs
                obtain ⟨t', e1, e2, e3⟩ := oneOf_parts res ho
                have hk := run_okL res x .idle 0 trivial t' (by rw [e1]; exact List.mem_cons_self)
                rw [← e3]
                exact hk.2.2.2.2 (by omega)
              · rw [if_neg ho] at hs
                cases hs
            rw [h, hx]
            right
            refine ⟨u, .inr ?_⟩
            simp [sep]
          · rw [h]
            right
            refine ⟨s ++ u, .inl ?_⟩
            have : sep (some k) k' = [32] := by
              unfold sep
              exact if_pos ⟨h1, h2⟩
            rw [this]
            simp
/-- What Join writes is read back. -/
theorem jn_read : ∀ (l : List (Int × List UInt8)) (p : Option Int) (s : List UInt8) (i : Nat), jn res p l = some s → ∃ ts : List Tok, run res .idle s i = (ts, 0, 0) ∧ ts.map (fun t => ((t.kind : Int), t.text)) = l
  | [], p, s, i, h => by
    have : s = [] := by
      rw [jn] at h
      exact (Option.some.inj h).symm
    subst this
    exact ⟨[], rfl, rfl⟩
  | (k, x) :: r, p, s, i, h => by
    rw [jn] at h
    cases hs : spl res k x with
    | none => rw [hs] at h; cases h
    | some a =>
      rw [hs] at h
      simp only at h
      cases hj : jn res (some k) r with
      | none => rw [hj] at h; cases h
      | some u =>
        rw [hj] at h
        have h := (Option.some.inj h).symm
        have hd : k = 1 ∨ k = 2 ∨ Dl u := by
          rcases jn_dl res hj with h | h
          · exact .inl h
          · exact .inr (.inr h)
        have body : ∀ i, ∃ ts : List Tok, run res .idle (a ++ u) i = (ts, 0, 0) ∧ ts.map (fun t => ((t.kind : Int), t.text)) = (k, x) :: r := by
          intro i
          obtain ⟨t, e1, e2, e3⟩ := spl_read res hs u i hd
          obtain ⟨ts, f1, f2⟩ := jn_read r (some k) u (i + a.length) hj
          refine ⟨t :: ts, by rw [e1, f1]; rfl, ?_⟩
          rw [List.map_cons, f2, e2, e3]
        rw [h]
        have hsep : sep p k = [] ∨ sep p k = [32] := by
          unfold sep
          cases p with
          | none => exact .inl rfl
          | some q =>
            simp only
            split
            · exact .inr rfl
            · exact .inl rfl
        rcases hsep with e | e
        · rw [e, List.nil_append]
          exact body i
        · rw [e]
          have hst : step res .idle 32 i = .go [] .idle := rfl
          show ∃ ts, run res .idle (32 :: (a ++ u)) i = _ ∧ _
          rw [run_go res hst, pre_nil]
          exact body (i + 1)
end Go.Proofs.YtigcakppnbfpkaaGreatDoor.S
