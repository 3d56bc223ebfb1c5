/- Laid together of: BackMath, ForestMath, NodeOpenB. -/
import Derived.Test.YtjbalgjdcdmjjaaDoorJoinMath
import Derived.Test.YtjbalgjdcdmjjaaDoorShowAll
import Derived.Test.YtjbalgjdcdmjjaaDoorCutAll
import Derived.Test.YtjbalgjdcdmjjaaDoorRows
import Derived.Deep.SlicePairs
import Derived.OpenShut
import Derived.SizedLaws
/- ==== BackMath ==== -/
namespace Go.Proofs.YtjbalgjdcdmjjaaDoor.S
set_option linter.unusedVariables false
variable (res : List UInt8 → Bool)
theorem dl_sym {r : List UInt8} (h : Dl r) : ∀ c s', r = c :: s' → sym c = false := by
  intro c s' e
  rcases h with rfl | ⟨t, rfl | rfl⟩
  · cases e
  · cases e; decide
  · cases e; decide
theorem okTail_bar2 : ∀ (n lo hi : Nat) (t r : List UInt8), 128 ≤ lo → okTail n lo hi (t ++ 124 :: r) = okTail n lo hi t
  | 0, _, _, _, _, _ => rfl
  | n + 1, lo, hi, [], r, h => by
    rw [List.nil_append, okTail, okTail]
    have : ¬ (lo ≤ (124 : UInt8).toNat ∧ (124 : UInt8).toNat ≤ hi) := by
      intro q
      have e : (124 : UInt8).toNat = 124 := rfl
      omega
    rw [decide_eq_false this]
    rfl
  | n + 1, lo, hi, c :: t, r, h => by
    rw [List.cons_append, okTail, okTail, okTail_bar2 n 0x80 0xBF t r (by decide)]
theorem chr_bar2 (b : UInt8) (t r : List UInt8) : chr (b :: (t ++ 124 :: r)) = chr (b :: t) := by
  rw [chr_cons, chr_cons]
  by_cases h1 : b.toNat < 128
  · rw [if_pos h1, if_pos h1]
  · rw [if_neg h1, if_neg h1]
    by_cases h2 : (follow b).1 = 0
    · rw [if_pos h2, if_pos h2]
    · rw [if_neg h2, if_neg h2, okTail_bar2 _ _ _ _ _ (follow_low b h2)]
theorem bars_kind (g : Nat) (a l : List UInt8) (i : Nat) : ∀ tk r, dBars g a l i = .tok tk r → tk.kind = 3 := by
  induction hm : l.length using Nat.strongRecOn generalizing a l i with
  | _ n ih =>
    intro tk r h
    cases l with
    | nil => rw [dBars] at h; cases h
    | cons b t =>
      by_cases n1 : b = 124
      · rw [dBars, if_pos n1] at h
        have := (tok_inj h).1
        rw [← this]
      · by_cases n2 : b = 92
        · rw [dBars, if_neg n1, if_pos n2] at h
          cases h
        · by_cases hc : ctl b = true
          · rw [dBars, if_neg n1, if_neg n2, if_pos hc] at h
            cases h
          · by_cases h0 : chr (b :: t) = 0
            · rw [dBars, if_neg n1, if_neg n2, if_neg hc, dif_pos h0] at h
              cases h
            · have hle := chr_le (b :: t)
              rw [dBars_on g a i n1 n2 (by simpa using hc) h0] at h
              exact ih _ (by rw [List.length_drop]; simp at *; omega) _ _ _ rfl tk r h
theorem bars_more (g : Nat) (a l r : List UInt8) (i : Nat) (h : wr l = true) (hn : nobar l = true) : dBars g a (l ++ 124 :: r) i = .tok ⟨3, g, i + l.length + 1, a ++ l⟩ r := by
  induction hm : l.length using Nat.strongRecOn generalizing a l i with
  | _ n ih =>
    cases l with
    | nil =>
      rw [List.nil_append, dBars, if_pos rfl]
      subst hm
      simp
    | cons b t =>
      have n1 : b ≠ 124 := by rintro rfl; simp [nobar] at hn
      have n2 : b ≠ 92 := by rintro rfl; simp [nobar] at hn
      have hc : ctl b = false := by
        cases hc : ctl b
        · rfl
        · rw [wr_ctl hc] at h
          exact absurd h (by simp)
      have h0 : chr (b :: t) ≠ 0 := by
        intro e
        rw [wr_none e] at h
        exact absurd h (by simp)
      have hle := chr_le (b :: t)
      rw [wr_on hc h0] at h
      rw [nobar_char b t h0 n1 n2] at hn
      rw [List.cons_append, dBars_on g a i n1 n2 hc (by rw [chr_bar2]; exact h0)]
      rw [chr_bar2, ← List.cons_append, List.take_append_of_le_length hle, List.drop_append_of_le_length hle]
      rw [ih ((b :: t).drop (chr (b :: t))).length (by rw [List.length_drop]; simp at *; omega) _ _ _ h hn rfl, List.append_assoc, List.take_append_drop]
      subst hm
      congr 3
      rw [List.length_drop]
      omega
theorem okTail_front : ∀ (n lo hi : Nat) (t u : List UInt8), okTail n lo hi t = true → t.take n = u.take n → okTail n lo hi u = true
  | 0, _, _, _, _, _, _ => rfl
  | n + 1, lo, hi, [], u, h, _ => by simp [okTail] at h
  | n + 1, lo, hi, c :: t, u, h, e => by
    cases u with
    | nil => simp at e
    | cons d u =>
      rw [List.take_succ_cons, List.take_succ_cons] at e
      obtain ⟨rfl, e'⟩ := List.cons.inj e
      rw [okTail, Bool.and_eq_true] at h ⊢
      exact ⟨h.1, okTail_front n 0x80 0xBF t u h.2 e'⟩
/-- A character is told by its own bytes. -/
theorem chr_front (b : UInt8) (t u : List UInt8) (h : chr (b :: t) ≠ 0) (e : (b :: t).take (chr (b :: t)) = (b :: u).take (chr (b :: t))) : chr (b :: u) = chr (b :: t) := by
  rw [chr_cons] at *
  rw [chr_cons]
  by_cases h1 : b.toNat < 128
  · rw [if_pos h1, if_pos h1]
  · rw [if_neg h1] at *
    rw [if_neg h1]
    by_cases h2 : (follow b).1 = 0
    · rw [if_pos h2] at h
      exact absurd rfl h
    · rw [if_neg h2] at *
      rw [if_neg h2]
      by_cases h3 : okTail (follow b).1 (follow b).2.1 (follow b).2.2 t = true
      · rw [if_pos h3] at e ⊢
        rw [List.take_succ_cons, List.take_succ_cons] at e
        rw [if_pos (okTail_front _ _ _ t u h3 (List.cons.inj e).2)]
      · rw [if_neg h3] at h
        exact absurd rfl h
theorem dStr_on (g : Nat) (a : List UInt8) {b : UInt8} {t : List UInt8} (i : Nat) (n1 : b ≠ 34) (hc : ctl b = false) (h : chr (b :: t) ≠ 0) : dStr g a (b :: t) i = dStr g (a ++ (b :: t).take (chr (b :: t))) ((b :: t).drop (chr (b :: t))) (i + chr (b :: t)) := by
  rw [dStr.eq_def]
  simp [n1, hc, h]
theorem str_more (g : Nat) (a l r : List UInt8) (i : Nat) (h : wr l = true) (hr : Dl r) : dStr g a (dbl l ++ 34 :: r) i = .tok ⟨9, g, i + (dbl l).length + 1, a ++ l⟩ r := by
  induction hm : l.length using Nat.strongRecOn generalizing a l i with
  | _ n ih =>
    cases l with
    | nil =>
      rw [dbl_nil, List.nil_append, dStr.eq_def]
      rcases hr with rfl | ⟨t, rfl | rfl⟩
      · simp
      · simp
      · simp
    | cons b t =>
      have hc : ctl b = false := by
        cases hc : ctl b
        · rfl
        · rw [wr_ctl hc] at h
          exact absurd h (by simp)
      have h0 : chr (b :: t) ≠ 0 := by
        intro e
        rw [wr_none e] at h
        exact absurd h (by simp)
      have hle := chr_le (b :: t)
      rw [wr_on hc h0] at h
      by_cases h34 : b = 34
      · subst h34
        have h1 : chr (34 :: t) = 1 := by rw [chr_cons]; rfl
        rw [h1] at h
        have h' : wr t = true := h
        rw [dbl_cons, if_pos rfl]
        show dStr g a (34 :: 34 :: (dbl t ++ 34 :: r)) i = _
        rw [dStr.eq_def]
        simp only [if_true]
        rw [ih t.length (by rw [← hm]; simp) _ t _ h' rfl]
        have e1 : i + 2 + (dbl t).length + 1 = i + ([34, 34] ++ dbl t).length + 1 := by simp; omega
        have e2 : (a ++ [34]) ++ t = a ++ 34 :: t := by simp
        rw [e1, e2]
      · have hd := dbl_char b t h0
        rw [if_neg h34, List.nil_append] at hd
        obtain ⟨c, u, hcu⟩ : ∃ c u, (b :: t).take (chr (b :: t)) = c :: u := by
          obtain ⟨m, hmm⟩ : ∃ m, chr (b :: t) = m + 1 := ⟨chr (b :: t) - 1, by omega⟩
          rw [hmm, List.take_succ_cons]
          exact ⟨_, _, rfl⟩
        have hcb : c = b := by
          obtain ⟨m, hmm⟩ : ∃ m, chr (b :: t) = m + 1 := ⟨chr (b :: t) - 1, by omega⟩
          rw [hmm, List.take_succ_cons] at hcu
          exact (List.cons.inj hcu).1.symm
        subst hcb
        have hul : (c :: u).length = chr (c :: t) := by rw [← hcu, List.length_take, Nat.min_eq_left hle]
        have hsplit : dbl (c :: t) = (c :: u) ++ dbl ((c :: t).drop (chr (c :: t))) := by
          conv => lhs; rw [← List.take_append_drop (chr (c :: t)) (c :: t)]
          rw [dbl_append, hd, hcu]
        rw [hsplit]
        show dStr g a (c :: (u ++ dbl ((c :: t).drop (chr (c :: t))) ++ 34 :: r)) i = _
        generalize hX : dbl ((c :: t).drop (chr (c :: t))) = X at *
        have hch : chr (c :: (u ++ X ++ 34 :: r)) = chr (c :: t) := by
          refine chr_front c t _ h0 ?_
          rw [hcu]
          have : c :: (u ++ X ++ 34 :: r) = (c :: u) ++ (X ++ 34 :: r) := by simp
          rw [this, ← hul, List.take_left]
        have hX2 : c :: (u ++ X ++ 34 :: r) = (c :: u) ++ (X ++ 34 :: r) := by simp
        rw [dStr_on g a i h34 hc (by rw [hch]; exact h0), hch, hX2, ← hul, List.take_left, List.drop_left, ← hX]
        rw [ih ((c :: t).drop (chr (c :: t))).length (by rw [List.length_drop]; simp at *; omega) _ _ _ h rfl]
        have e2 : (a ++ c :: u) ++ (c :: t).drop (chr (c :: t)) = a ++ c :: t := by
          rw [List.append_assoc, ← hcu, List.take_append_drop]
        rw [e2]
        have e3 : i + (c :: u).length + (dbl ((c :: t).drop (chr (c :: t)))).length + 1 = i + ((c :: u) ++ dbl ((c :: t).drop (chr (c :: t)))).length + 1 := by
          rw [List.length_append]
          omega
        rw [e3]
/-- A name with a delimiter behind it. -/
theorem name_more (k g : Nat) (a t r : List UInt8) (i : Nat) (ht : ∀ x, x ∈ t → sym x = true) (hr : Dl r) : run res (.name k g a) (t ++ r) i = pre [tok res k g (i + t.length) (a ++ t)] (run res .idle r (i + t.length)) := by
  obtain ⟨e1, e2⟩ := front_of sym t r ht (dl_sym hr)
  rw [run_name, e1, e2]
theorem smp_parts {x : List UInt8} (h : smp x = true) : ∃ b t, x = b :: t ∧ dig b = false ∧ sym b = true ∧ ∀ y, y ∈ t → sym y = true := by
  cases x with
  | nil => simp [smp] at h
  | cons b t =>
    have h : (!dig b && (b :: t).all sym) = true := h
    rw [Bool.and_eq_true] at h
    have ha := List.all_eq_true.1 h.2
    exact ⟨b, t, rfl, by simpa using h.1, ha b List.mem_cons_self, fun y hy => ha y (List.mem_cons_of_mem _ hy)⟩
theorem oneOf_parts {k : Int} {x : List UInt8} (h : oneOf res k x = true) : ∃ t, run res .idle x 0 = ([t], 0, 0) ∧ (t.kind : Int) = k ∧ t.text = x := by
  have hp := run_place res x .idle 0
  unfold oneOf at h
  rcases hr : run res .idle x 0 with ⟨ts, e, p⟩
  rw [hr] at h hp
  simp only at h hp
  split at h
  · rename_i t
    rw [Bool.and_eq_true] at h
    refine ⟨t, by rw [hp rfl], of_decide_eq_true h.1, by simpa using h.2⟩
  · exact absurd h (by simp)
/-- A token's spelling is read as that token. -/
theorem spl_read {k : Int} {x s : List UInt8} (h : spl res k x = some s) (r : List UInt8) (i : Nat) (hr : k = 1 ∨ k = 2 ∨ Dl r) :
    ∃ t : Tok, run res .idle (s ++ r) i = pre [t] (run res .idle r (i + s.length)) ∧ (t.kind : Int) = k ∧ t.text = x := by
  unfold spl at h
  by_cases h3 : k = 3
  · have hd : Dl r := by rcases hr with h | h | h <;> first | omega | exact h
    rw [if_pos h3] at h
    unfold quo at h
    by_cases hs : (smp x && !res x) = true
    · rw [if_pos hs] at h
      cases h
      rw [Bool.and_eq_true] at hs
      obtain ⟨b, t, rfl, h1, h2, h4⟩ := smp_parts hs.1
      have hlt := sym_lt h2
      have hst : step res .idle b i = .go [] (.name 3 i [b]) := by
        show stepIdle b i = _
        unfold stepIdle
        rw [if_neg (by omega), if_neg (by rw [h1]; simp), if_pos h2]
      rw [List.cons_append, run_go res hst, pre_nil, name_more res 3 i [b] t r (i + 1) h4 hd]
      refine ⟨tok res 3 i (i + 1 + t.length) ([b] ++ t), ?_, ?_, rfl⟩
      · rw [List.length_cons, Nat.add_assoc i 1, Nat.add_comm 1]
      · show ((word res 3 ([b] ++ t) : Nat) : Int) = k
        unfold word
        have : res (b :: t) = false := by simpa using hs.2
        rw [if_neg (by simp [this])]
        omega
    · rw [if_neg hs] at h
      by_cases hw : (wr x && nobar x) = true
      · rw [if_pos hw] at h
        cases h
        rw [Bool.and_eq_true] at hw
        have e : (124 :: (x ++ [124])) ++ r = 124 :: (x ++ 124 :: r) := by simp
        rw [e, run_one res 124 _ i (by decide) (by decide)]
        have ho : dOne res 124 (x ++ 124 :: r) i = dBars i [] (x ++ 124 :: r) (i + 1) := by
          unfold dOne
          simp
        rw [ho, bars_more i [] x r (i + 1) hw.1 hw.2]
        refine ⟨⟨3, i, i + 1 + x.length + 1, [] ++ x⟩, ?_, by show ((3 : Nat) : Int) = k; omega, rfl⟩
        show pre _ (run res .idle r (i + 1 + x.length + 1)) = _
        rw [show i + (124 :: (x ++ [124])).length = i + 1 + x.length + 1 from by simp; omega]
      · rw [if_neg hw] at h
        cases h
  · rw [if_neg h3] at h
    by_cases h9 : k = 9
    · have hd : Dl r := by rcases hr with h | h | h <;> first | omega | exact h
      rw [if_pos h9] at h
      unfold lit at h
      by_cases hw : wr x = true
      · rw [if_pos hw] at h
        cases h
        have e : (34 :: (dbl x ++ [34])) ++ r = 34 :: (dbl x ++ 34 :: r) := by simp
        rw [e, run_one res 34 _ i (by decide) (by decide)]
        have ho : dOne res 34 (dbl x ++ 34 :: r) i = dStr i [] (dbl x ++ 34 :: r) (i + 1) := by
          unfold dOne
          simp
        rw [ho, str_more i [] x r (i + 1) hw hd]
        refine ⟨⟨9, i, i + 1 + (dbl x).length + 1, [] ++ x⟩, ?_, by show ((9 : Nat) : Int) = k; omega, rfl⟩
        show pre _ (run res .idle r (i + 1 + (dbl x).length + 1)) = _
        rw [show i + (34 :: (dbl x ++ [34])).length = i + 1 + (dbl x).length + 1 from by simp; omega]
      · rw [if_neg hw] at h
        cases h
    · rw [if_neg h9] at h
      by_cases h10 : k = 10
      · have hd : Dl r := by rcases hr with h | h | h <;> first | omega | exact h
        rw [if_pos h10] at h
        by_cases hs : smp x = true
        · rw [if_pos hs] at h
          cases h
          obtain ⟨b, t, rfl, h1, h2, h4⟩ := smp_parts hs
          have hst : step res .idle 58 i = .go [] (.colon i) := by
            show stepIdle 58 i = _
            rfl
          have hst2 : step res (.colon i) b (i + 1) = .go [] (.name 10 i [b]) := by
            show (if sym b ∧ ¬ dig b then _ else _) = _
            rw [if_pos ⟨h2, by rw [h1]; simp⟩]
          rw [List.cons_append, run_go res hst, pre_nil, List.cons_append, run_go res hst2, pre_nil, name_more res 10 i [b] t r (i + 1 + 1) h4 hd]
          refine ⟨tok res 10 i (i + 1 + 1 + t.length) ([b] ++ t), ?_, ?_, rfl⟩
          · rw [show i + (58 :: b :: t).length = i + 1 + 1 + t.length from by simp; omega]
          · show ((word res 10 ([b] ++ t) : Nat) : Int) = k
            unfold word
            rw [if_neg (by simp)]
            omega
        · rw [if_neg hs] at h
          cases h
      · rw [if_neg h10] at h
        by_cases ho : oneOf res k x = true
        · rw [if_pos ho] at h
          cases h
          obtain ⟨t, e1, e2, e3⟩ := oneOf_parts res ho
          have hk := run_okL res x .idle 0 trivial t (by rw [e1]; exact List.mem_cons_self)
          obtain ⟨k1, k2, k3, k4, k5⟩ := hk
          by_cases h1 : k = 1
          · have hx : x = [40] := by rw [← e3]; exact k4 (by omega)
            subst hx
            refine ⟨⟨1, i, i + 1, [40]⟩, ?_, by show ((1 : Nat) : Int) = k; omega, rfl⟩
            have hst : step res .idle 40 i = .go [⟨1, i, i + 1, [40]⟩] .idle := rfl
            rw [List.cons_append, run_go res hst]
            rfl
          · by_cases h2 : k = 2
            · have hx : x = [41] := by rw [← e3]; exact k5 (by omega)
              subst hx
              refine ⟨⟨2, i, i + 1, [41]⟩, ?_, by show ((2 : Nat) : Int) = k; omega, rfl⟩
              have hst : step res .idle 41 i = .go [⟨2, i, i + 1, [41]⟩] .idle := rfl
              rw [List.cons_append, run_go res hst]
              rfl
            · have hd : Dl r := by rcases hr with h | h | h <;> first | omega | exact h
              have hlen := k1 (by omega) (by omega) (by omega)
              rw [e3] at hlen
              have hst := run_stands res x 0
              rw [e1] at hst
              obtain ⟨n, m, m1, m2, m3, m4, -⟩ := hst
              have hfin : t.fin = x.length := by omega
              have hbeg : t.beg = 0 := by omega
              have hnow : ¬ now x t := by
                rintro (h | h | h)
                · omega
                · omega
                · rw [hbeg] at h
                  cases x with
                  | nil => simp at h
                  | cons c y =>
                    have hc : c = 124 := by simpa using h
                    subst hc
                    rw [run_one res 124 y 0 (by decide) (by decide)] at e1
                    have hoo : dOne res 124 y 0 = dBars 0 [] y 1 := by unfold dOne; simp
                    rw [hoo] at e1
                    rcases hD : dBars 0 [] y 1 with ⟨tk, rr⟩ | ⟨e, p⟩
                    · rw [hD] at e1
                      have hcut := bars_kind 0 [] y 1 tk rr hD
                      have : tk = t := by
                        have h1 : [tk] ++ (run res .idle rr tk.fin).1 = [t] := (Prod.mk.inj e1).1
                        exact (List.cons.inj h1).1
                      rw [this] at hcut
                      omega
                    · rw [hD] at e1
                      have h1 : ([] : List Tok) = [t] := (Prod.mk.inj e1).1
                      simp at h1
              have := run_alone res x r t 0 i e1 hfin hnow hd
              exact ⟨shT i t, this, by show ((t.kind : Nat) : Int) = k; exact e2, e3⟩
        · rw [if_neg ho] at h
          cases h
/-- What is written behind a token begins with a delimiter, or the token is a parenthesis. -/
theorem jn_dl {k : Int} {l : List (Int × List UInt8)} {t : List UInt8} (h : jn res (some k) l = some t) : k = 1 ∨ Dl t := by
  by_cases h1 : k = 1
  · exact .inl h1
  · right
    cases l with
    | nil =>
      have : t = [] := by
        rw [jn] at h
        exact (Option.some.inj h).symm
      exact .inl this
    | cons y r =>
      obtain ⟨k', x⟩ := y
      rw [jn] at h
      cases hs : spl res k' x with
      | none => rw [hs] at h; cases h
      | some s =>
        rw [hs] at h
        simp only at h
        cases hj : jn res (some k') r with
        | none => rw [hj] at h; cases h
        | some u =>
          rw [hj] at h
          have h := (Option.some.inj h).symm
          by_cases h2 : k' = 2
          · subst h2
            have hx : s = [41] := by
              unfold spl at hs
              rw [if_neg (by decide), if_neg (by decide), if_neg (by decide)] at hs
              by_cases ho : oneOf res 2 x = true
              · rw [if_pos ho] at hs
                cases hs
                obtain ⟨t', e1, e2, e3⟩ := oneOf_parts res ho
                have hk := run_okL res x .idle 0 trivial t' (by rw [e1]; exact List.mem_cons_self)
                rw [← e3]
                exact hk.2.2.2.2 (by omega)
              · rw [if_neg ho] at hs
                cases hs
            rw [h, hx]
            right
            refine ⟨u, .inr ?_⟩
            simp [sep]
          · rw [h]
            right
            refine ⟨s ++ u, .inl ?_⟩
            have : sep (some k) k' = [32] := by
              unfold sep
              exact if_pos ⟨h1, h2⟩
            rw [this]
            simp
/-- What Join writes is read back. -/
theorem jn_read : ∀ (l : List (Int × List UInt8)) (p : Option Int) (s : List UInt8) (i : Nat), jn res p l = some s → ∃ ts : List Tok, run res .idle s i = (ts, 0, 0) ∧ ts.map (fun t => ((t.kind : Int), t.text)) = l
  | [], p, s, i, h => by
    have : s = [] := by
      rw [jn] at h
      exact (Option.some.inj h).symm
    subst this
    exact ⟨[], rfl, rfl⟩
  | (k, x) :: r, p, s, i, h => by
    rw [jn] at h
    cases hs : spl res k x with
    | none => rw [hs] at h; cases h
    | some a =>
      rw [hs] at h
      simp only at h
      cases hj : jn res (some k) r with
      | none => rw [hj] at h; cases h
      | some u =>
        rw [hj] at h
        have h := (Option.some.inj h).symm
        have hd : k = 1 ∨ k = 2 ∨ Dl u := by
          rcases jn_dl res hj with h | h
          · exact .inl h
          · exact .inr (.inr h)
        have body : ∀ i, ∃ ts : List Tok, run res .idle (a ++ u) i = (ts, 0, 0) ∧ ts.map (fun t => ((t.kind : Int), t.text)) = (k, x) :: r := by
          intro i
          obtain ⟨t, e1, e2, e3⟩ := spl_read res hs u i hd
          obtain ⟨ts, f1, f2⟩ := jn_read r (some k) u (i + a.length) hj
          refine ⟨t :: ts, by rw [e1, f1]; rfl, ?_⟩
          rw [List.map_cons, f2, e2, e3]
        rw [h]
        have hsep : sep p k = [] ∨ sep p k = [32] := by
          unfold sep
          cases p with
          | none => exact .inl rfl
          | some q =>
            simp only
            split
            · exact .inr rfl
            · exact .inl rfl
        rcases hsep with e | e
        · rw [e, List.nil_append]
          exact body i
        · rw [e]
          have hst : step res .idle 32 i = .go [] .idle := rfl
          show ∃ ts, run res .idle (32 :: (a ++ u)) i = _ ∧ _
          rw [run_go res hst, pre_nil]
          exact body (i + 1)
end Go.Proofs.YtjbalgjdcdmjjaaDoor.S
/- ==== ForestMath ==== -/
namespace Go.Proofs.YtjbalgjdcdmjjaaDoor
open Go.RowKit Go.Proofs.YtjbalgjdcdmjjaaDoor.S Go.Proofs.YtjbalgjdcdmjjaaDoor.X
set_option linter.unusedVariables false
/-- What counts of a node. -/
def nkey (n : N) : Int × Int × List UInt8 := ((n.kind : Int), (n.size : Int), n.text)
def key (x : Nd) : Int × Int × List UInt8 := (x.kind, x.size, if x.kind = 1 then [] else x.text.data.toList)
def kt (t : Tok) : Int × List UInt8 := ((t.kind : Int), t.text)
/-- The nodes with the sizes that the open lists will have. -/
def fix (B : Nat) : List N → List (Nat × Nat) → List N
  | ms, [] => ms
  | ms, (s, e) :: sp => fix B (ms.set (B + s) ⟨(ms.getD (B + s) n0).kind, (ms.getD (B + s) n0).beg, (ms.getD (B + s) n0).fin, e - s, (ms.getD (B + s) n0).text⟩) sp
theorem fix_append (B : Nat) (x : N) : ∀ (sp : List (Nat × Nat)) (ms : List N), (∀ p ∈ sp, B + p.1 < ms.length) → fix B (ms ++ [x]) sp = fix B ms sp ++ [x]
  | [], ms, h => rfl
  | (s, e) :: sp, ms, h => by
    have h0 := h (s, e) List.mem_cons_self
    simp only at h0
    rw [fix, fix, getD_old _ _ _ h0, List.set_append_left _ _ h0]
    refine fix_append B x sp _ (fun p hp => ?_)
    rw [List.length_set]
    exact h p (List.mem_cons_of_mem _ hp)
theorem getD_key {a b : List N} (h : a.map nkey = b.map nkey) (j : Nat) : nkey (a.getD j n0) = nkey (b.getD j n0) := by
  have h1 : (a.map nkey)[j]? = (b.map nkey)[j]? := by rw [h]
  rw [List.getElem?_map, List.getElem?_map] at h1
  rw [List.getD_eq_getElem?_getD, List.getD_eq_getElem?_getD]
  cases ha : a[j]? with
  | none => cases hb : b[j]? with
    | none => rfl
    | some y => rw [ha, hb] at h1; cases h1
  | some x => cases hb : b[j]? with
    | none => rw [ha, hb] at h1; cases h1
    | some y => rw [ha, hb] at h1; exact Option.some.inj h1
theorem set_key (a : List N) (k : Nat) (x : N) : (a.set k x).map nkey = (a.map nkey).set k (nkey x) := List.map_set
theorem fix_congr (B : Nat) : ∀ (sp : List (Nat × Nat)) (a b : List N), a.map nkey = b.map nkey → (fix B a sp).map nkey = (fix B b sp).map nkey
  | [], a, b, h => h
  | (s, e) :: sp, a, b, h => by
    rw [fix, fix]
    refine fix_congr B sp _ _ ?_
    have hg := getD_key h (B + s)
    simp only [nkey, Prod.mk.injEq] at hg
    rw [set_key, set_key, h]
    congr 1
    simp only [nkey, Prod.mk.injEq]
    exact ⟨hg.1, trivial, hg.2.2⟩
theorem fix_length (B : Nat) : ∀ (sp : List (Nat × Nat)) (ms : List N), (fix B ms sp).length = ms.length
  | [], ms => rfl
  | (s, e) :: sp, ms => by rw [fix, fix_length B sp, List.length_set]
/-- The stack: the innermost first; each list begins below i and ends at e or behind it, at most at n. -/
def Sk (i e n : Nat) (sp : List (Nat × Nat)) : Prop := sp.Pairwise (fun a b => a.2 ≤ b.2) ∧ ∀ p ∈ sp, p.1 < i ∧ e ≤ p.2 ∧ p.2 ≤ n
theorem kt_cons {T : List Tok} {k : Int} {x : List UInt8} {r : List (Int × List UInt8)} (h : T.map kt = (k, x) :: r) : ∃ t T', T = t :: T' ∧ (t.kind : Int) = k ∧ t.text = x ∧ T'.map kt = r := by
  cases T with
  | nil => cases h
  | cons t T' =>
    rw [List.map_cons] at h
    obtain ⟨h1, h2⟩ := List.cons.inj h
    simp only [kt, Prod.mk.injEq] at h1
    exact ⟨t, T', rfl, h1.1, h1.2, h2⟩
theorem back_pops (B e n : Nat) : ∀ (sp : List (Nat × Nat)) (T : List Tok) (ms : List N) (R : List J), Sk e e n sp → T.map kt = jk ((pops e (sp.map Prod.snd)).1 ++ R) → ms.length = B + e →
    ∃ sp' T' ms', pr T ms (sp.map fun p => B + p.1) = pr T' ms' (sp'.map fun p => B + p.1) ∧ T'.map kt = jk R ∧ (pops e (sp.map Prod.snd)).2 = sp'.map Prod.snd ∧ Sk e (e + 1) n sp' ∧ ms'.length = B + e ∧
      (fix B ms' sp').map nkey = (fix B ms sp).map nkey ∧ ∀ (r : List Nd) (S : List Nat), fo r e (sp.map Prod.snd ++ S) = fo r e (sp'.map Prod.snd ++ S)
  | [], T, ms, R, hs, hT, hl => ⟨[], T, ms, rfl, hT, rfl, ⟨List.Pairwise.nil, by simp⟩, hl, rfl, fun _ _ => rfl⟩
  | (s, f) :: sp, T, ms, R, hs, hT, hl => by
    have h0 := hs.2 (s, f) List.mem_cons_self
    simp only at h0
    have hs' : Sk e e n sp := ⟨(List.pairwise_cons.1 hs.1).2, fun p hp => hs.2 p (List.mem_cons_of_mem _ hp)⟩
    by_cases hf : f = e
    · subst hf
      have hp : pops f (((s, f) :: sp).map Prod.snd) = (clo :: (pops f (sp.map Prod.snd)).1, (pops f (sp.map Prod.snd)).2) := by
        rw [List.map_cons, pops, if_pos rfl]
      rw [hp] at hT ⊢
      obtain ⟨t, T1, rfl, hk, hx, hT1⟩ := kt_cons hT
      have hk2 : t.kind = 2 := by
        have : (t.kind : Int) = 2 := hk
        omega
      obtain ⟨sp', T', ms', e1, e2, e3, e4, e5, e6, e7⟩ := back_pops B f n sp T1 (shutL ms (B + s) t.fin) R hs' hT1 (by unfold shutL; rw [List.length_set]; exact hl)
      refine ⟨sp', T', ms', ?_, e2, e3, e4, e5, e6.trans ?_, fun r S => ?_⟩
      · rw [pr_cons, if_neg (by omega), if_pos hk2, List.map_cons]
        exact e1
      · rw [fix]
        refine fix_congr B sp _ _ ?_
        unfold shutL
        rw [set_key, set_key]
        congr 1
        simp only [nkey, Prod.mk.injEq]
        refine ⟨trivial, ?_, trivial⟩
        rw [hl, show B + f - (B + s) = f - s by omega]
      · rw [List.map_cons, List.cons_append, fo_pop]
        exact e7 r S
    · have hp : pops e (((s, f) :: sp).map Prod.snd) = ([], ((s, f) :: sp).map Prod.snd) := by
        rw [List.map_cons, pops, if_neg hf]
      rw [hp] at hT ⊢
      refine ⟨(s, f) :: sp, T, ms, rfl, hT, rfl, ⟨hs.1, fun p hp' => ?_⟩, hl, rfl, fun _ _ => rfl⟩
      have := hs.2 p hp'
      rcases List.mem_cons.1 hp' with rfl | hm
      · simp only at this ⊢; omega
      · have := (List.pairwise_cons.1 hs.1).1 p hm
        simp only at this
        omega
/-- The machine makes of the tokens of nodes these nodes. -/
theorem back_all (B n : Nat) : ∀ (r : List Nd) (i : Nat) (sp : List (Nat × Nat)) (T : List Tok) (ms : List N), i + r.length = n → Sk i (i + 1) n sp → fo r i (sp.map Prod.snd ++ [n]) = true →
    T.map kt = jk (tks r i (sp.map Prod.snd)) → ms.length = B + i →
    ∃ fs, pr T ms (sp.map fun p => B + p.1) = .inl (fs, []) ∧ fs.map nkey = (fix B ms sp).map nkey ++ r.map key
  | [], i, sp, T, ms, hi, hs, hf, hT, hl => by
    have hT : T = [] := List.map_eq_nil_iff.1 hT
    subst hT
    cases sp with
    | nil => exact ⟨ms, rfl, by simp [fix]⟩
    | cons p sp =>
      have := hs.2 p List.mem_cons_self
      simp only [List.length_nil] at hi
      omega
  | x :: r, i, sp, T, ms, hi, hs, hf, hT, hl => by
    simp only [List.length_cons] at hi
    -- the top of the stack
    obtain ⟨top, S, htop, hne, hle⟩ : ∃ top S, sp.map Prod.snd ++ [n] = top :: S ∧ top ≠ i ∧ top ≤ n := by
      cases sp with
      | nil => exact ⟨n, [], rfl, by omega, Nat.le_refl _⟩
      | cons p sp =>
        have := hs.2 p List.mem_cons_self
        exact ⟨p.2, sp.map Prod.snd ++ [n], rfl, by omega, this.2.2⟩
    have hok : x.ok i top := by
      rw [htop] at hf
      by_cases h : x.ok i top
      · exact h
      · rw [fo_no hne h] at hf
        cases hf
    have hT' : T.map kt = ((tokOf x).kind, (tokOf x).text) :: jk ((pops (i + 1) (if x.kind = 1 then (i + x.size.toNat) :: sp.map Prod.snd else sp.map Prod.snd)).1 ++ tks r (i + 1) (pops (i + 1) (if x.kind = 1 then (i + x.size.toNat) :: sp.map Prod.snd else sp.map Prod.snd)).2) := hT
    obtain ⟨t, T1, rfl, hk, hx, hT1⟩ := kt_cons hT'
    have hst : ∀ p ∈ sp, B + p.1 < ms.length := fun p hp => by have := hs.2 p hp; omega
    by_cases h1 : x.kind = 1
    · have hsz : 1 ≤ x.size ∧ x.size ≤ (top : Int) - i := by
        rcases hok with ⟨_, _, a, b⟩ | ⟨a, _⟩
        · exact ⟨a, b⟩
        · exact absurd h1 a
      rw [htop, fo_open hne hok h1, ← htop] at hf
      rw [if_pos h1] at hT1
      have htk : t.kind = 1 := by
        rw [tokOf, if_pos h1] at hk
        have : (t.kind : Int) = 1 := hk
        omega
      have hsk : Sk (i + 1) (i + 1) n ((i, i + x.size.toNat) :: sp) := by
        refine ⟨List.pairwise_cons.2 ⟨fun p hp => ?_, hs.1⟩, fun p hp => ?_⟩
        · have hmem : p.2 ∈ top :: S := by rw [← htop]; exact List.mem_append_left _ (List.mem_map_of_mem hp)
          have htle : top ≤ p.2 := by
            cases sp with
            | nil => cases hp
            | cons q sp =>
              obtain ⟨rfl, -⟩ := List.cons.inj htop
              rcases List.mem_cons.1 hp with rfl | hm
              · exact Nat.le_refl _
              · exact (List.pairwise_cons.1 hs.1).1 p hm
          simp only
          omega
        · rcases List.mem_cons.1 hp with rfl | hm
          · simp only; omega
          · have := hs.2 p hm; omega
      obtain ⟨sp', T', ms', e1, e2, e3, e4, e5, e6, e7⟩ := back_pops B (i + 1) n ((i, i + x.size.toNat) :: sp) T1 (ms ++ [newL t]) (tks r (i + 1) (pops (i + 1) ((i + x.size.toNat) :: sp.map Prod.snd)).2) hsk (by rw [List.map_cons]; exact hT1) (by rw [List.length_append, hl]; rfl)
      rw [List.map_cons] at e3
      simp only at e3
      rw [e3] at e2
      have hf2 : fo r (i + 1) (sp'.map Prod.snd ++ [n]) = true := by
        rw [← e7 r [n], List.map_cons]
        exact hf
      obtain ⟨fs, g1, g2⟩ := back_all B n r (i + 1) sp' T' ms' (by omega) e4 hf2 e2 e5
      refine ⟨fs, ?_, ?_⟩
      · rw [pr_cons, if_pos htk, hl]
        exact e1.trans g1
      · rw [g2, e6, List.map_cons, fix]
        have hg : (ms ++ [newL t]).getD (B + i) n0 = newL t := by rw [← hl]; exact getD_new _ _ _
        rw [hg, ← hl, List.set_append_right _ _ (Nat.le_refl _), Nat.sub_self, List.set_cons_zero, fix_append B _ sp ms hst, List.map_append, List.append_assoc]
        congr 1
        show [nkey _] ++ _ = _
        rw [List.singleton_append]
        congr 1
        unfold nkey key
        rw [if_pos h1, h1]
        simp only [newL, Prod.mk.injEq]
        refine ⟨rfl, ?_, trivial⟩
        omega
    · have hsz : x.size = 1 ∧ 3 ≤ x.kind := by
        rcases hok with ⟨a, _⟩ | ⟨_, a, _, b⟩
        · exact absurd a h1
        · exact ⟨b, a⟩
      rw [htop, fo_atom hne hok h1, ← htop] at hf
      rw [if_neg h1] at hT1
      rw [tokOf, if_neg h1] at hk hx
      have hk : (t.kind : Int) = x.kind := hk
      have hsk : Sk (i + 1) (i + 1) n sp := ⟨hs.1, fun p hp => by have := hs.2 p hp; omega⟩
      obtain ⟨sp', T', ms', e1, e2, e3, e4, e5, e6, e7⟩ := back_pops B (i + 1) n sp T1 (ms ++ [atom t]) (tks r (i + 1) (pops (i + 1) (sp.map Prod.snd)).2) hsk hT1 (by rw [List.length_append, hl]; rfl)
      rw [e3] at e2
      have hf2 : fo r (i + 1) (sp'.map Prod.snd ++ [n]) = true := by
        rw [← e7 r [n]]
        exact hf
      obtain ⟨fs, g1, g2⟩ := back_all B n r (i + 1) sp' T' ms' (by omega) e4 hf2 e2 e5
      refine ⟨fs, ?_, ?_⟩
      · rw [pr_cons, if_neg (by omega), if_neg (by omega), e1]
        exact g1
      · rw [g2, e6, fix_append B _ sp ms hst, List.map_append, List.append_assoc]
        congr 1
        show [nkey _] ++ _ = _
        rw [List.singleton_append]
        congr 1
        unfold nkey key
        rw [if_neg h1]
        simp only [atom, Prod.mk.injEq]
        exact ⟨hk, by omega, hx⟩
theorem back_forest {ns : List Nd} (h : forestB ns = true) {T : List Tok} (hT : T.map kt = jk (tks ns 0 [])) : ∃ fs, pr T [] [] = .inl (fs, []) ∧ fs.map nkey = ns.map key := by
  obtain ⟨fs, e1, e2⟩ := back_all 0 ns.length ns 0 [] T [] (by omega) ⟨List.Pairwise.nil, by simp⟩ h hT rfl
  exact ⟨fs, e1, by simpa [fix] using e2⟩
/- Lines. -/
theorem run_nil (i : Nat) : S.run resv .idle [] i = ([], 0, 0) := rfl
theorem jk_append (a b : List J) : jk (a ++ b) = jk a ++ jk b := List.map_append
/-- What Show writes is read as the tokens of its lines. -/
theorem shw_read (ns : List Nd) : ∀ (ks : List Nat) (acc out : List UInt8), shw ns ks acc = some out →
    ∃ s, out = acc ++ s ∧ s.length ≤ jtot (ks.flatMap (lnt ns)) + ks.length ∧ ∀ i, ∃ ts, S.run resv .idle s i = (ts, 0, 0) ∧ ts.map kt = jk (ks.flatMap (lnt ns))
  | [], acc, out, h => by
    have h : some acc = some out := h
    exact ⟨[], by rw [List.append_nil]; exact (Option.some.inj h).symm, Nat.zero_le _, fun i => ⟨[], rfl, rfl⟩⟩
  | k :: r, acc, out, h => by
    rw [shw] at h
    cases hj : S.jn resv none (jk (lnt ns k)) with
    | none => rw [hj] at h; cases h
    | some l =>
      rw [hj] at h
      simp only at h
      obtain ⟨s, e1, e0, e2⟩ := shw_read ns r _ _ h
      have hl := jn_le _ _ _ hj
      refine ⟨l ++ 10 :: s, by rw [e1]; simp, ?_, fun i => ?_⟩
      · rw [List.flatMap_cons, jtot_append]
        simp only [List.length_append, List.length_cons]
        omega
      · obtain ⟨ts1, q1, q2⟩ := S.jn_read resv (jk (lnt ns k)) none l i hj
        obtain ⟨ts2, q3, q4⟩ := e2 (i + l.length + 1)
        refine ⟨ts1 ++ ts2, ?_, ?_⟩
        · rw [S.run_nl resv s l .idle i (by rw [q1]), q1, q3]
          rfl
        · rw [List.map_append, List.flatMap_cons, jk_append, q4]
          congr 1
/-- Places moved. -/
theorem pops_move (d i : Nat) : ∀ st : List Nat, pops (i + d) (st.map (· + d)) = ((pops i st).1, (pops i st).2.map (· + d))
  | [] => rfl
  | a :: st => by
    rw [List.map_cons, pops, pops]
    by_cases h : a = i
    · rw [if_pos (by omega), if_pos h, pops_move d i st]
    · rw [if_neg (by omega), if_neg h]
      rfl
theorem tks_move (d : Nat) : ∀ (r : List Nd) (i : Nat) (st : List Nat), tks r (i + d) (st.map (· + d)) = tks r i st
  | [], i, st => rfl
  | x :: r, i, st => by
    rw [tks, tks]
    have e : (if x.kind = 1 then (i + d + x.size.toNat) :: st.map (· + d) else st.map (· + d)) = (if x.kind = 1 then (i + x.size.toNat) :: st else st).map (· + d) := by
      split
      · rw [List.map_cons, show i + d + x.size.toNat = i + x.size.toNat + d by omega]
      · rfl
    rw [e, show i + d + 1 = i + 1 + d by omega, pops_move]
    simp only
    rw [tks_move d r (i + 1)]
/-- The stack of ends within a block that ends at e: its last is e, all lie behind i. -/
def Wi (i e : Nat) (st : List Nat) : Prop := st.Pairwise (· ≤ ·) ∧ st.getLast? = some e ∧ ∀ a ∈ st, i ≤ a ∧ a ≤ e
theorem wi_pops (i e n : Nat) (h : i < e) : ∀ st : List Nat, Wi i e st → Wi (i + 1) e (pops i st).2 ∧ ∀ (r : List Nd) (S : List Nat), fo r i (st ++ S) = fo r i ((pops i st).2 ++ S)
  | [], hw => by have := hw.2.1; cases this
  | a :: st, hw => by
    rw [pops]
    by_cases ha : a = i
    · rw [if_pos ha]
      have hne : st ≠ [] := by
        rintro rfl
        have := hw.2.1
        simp at this
        omega
      have hw' : Wi i e st := ⟨(List.pairwise_cons.1 hw.1).2, by rw [← hw.2.1]; cases st with
        | nil => exact absurd rfl hne
        | cons b st => rw [List.getLast?_cons_cons], fun b hb => hw.2.2 b (List.mem_cons_of_mem _ hb)⟩
      obtain ⟨g1, g2⟩ := wi_pops i e n h st hw'
      exact ⟨g1, fun r S => by rw [List.cons_append, ha, fo_pop]; exact g2 r S⟩
    · rw [if_neg ha]
      have h0 := hw.2.2 a List.mem_cons_self
      refine ⟨⟨hw.1, hw.2.1, fun b hb => ?_⟩, fun _ _ => rfl⟩
      have hb' := hw.2.2 b hb
      rcases List.mem_cons.1 hb with rfl | hm
      · omega
      · have := (List.pairwise_cons.1 hw.1).1 b hm
        omega
theorem wi_end (e : Nat) : ∀ st : List Nat, (∀ a ∈ st, a = e) → (pops e st).2 = [] ∧ ∀ (r : List Nd) (S : List Nat), fo r e (st ++ S) = fo r e S
  | [], _ => ⟨rfl, fun _ _ => rfl⟩
  | a :: st, h => by
    have h0 := h a List.mem_cons_self
    obtain ⟨g1, g2⟩ := wi_end e st (fun b hb => h b (List.mem_cons_of_mem _ hb))
    rw [pops, if_pos h0]
    exact ⟨g1, fun r S => by rw [List.cons_append, h0, fo_pop]; exact g2 r S⟩
/-- A block's tokens, and what comes behind it. -/
theorem tks_block (e n : Nat) : ∀ (p q : List Nd) (i : Nat) (st : List Nat), i + p.length = e → i < e → Wi (i + 1) e st → fo (p ++ q) i (st ++ [n]) = true →
    tks (p ++ q) i st = tks p i st ++ tks q e [] ∧ fo q e [n] = true
  | [], q, i, st, h1, h2, _, _ => by simp at h1; omega
  | x :: p, q, i, st, h1, h2, hw, hf => by
    simp only [List.length_cons] at h1
    obtain ⟨top, S', hst⟩ : ∃ top S', st = top :: S' := by
      cases st with
      | nil => have := hw.2.1; cases this
      | cons a b => exact ⟨a, b, rfl⟩
    have htop := hw.2.2 top (by rw [hst]; exact List.mem_cons_self)
    have hok : x.ok i top := by
      rw [List.cons_append, hst, List.cons_append] at hf
      by_cases h : x.ok i top
      · exact h
      · rw [fo_no (by omega) h] at hf
        cases hf
    -- behind the node
    obtain ⟨st2, e2, hw2, hf2⟩ : ∃ st2, (if x.kind = 1 then (i + x.size.toNat) :: st else st) = st2 ∧ Wi (i + 1) e st2 ∧ fo (p ++ q) (i + 1) (st2 ++ [n]) = true := by
      by_cases hk : x.kind = 1
      · have hsz : 1 ≤ x.size ∧ x.size ≤ (top : Int) - i := by
          rcases hok with ⟨_, _, a, b⟩ | ⟨a, _⟩
          · exact ⟨a, b⟩
          · exact absurd hk a
        refine ⟨_, if_pos hk, ⟨List.pairwise_cons.2 ⟨fun b hb => ?_, hw.1⟩, ?_, fun b hb => ?_⟩, ?_⟩
        · rw [hst] at hb
          have : top ≤ b := by
            rcases List.mem_cons.1 hb with rfl | hm
            · exact Nat.le_refl _
            · have hp := hw.1
              rw [hst] at hp
              exact (List.pairwise_cons.1 hp).1 b hm
          omega
        · have := hw.2.1
          rw [hst] at this ⊢
          rw [List.getLast?_cons_cons]
          exact this
        · rcases List.mem_cons.1 hb with rfl | hm
          · omega
          · exact hw.2.2 b hm
        · rw [hst, List.cons_append, List.cons_append]
          rw [hst, List.cons_append, List.cons_append, fo_open (by omega) hok hk] at hf
          exact hf
      · refine ⟨_, if_neg hk, hw, ?_⟩
        rw [hst, List.cons_append, List.cons_append, fo_atom (by omega) hok hk] at hf
        rw [hst, List.cons_append]
        exact hf
    rw [List.cons_append, tks, tks, e2]
    by_cases hle : i + 1 < e
    · obtain ⟨w1, w2⟩ := wi_pops (i + 1) e n hle st2 hw2
      rw [w2] at hf2
      obtain ⟨g1, g2⟩ := tks_block e n p q (i + 1) _ (by omega) hle w1 hf2
      refine ⟨?_, g2⟩
      rw [g1, List.cons_append, List.append_assoc]
    · have he : i + 1 = e := by omega
      have hp : p = [] := List.length_eq_zero_iff.1 (by omega)
      subst hp
      obtain ⟨w1, w2⟩ := wi_end (i + 1) st2 (fun a ha => by have := hw2.2.2 a ha; omega)
      rw [w2, List.nil_append] at hf2
      rw [w1, ← he, List.nil_append]
      refine ⟨?_, hf2⟩
      rw [tks, List.append_nil, List.cons_append]
/-- The lines are the tokens of all. -/
theorem kl_tks (ns : List Nd) (hS : Szs ns) : ∀ (k a : Nat), a ≤ ns.length → ns.length - a ≤ k → fo (ns.drop a) a [ns.length] = true → (kl ns ns.length k a).flatMap (lnt ns) = tks (ns.drop a) a []
  | 0, a, h1, h2, hf => by
    have : a = ns.length := by omega
    subst this
    rw [kl, List.drop_length]
    rfl
  | k + 1, a, h1, h2, hf => by
    by_cases ha : a < ns.length
    · rw [kl_go ns _ k a ha, List.flatMap_cons]
      have hs := hS a ha
      have hpl := piece_length hS ha
      obtain ⟨s, hsz⟩ : ∃ s, (ns.getD a Nd.z).size.toNat = s := ⟨_, rfl⟩
      rw [hsz] at hpl ⊢
      have hsplit : ns.drop a = piece ns a ++ ns.drop (a + s) := by
        unfold piece
        rw [hsz, ← List.drop_drop, List.take_append_drop]
      have hmain : tks (ns.drop a) a [] = tks (piece ns a) a [] ++ tks (ns.drop (a + s)) (a + s) [] ∧ fo (ns.drop (a + s)) (a + s) [ns.length] = true := by
        have hx : piece ns a = ns.getD a Nd.z :: (piece ns a).drop 1 := by
          have h0 := piece_at (ns := ns) (k := a) (j := 0) (by omega)
          cases hp : piece ns a with
          | nil => rw [hp] at hpl; simp at hpl; omega
          | cons y t =>
            rw [hp, Nat.add_zero, List.getD_cons_zero] at h0
            rw [h0]
            rfl
        generalize ns.getD a Nd.z = x at *
        generalize piece ns a = pc at *
        rw [hsplit, hx] at hf ⊢
        generalize pc.drop 1 = pr at *
        have hlen : a + 1 + pr.length = a + s := by rw [hx] at hpl; simp at hpl; omega
        have hok : x.ok a ns.length := by
          rw [List.cons_append] at hf
          by_cases h : x.ok a ns.length
          · exact h
          · rw [fo_no (by omega) h] at hf
            cases hf
        by_cases hk : x.kind = 1
        · rw [List.cons_append, fo_open (by omega) hok hk] at hf
          rw [List.cons_append, tks, tks, if_pos hk, hsz]
          rw [hsz] at hf
          by_cases h1s : s = 1
          · have hp : pr = [] := List.length_eq_zero_iff.1 (by omega)
            subst hp
            subst h1s
            rw [fo_pop] at hf
            refine ⟨?_, hf⟩
            simp [pops, tks]
          · have hnp : pops (a + 1) [a + s] = ([], [a + s]) := by rw [pops, if_neg (by omega)]
            rw [hnp]
            simp only [List.nil_append]
            obtain ⟨g1, g2⟩ := tks_block (a + s) ns.length pr (ns.drop (a + s)) (a + 1) [a + s] (by omega) (by omega) ⟨List.pairwise_singleton _ _, rfl, fun b hb => by rw [List.mem_singleton.1 hb]; omega⟩ hf
            refine ⟨?_, g2⟩
            rw [g1, List.cons_append]
        · have h1s : s = 1 := by
            rcases hok with ⟨h, _⟩ | ⟨_, _, _, h⟩
            · exact absurd h hk
            · omega
          have hp : pr = [] := List.length_eq_zero_iff.1 (by omega)
          subst hp
          subst h1s
          rw [List.cons_append, fo_atom (by omega) hok hk] at hf
          refine ⟨?_, hf⟩
          rw [List.cons_append, tks, tks, if_neg hk]
          simp [pops, tks]
      rw [hmain.1, kl_tks ns hS k (a + s) (by omega) (by omega) hmain.2]
      congr 1
      unfold lnt
      have := tks_move a (piece ns a) 0 []
      rw [Nat.zero_add] at this
      exact this.symm
    · have : a = ns.length := by omega
      subst this
      rw [kl_end ns _ _ _ (Nat.le_refl _), List.drop_length]
      rfl
/-- How much nodes can make. -/
def wt : List Nd → Nat
  | [] => 0
  | x :: r => 2 * x.text.data.toList.length + 10 + wt r
theorem pops_tot (i : Nat) : ∀ st : List Nat, jtot (pops i st).1 + 5 * (pops i st).2.length = 5 * st.length
  | [] => rfl
  | a :: st => by
    rw [pops]
    split
    · have := pops_tot i st
      simp only [jtot, List.length_cons, List.length_nil]
      omega
    · simp [jtot]
theorem tks_tot : ∀ (r : List Nd) (i : Nat) (st : List Nat), jtot (tks r i st) ≤ wt r + 5 * st.length
  | [], i, st => Nat.zero_le _
  | x :: r, i, st => by
    rw [tks]
    have h1 := pops_tot (i + 1) (if x.kind = 1 then (i + x.size.toNat) :: st else st)
    have h2 := tks_tot r (i + 1) (pops (i + 1) (if x.kind = 1 then (i + x.size.toNat) :: st else st)).2
    rw [jtot, jtot_append, wt]
    by_cases hk : x.kind = 1
    · rw [if_pos hk] at h1 h2 ⊢
      rw [tokOf, if_pos hk]
      simp only [List.length_cons, List.length_nil] at h1 ⊢
      omega
    · rw [if_neg hk] at h1 h2 ⊢
      rw [tokOf, if_neg hk]
      simp only at h1 ⊢
      omega
theorem wt_drop : ∀ (ns : List Nd) (k : Nat), wt (ns.drop k) ≤ wt ns
  | [], k => by simp
  | x :: r, 0 => Nat.le_refl _
  | x :: r, k + 1 => by rw [List.drop_succ_cons, wt]; have := wt_drop r k; omega
theorem wt_take : ∀ (ns : List Nd) (k : Nat), wt (ns.take k) ≤ wt ns
  | [], k => by simp
  | x :: r, 0 => Nat.zero_le _
  | x :: r, k + 1 => by rw [List.take_succ_cons, wt, wt]; have := wt_take r k; omega
theorem lnt_tot (ns : List Nd) (k : Nat) : jtot (lnt ns k) ≤ wt ns := by
  unfold lnt piece
  have h1 := tks_tot ((ns.drop k).take (ns.getD k Nd.z).size.toNat) 0 []
  have h2 := wt_take (ns.drop k) (ns.getD k Nd.z).size.toNat
  have h3 := wt_drop ns k
  simp only [List.length_nil] at h1
  omega
/-- Nodes that count the same are written the same. -/
theorem key_at {a b : List Nd} (h : a.map key = b.map key) (j : Nat) : key (a.getD j Nd.z) = key (b.getD j Nd.z) := by
  have h1 : (a.map key)[j]? = (b.map key)[j]? := by rw [h]
  rw [List.getElem?_map, List.getElem?_map] at h1
  rw [List.getD_eq_getElem?_getD, List.getD_eq_getElem?_getD]
  cases ha : a[j]? with
  | none => cases hb : b[j]? with
    | none => rfl
    | some y => rw [ha, hb] at h1; cases h1
  | some x => cases hb : b[j]? with
    | none => rw [ha, hb] at h1; cases h1
    | some y => rw [ha, hb] at h1; exact Option.some.inj h1
theorem key_tok {x y : Nd} (h : key x = key y) : tokOf x = tokOf y := by
  simp only [key, Prod.mk.injEq] at h
  obtain ⟨h1, _, h3⟩ := h
  unfold tokOf
  rw [h1] at h3 ⊢
  by_cases hk : y.kind = 1
  · rw [if_pos hk, if_pos hk]
  · rw [if_neg hk, if_neg hk] at h3
    rw [if_neg hk, if_neg hk, h3]
theorem tks_key : ∀ (a b : List Nd) (i : Nat) (st : List Nat), a.map key = b.map key → tks a i st = tks b i st
  | [], b, i, st, h => by
    have : b = [] := List.map_eq_nil_iff.1 h.symm
    rw [this]
  | x :: a, [], i, st, h => by cases h
  | x :: a, y :: b, i, st, h => by
    rw [List.map_cons, List.map_cons] at h
    obtain ⟨h1, h2⟩ := List.cons.inj h
    have ht := key_tok h1
    simp only [key, Prod.mk.injEq] at h1
    rw [tks, tks, ht, h1.1, h1.2.1, tks_key a b _ _ h2]
theorem kl_key {a b : List Nd} (h : a.map key = b.map key) (e : Nat) : ∀ (k i : Nat), kl a e k i = kl b e k i
  | 0, i => rfl
  | k + 1, i => by
    have hk := key_at h i
    simp only [key, Prod.mk.injEq] at hk
    rw [kl, kl, hk.2.1]
    split
    · rw [kl_key h e k]
    · rfl
theorem lnt_key {a b : List Nd} (h : a.map key = b.map key) (k : Nat) : lnt a k = lnt b k := by
  have hk := key_at h k
  simp only [key, Prod.mk.injEq] at hk
  unfold lnt piece
  refine tks_key _ _ _ _ ?_
  rw [hk.2.1, List.map_take, List.map_take, List.map_drop, List.map_drop, h]
theorem shw_key {a b : List Nd} (h : a.map key = b.map key) : ∀ (ks : List Nat) (acc : List UInt8), shw a ks acc = shw b ks acc
  | [], acc => rfl
  | k :: ks, acc => by
    rw [shw, shw, lnt_key h k]
    split
    · rfl
    · exact shw_key h ks _
theorem showA_key {a b : List Nd} (h : a.map key = b.map key) : showA a = showA b := by
  have hl : a.length = b.length := by have := congrArg List.length h; simpa using this
  unfold showA
  rw [hl, kl_key h, shw_key h]
/-- What is written is read as nodes that count the same, and is written the same again. -/
theorem show_back {ns : List Nd} (hf : forestB ns = true) {out : List UInt8} (h : showA ns = some out) :
    out.length ≤ wt ns + ns.length ∧ ∃ fs T, S.run resv .idle out 0 = (T, 0, 0) ∧ X.out T 0 0 = (fs, 0, 0) ∧ fs.map nkey = ns.map key := by
  have hS := forest_sizes hf
  obtain ⟨s, e1, e0, e2⟩ := shw_read ns _ _ _ h
  rw [kl_tks ns hS ns.length 0 (Nat.zero_le _) (by omega) (by rw [List.drop_zero]; exact hf), List.drop_zero] at e0 e2
  rw [List.nil_append] at e1
  subst e1
  have h1 := tks_tot ns 0 []
  have h2 := kl_length ns ns.length ns.length 0
  simp only [List.length_nil] at h1
  refine ⟨by omega, ?_⟩
  obtain ⟨T, g1, g2⟩ := e2 0
  obtain ⟨fs, g3, g4⟩ := back_forest hf g2
  refine ⟨fs, T, g1, ?_, g4⟩
  unfold X.out
  rw [g3]
end Go.Proofs.YtjbalgjdcdmjjaaDoor
/- ==== NodeOpenB ==== -/
namespace Go.Proofs.YtjbalgjdcdmjjaaDoor
open Go.RowKit Go.Deep
set_option linter.unusedVariables false
theorem underNode : ∃ f0 f1 f2 f3 f4 : Field, Tryd.prog.underlying 47 = some (.struct #[f0, f1, f2, f3, f4]) ∧ (f0.offset = 0 ∧ f0.type = 3) ∧ (f1.offset = 1 ∧ f1.type = 3) ∧ (f2.offset = 2 ∧ f2.type = 3) ∧ (f3.offset = 3 ∧ f3.type = 3) ∧ (f4.offset = 4 ∧ f4.type = 9) :=
  ⟨_, _, _, _, _, Tryd.underlying47, ⟨rfl, rfl⟩, ⟨rfl, rfl⟩, ⟨rfl, rfl⟩, ⟨rfl, rfl⟩, rfl, rfl⟩
theorem cellsNode : Tryd.prog.cellsOf 47 = 5 := by kernel_rfl
theorem cellsInt : Tryd.prog.cellsOf 3 = 1 := by kernel_rfl
theorem cellsString : Tryd.prog.cellsOf 9 = 1 := by kernel_rfl
theorem bytesNode : Tryd.prog.bytesOf 47 = 48 := by kernel_rfl
theorem addr5 {w : World} {a : Addr} {u : Value} (j f : Nat) (h : w.cell? ((a.add (j * 5)).add f) = some u) : w.cell? ⟨a.block, a.off + j * 5 + f, none⟩ = some u := by
  have hs := World.cell?_spot h
  have e : (a.add (j * 5)).add f = ⟨a.block, a.off + j * 5 + f, none⟩ := by
    obtain ⟨b, off, spot⟩ := a
    simp only [Addr.add] at hs ⊢
    split <;> split <;> simp_all
  rw [← e]
  exact h
theorem wt_bulk {H : Type} : ∀ (ns : List Nd) (ds : List (DataW H)), ns.length = ds.length → (∀ j, j < ns.length → (ns.getD j Nd.z).text.data.toList.length + 6 ≤ Rows.uptoBulk (ds.getD j .nil)) → wt ns ≤ 2 * Rows.uptoBulkAll ds ∧ ns.length ≤ Rows.uptoBulkAll ds
  | [], ds, _, _ => ⟨Nat.zero_le _, Nat.zero_le _⟩
  | x :: ns, [], h, _ => by simp at h
  | x :: ns, d :: ds, h, hj => by
    have h0 := hj 0 (by simp)
    have ih := wt_bulk ns ds (by simpa using h) (fun j hjl => by
      have := hj (j + 1) (by simp; omega)
      simpa using this)
    simp only [List.getD_cons_zero] at h0
    simp only [wt, Rows.uptoBulkAll, List.length_cons]
    omega
set_option maxRecDepth 100000 in
theorem open_nodesB {H : Type} {enc : TypeId × Value → H} {w : World} {held : Bool} {fuel : Nat} {v : Value} {x : DataW H × List MemPlace} (hv : ∃ a n c, v = .slice a n c)
    (h : DataW.trod enc Tryd.prog w 0 (fun _ => true) held fuel 43 v.cells.toList = some x) (hbk : Rows.uptoBulk x.1 ≤ 1048576) : ∃ ns, Nds w.heap.size w v ns ∧ wt ns ≤ 2 * Rows.uptoBulk x.1 ∧ ns.length ≤ Rows.uptoBulk x.1 := by
  obtain ⟨va, vn, vc, rfl⟩ := hv
  rcases open_slice (t := 43) (e := 47) (by kernel_rfl) h with ⟨hcs, _⟩ | ⟨a, len, cap, m, n, D, Pl, hcs, hb, hl, hm, hmm, rfl, hx⟩
  · simp [Value.cells] at hcs
    obtain ⟨rfl, rfl, rfl⟩ := hcs
    exact ⟨[], ⟨none, 0, rfl, by simp, by simp, by simp, fun h => absurd rfl h⟩, Nat.zero_le _, Nat.zero_le _⟩
  · simp [Value.cells] at hcs
    obtain ⟨rfl, rfl, rfl⟩ := hcs
    simp only [if_true] at hmm
    subst hmm
    obtain ⟨f0, f1, f2, f3, f4, hu, ⟨o0, t0⟩, ⟨o1, t1⟩, ⟨o2, t2⟩, ⟨o3, t3⟩, o4, t4⟩ := underNode
    rw [cellsNode] at hx
    have each : ∀ j, j < m → ∃ x : Nd, (w.cell? ⟨a.block, a.off + j * 5, none⟩ = some (.int .i64 x.kind) ∧ w.cell? ⟨a.block, a.off + j * 5 + 1, none⟩ = some (.int .i64 x.pos) ∧ w.cell? ⟨a.block, a.off + j * 5 + 2, none⟩ = some (.int .i64 x.fin) ∧ w.cell? ⟨a.block, a.off + j * 5 + 3, none⟩ = some (.int .i64 x.size) ∧ w.cell? ⟨a.block, a.off + j * 5 + 4, none⟩ = some (.string x.text)) ∧ x.text.data.toList.length + 6 ≤ Rows.uptoBulk (D j) := by
      intro j hj
      obtain ⟨cs, h1, h2⟩ := hx j hj
      obtain ⟨_, hlen, hcell⟩ := World.cells?_some h1
      obtain ⟨xs, k, hk, hxy, _, hxl, hf⟩ := DataW.trod_struct hu h2
      match cs, hlen with
      | [v0, v1, v2, v3, v4], _ =>
        match xs, hxl with
        | [y0, y1, y2, y3, y4], _ =>
          have g0 := hf 0 f0 rfl
          have g1 := hf 1 f1 rfl
          have g2 := hf 2 f2 rfl
          have g3 := hf 3 f3 rfl
          have g4 := hf 4 f4 rfl
          simp [o0, t0, cellsInt] at g0
          simp [o1, t1, cellsInt] at g1
          simp [o2, t2, cellsInt] at g2
          simp [o3, t3, cellsInt] at g3
          simp [o4, t4, cellsString] at g4
          obtain ⟨n0, e0, z0, -⟩ := DataW.trod_int Tryd.underlying3 g0
          obtain ⟨n1, e1, z1, -⟩ := DataW.trod_int Tryd.underlying3 g1
          obtain ⟨n2, e2, z2, -⟩ := DataW.trod_int Tryd.underlying3 g2
          obtain ⟨n3, e3, z3, -⟩ := DataW.trod_int Tryd.underlying3 g3
          obtain ⟨s4, e4, z4, -⟩ := DataW.trod_string Tryd.underlying9 g4
          cases e0; cases e1; cases e2; cases e3; cases e4
          have hD : D j = .agg [.lit (.int .i64 n0), .lit (.int .i64 n1), .lit (.int .i64 n2), .lit (.int .i64 n3), .lit (.string s4.data.toList)] := by
            have := (Prod.mk.inj hxy).1
            rw [this, z0, z1, z2, z3, z4]
            rfl
          refine ⟨⟨n0, n1, n2, n3, s4⟩, ⟨addr5 j 0 (hcell 0 (by omega)), addr5 j 1 (hcell 1 (by omega)), addr5 j 2 (hcell 2 (by omega)), addr5 j 3 (hcell 3 (by omega)), addr5 j 4 (hcell 4 (by omega))⟩, ?_⟩
          rw [hD]
          simp only [Rows.uptoBulk, Rows.uptoBulkAll]
          omega
    have inh : Inhabited Nd := ⟨Nd.z⟩
    obtain ⟨X, hX⟩ := choose_lt each
    have hw := wt_bulk ((List.range vn).map X) ((List.range vn).map D) (by simp) (fun j hj => by
        simp only [List.length_map, List.length_range] at hj
        have e : ((List.range vn).map X).getD j Nd.z = X j := by simp [List.getD_eq_getElem?_getD, hj]
        have e2 : ((List.range vn).map D).getD j .nil = D j := by simp [List.getD_eq_getElem?_getD, hj]
        rw [e, e2]
        exact (hX j (by omega)).2)
    have hlen2 : ((List.range vn).map X).length = vn := by simp
    rw [hlen2] at hw
    simp only [Rows.uptoBulk] at hbk ⊢
    obtain ⟨b, off, spot⟩ := a
    refine ⟨(List.range vn).map X, ⟨some ⟨b, off, spot⟩, m, by rw [hlen2], by rw [hlen2]; omega, ⟨by unfold maxLen at hm; omega, by rw [hlen2]; omega⟩, fun e => (by cases e), fun hne => ?_⟩, by omega, by rw [hlen2]; omega⟩
    have h0 : 0 < vn := by
      apply Nat.pos_of_ne_zero
      rintro rfl
      simp at hne
    have hsp : spot = none := by
      obtain ⟨cs, h1, _⟩ := hx 0 (by omega)
      obtain ⟨_, hlen, hcell⟩ := World.cells?_some h1
      have := hcell 0 (by omega)
      match cs, hlen with
      | [v0, v1, v2, v3, v4], _ => simpa [Addr.add] using World.cell?_spot this
    subst hsp
    refine ⟨b, off, rfl, ?_, fun j hj => ?_⟩
    · exact World.block_lt_of_cell? w ⟨b, _, none⟩ (hX 0 (by omega)).1.1
    · rw [hlen2] at hj
      have e : ((List.range vn).map X).getD j Nd.z = X j := by simp [List.getD_eq_getElem?_getD, hj]
      rw [e]
      exact (hX j (by omega)).1
end Go.Proofs.YtjbalgjdcdmjjaaDoor
