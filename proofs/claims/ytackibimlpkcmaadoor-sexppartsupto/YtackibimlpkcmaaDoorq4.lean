/- Laid together of: PartMath, NodeBase. -/
import Derived.Test.YtackibimlpkcmaaDoorq3
import Derived.Test.YtackibimlpkcmaaDoorTextBaseq
import Derived.Laws.AppendOwn
/- ==== PartMath ==== -/
namespace Go.Proofs.YtackibimlpkcmaaDoor.S
set_option linter.unusedVariables false
variable (res : List UInt8 → Bool)
/- Gaps. -/
theorem dCom_cut (l : List UInt8) (i : Nat) : ∀ r k, dCom l i = .ok r k → ∃ n, n ≤ l.length ∧ k = i + n ∧ r = l.drop n ∧ ∀ m, dCom (l.take (n + m)) i = .ok ((l.drop n).take m) (i + n) := by
  induction hn : l.length using Nat.strongRecOn generalizing l i with
  | _ N ih =>
    intro r k h
    cases l with
    | nil =>
      rw [dCom] at h
      cases h
      refine ⟨0, by simp, rfl, rfl, fun m => ?_⟩
      simp [dCom]
    | cons b t =>
      rw [dCom] at h
      by_cases hb : b = 10 ∨ b = 13
      · rw [if_pos hb] at h
        cases h
        refine ⟨0, by simp, rfl, rfl, fun m => ?_⟩
        rw [Nat.zero_add, List.drop_zero]
        cases m with
        | zero => simp [dCom]
        | succ m => rw [List.take_succ_cons, dCom, if_pos hb]; rfl
      · rw [if_neg hb] at h
        by_cases hc : ctl b = true
        · simp [hc] at h
        · by_cases h0 : chr (b :: t) = 0
          · simp [hc, h0] at h
          · simp only [hc, h0, if_false, Bool.false_eq_true, dite_false] at h
            have hl := chr_le (b :: t)
            obtain ⟨n, e1, e2, e3, e4⟩ := ih _ (by simp at *; omega) _ _ rfl r k h
            obtain ⟨q, hq⟩ : ∃ q, chr (b :: t) = q + 1 := ⟨chr (b :: t) - 1, by omega⟩
            rw [hq] at hl e1 e2 e3 e4
            simp only [List.drop_succ_cons, List.length_drop, List.length_cons] at e1 e3 e4 hl
            refine ⟨q + 1 + n, by simp at hn ⊢; omega, by omega, ?_, fun m => ?_⟩
            · rw [e3, show q + 1 + n = (q + n) + 1 from by omega, List.drop_succ_cons, List.drop_drop]
            · rw [show q + 1 + n + m = (q + n + m) + 1 from by omega, List.take_succ_cons]
              have hx := chr_take b t (q + n + m) h0 (by omega)
              rw [dCom]
              simp only [hb, hc, if_false, Bool.false_eq_true, hx, h0, dite_false]
              rw [hq, List.drop_succ_cons, List.drop_take, show q + n + m - q = n + m from by omega, e4, show q + 1 + n = (q + n) + 1 from by omega, List.drop_succ_cons, List.drop_drop, show i + (q + 1) + n = i + (q + n + 1) from by omega]
theorem dSkip_cut (l : List UInt8) (i : Nat) : ∀ r k, dSkip l i = .ok r k → ∃ n, n ≤ l.length ∧ k = i + n ∧ r = l.drop n ∧ dSkip (l.take n) i = .ok [] (i + n) := by
  induction hn : l.length using Nat.strongRecOn generalizing l i with
  | _ N ih =>
    intro r k h
    cases l with
    | nil =>
      rw [dSkip] at h
      cases h
      exact ⟨0, by simp, rfl, rfl, by rw [List.take_zero, dSkip]; rfl⟩
    | cons b t =>
      rw [dSkip.eq_def] at h
      by_cases hw : white b = true
      · simp only [hw, if_true] at h
        obtain ⟨n, e1, e2, e3, e4⟩ := ih t.length (by simp at hn; omega) t (i + 1) rfl r k h
        refine ⟨n + 1, by simp at hn ⊢; omega, by omega, by rw [e3]; rfl, ?_⟩
        rw [List.take_succ_cons, dSkip.eq_def]
        simp only [hw, if_true]
        rw [e4, show i + 1 + n = i + (n + 1) from by omega]
      · by_cases h59 : b = 59
        · subst h59
          simp only [hw, if_false, if_true, Bool.false_eq_true] at h
          rcases hc : dCom t (i + 1) with ⟨r1, k1⟩ | ⟨e, p⟩
          · rw [hc] at h
            replace h : dSkip r1 k1 = .ok r k := h
            obtain ⟨n1, f1, f2, f3, f4⟩ := dCom_cut t (i + 1) r1 k1 hc
            have hlen := dCom_len _ _ _ _ hc
            obtain ⟨n, e1, e2, e3, e4⟩ := ih _ (by simp at hn; omega) r1 k1 rfl r k h
            have f5 := f4 n
            rw [← f3] at f5
            refine ⟨n1 + n + 1, by rw [f3] at e1; simp at hn e1 ⊢; omega, by omega, ?_, ?_⟩
            · rw [e3, f3, List.drop_drop, List.drop_succ_cons]
            · rw [List.take_succ_cons, dSkip.eq_def]
              simp only [hw, if_false, if_true, Bool.false_eq_true]
              rw [f5]
              show dSkip (r1.take n) (i + 1 + n1) = _
              rw [← f2, e4, f2, show i + 1 + n1 + n = i + (n1 + n + 1) from by omega]
          · rw [hc] at h
            cases h
        · simp only [hw, h59, if_false, Bool.false_eq_true] at h
          cases h
          exact ⟨0, by simp, rfl, rfl, by rw [List.take_zero, dSkip]; rfl⟩
/-- Read from 0 on as from anywhere. -/
theorem run_zero_at (l : List UInt8) (i : Nat) (h : run res .idle l i = ([], 0, 0)) : run res .idle l 0 = ([], 0, 0) := by
  have x := run_sh res i l .idle 0
  rw [Nat.zero_add] at x
  have x : shO i (run res .idle l 0) = ([], 0, 0) := by rw [← x]; exact h
  have e : (run res .idle l 0).2.1 = 0 := congrArg (fun o : Out => o.2.1) x
  have p := run_place res l .idle 0 e
  have t : (run res .idle l 0).1.map (shT i) = [] := congrArg (fun o : Out => o.1) x
  rw [List.map_eq_nil_iff] at t
  exact Prod.ext t (Prod.ext e p)
/-- The tokens stand one behind the other; between them nothing; from each on the reading begins anew. -/
def Segs : List Tok → List UInt8 → Nat → Prop
  | [], l, i => True
  | t :: ts, l, i => ∃ n m, 0 < m ∧ n + m ≤ l.length ∧ t.beg = i + n ∧ t.fin = i + n + m ∧ run res .idle (l.take n) 0 = ([], 0, 0) ∧
      run res .idle (l.drop n) (i + n) = (t :: ts, 0, 0) ∧ Segs ts (l.drop (n + m)) (i + n + m)
theorem run_segs (l : List UInt8) (i : Nat) : ∀ ts, run res .idle l i = (ts, 0, 0) → Segs res ts l i := by
  induction hn : l.length using Nat.strongRecOn generalizing l i with
  | _ N ih =>
    intro ts h
    have h0 := h
    rw [run_doc] at h
    rcases hs : dSkip l i with ⟨r, k⟩ | ⟨e, p⟩
    · obtain ⟨n, e1, e2, e3, e4⟩ := dSkip_cut l i r k hs
      rw [hs] at h
      cases r with
      | nil =>
        obtain rfl : [] = ts := congrArg (fun o : Out => o.1) h
        trivial
      | cons b t =>
        obtain ⟨w1, w2⟩ := dSkip_head l i b t k hs
        have hlen : t.length + 1 = l.length - n := by
          have := congrArg List.length e3
          simpa using this
        replace h : (dOne res b t k).out res = (ts, 0, 0) := h
        rcases ho : dOne res b t k with ⟨tk, r'⟩ | ⟨e, p⟩
        · obtain ⟨c1, m, c2, c3, c4, c5⟩ := dOne_cut res b t k tk r' ho
          rw [ho] at h
          replace h : pre [tk] (run res .idle r' tk.fin) = (ts, 0, 0) := h
          have d1 : l.drop (n + (m + 1)) = r' := by
            rw [← List.drop_drop, ← e3, List.drop_succ_cons, c4]
          have d2 : tk.fin = i + n + (m + 1) := by omega
          obtain ⟨⟨ts', e, p⟩, hr⟩ : ∃ o, run res .idle r' tk.fin = o := ⟨_, rfl⟩
          rw [hr] at h
          cases h
          refine ⟨n, m + 1, by omega, by omega, by omega, d2, ?_, ?_, ?_⟩
          · apply run_zero_at res _ i
            rw [run_doc, e4]
          · rw [← e3, run_one res b t _ w1 w2, ← e2, ho]
            show pre [tk] (run res .idle r' tk.fin) = _
            rw [hr]
            rfl
          · rw [d1, ← d2]
            exact ih _ (by rw [← d1, List.length_drop]; omega) r' _ rfl _ hr
        · rw [ho] at h
          have := (dOne_err res b t k e p ho).1
          exact absurd (congrArg (fun o : Out => o.2.1) h) this
    · rw [hs] at h
      have := (dSkip_err l i e p hs).1
      exact absurd (congrArg (fun o : Out => o.2.1) h) this
/- A run of tokens, cut off behind its last. -/
/-- What one step tells, and what the end would have told there. -/
def Res.tells (q : St) (i : Nat) : Res → Prop
  | .inr _ => True
  | .inl (ts, q') => ts = [] ∨ (∃ t, ts = [t] ∧ t.fin = i ∧ stop res q i = ([t], 0, 0)) ∨ (∃ t, ts = [t] ∧ t.fin = i + 1 ∧ q' = .idle) ∨
      ∃ t t', ts = [t, t'] ∧ t.fin = i ∧ stop res q i = ([t], 0, 0) ∧ t'.fin = i + 1 ∧ q' = .idle
def Res.lone (i : Nat) : Res → Prop
  | .inr _ => True
  | .inl (ts, q') => ts = [] ∨ ∃ t, ts = [t] ∧ t.fin = i + 1 ∧ q' = .idle
theorem stepIdle_lone (b : UInt8) (i : Nat) : (stepIdle b i).lone i := by
  unfold stepIdle
  repeat' split
  all_goals first | trivial | exact .inl rfl | exact .inr ⟨_, rfl, rfl, rfl⟩
theorem tells_lone {q : St} {i : Nat} {r : Res} (h : r.lone i) : r.tells res q i := by
  rcases r with ⟨ts, q'⟩ | _
  · rcases h with h | h
    · exact .inl h
    · exact .inr (.inr (.inl h))
  · trivial
theorem tells_pass {q : St} {i : Nat} {r : Res} {t : Tok} (h : r.lone i) (h1 : t.fin = i) (h2 : stop res q i = ([t], 0, 0)) : (r.pre [t]).tells res q i := by
  rcases r with ⟨ts, q'⟩ | _
  · rcases h with rfl | ⟨t', rfl, h3, h4⟩
    · exact .inr (.inl ⟨t, rfl, h1, h2⟩)
    · exact .inr (.inr (.inr ⟨t, t', rfl, h1, h2, h3, h4⟩))
  · trivial
theorem behind_tells {q : St} {k g i : Nat} {a : List UInt8} {b : UInt8} (h : stop res q i = ([tok res k g i a], 0, 0)) : (behindNumber res k g a b i).tells res q i := by
  unfold behindNumber
  split
  · trivial
  · exact tells_pass res (stepIdle_lone b i) rfl h
theorem content_tells {q : St} (c : Cont) (b : UInt8) (i : Nat) : (content c b i).tells res q i := by
  unfold content
  repeat' split
  all_goals first | trivial | exact .inl rfl
theorem step_tells (q : St) (b : UInt8) (i : Nat) : (step res q b i).tells res q i := by
  rcases q with _ | ⟨k, g, a⟩ | g | ⟨g, a⟩ | ⟨g, a⟩ | g | ⟨k, m, g, a⟩ | ⟨k, m, g, a⟩ | ⟨g, a⟩ | (_ | ⟨g, a⟩ | ⟨g, a⟩) | ⟨c, s, k, lo, hi⟩
  · exact tells_lone res (stepIdle_lone b i)
  · simp only [step]
    split
    · exact .inl rfl
    · exact tells_pass res (stepIdle_lone b i) rfl rfl
  · simp only [step]
    split
    · exact .inl rfl
    · trivial
  · simp only [step]
    split
    · exact .inl rfl
    · unfold stepZero
      split
      · exact .inl rfl
      · exact behind_tells res rfl
  · simp only [step]
    unfold stepZero
    split
    · exact .inl rfl
    · exact behind_tells res rfl
  · simp only [step]
    repeat' split
    all_goals first | trivial | exact .inl rfl
  · simp only [step]
    repeat' split
    all_goals first | trivial | exact .inl rfl
  · simp only [step]
    split
    · exact .inl rfl
    · exact behind_tells res rfl
  · simp only [step]
    split
    · exact .inl rfl
    · exact tells_pass res (stepIdle_lone b i) rfl rfl
  · simp only [step, stepCont]
    split
    · exact .inl rfl
    · exact content_tells res _ b i
  · simp only [step, stepCont]
    split
    · exact .inl rfl
    · exact content_tells res _ b i
  · simp only [step, stepCont]
    split
    · exact .inr (.inr (.inl ⟨_, rfl, rfl, rfl⟩))
    · split
      · trivial
      · exact content_tells res _ b i
  · simp only [step]
    repeat' split
    all_goals first | trivial | exact .inl rfl
theorem tells_ge {q q' : St} {i : Nat} {ts : List Tok} (h : Res.tells res q i (.inl (ts, q'))) : ∀ t ∈ ts, i ≤ t.fin := by
  rcases h with rfl | ⟨t, rfl, h1, -⟩ | ⟨t, rfl, h1, -⟩ | ⟨t, t', rfl, h1, -, h2, -⟩ <;> intro x hx <;> simp at hx
  · subst hx
    omega
  · subst hx
    omega
  · rcases hx with rfl | rfl <;> omega
theorem stop_one (q : St) (i : Nat) : (stop res q i).1 = [] ∨ ∃ t, stop res q i = ([t], 0, 0) ∧ t.fin = i := by
  rcases q with _ | ⟨k, g, a⟩ | g | ⟨g, a⟩ | ⟨g, a⟩ | g | ⟨k, m, g, a⟩ | ⟨k, m, g, a⟩ | ⟨g, a⟩ | (_ | ⟨g, a⟩ | ⟨g, a⟩) | ⟨c, s, k, lo, hi⟩ <;> first | exact .inl rfl | exact .inr ⟨_, rfl, rfl⟩
theorem err_tells : ∀ (q : St) (b : UInt8) (i e p : Nat) (ts : List Tok), step res q b i = .inr (ts, e, p) → e ≠ 0 := by
  intro q b i e p ts h
  have := step_good res q b i
  rw [h] at this
  exact this
theorem run_ge : ∀ (l : List UInt8) (q : St) (i : Nat), (run res q l i).2.1 = 0 → ∀ t ∈ (run res q l i).1, i ≤ t.fin
  | [], q, i, _, t, ht => by
    replace ht : t ∈ (stop res q i).1 := ht
    rcases stop_one res q i with h | ⟨t', h, h2⟩
    · rw [h] at ht
      simp at ht
    · rw [h] at ht
      simp at ht
      subst ht
      omega
  | b :: l, q, i, h, t, ht => by
    have hs := step_tells res q b i
    rcases e : step res q b i with ⟨ts, q'⟩ | ⟨ts, e', p⟩
    · rw [run_go res e] at h ht
      rw [e] at hs
      rcases List.mem_append.1 ht with ht | ht
      · exact tells_ge res hs t ht
      · have := run_ge l q' (i + 1) h t ht
        omega
    · rw [run_err res e] at h
      exact absurd h (err_tells res q b i e' p ts e)
/-- Cut off where a token ends, a text has the tokens up to that one. -/
theorem run_upto (z : List UInt8) : ∀ (x : List UInt8) (q : St) (i : Nat) (ts : List Tok) (t : Tok), run res q (x ++ z) i = (ts, 0, 0) → t ∈ ts → t.fin = i + x.length →
    ∃ u v, ts = u ++ t :: v ∧ run res q x i = (u ++ [t], 0, 0)
  | [], q, i, ts, t, h, ht, hf => by
    rw [List.nil_append] at h
    have hf : t.fin = i := hf
    cases z with
    | nil =>
      rcases stop_one res q i with g | ⟨t', g, g2⟩
      · replace h : stop res q i = (ts, 0, 0) := h
        rw [h] at g
        subst g
        simp at ht
      · refine ⟨[], [], ?_, ?_⟩
        · replace h : stop res q i = (ts, 0, 0) := h
          rw [h] at g
          cases g
          simp at ht
          rw [ht]
          rfl
        · show stop res q i = _
          replace h : stop res q i = (ts, 0, 0) := h
          rw [h] at g ⊢
          cases g
          simp at ht
          rw [ht]
          rfl
    | cons c z =>
      have hs := step_tells res q c i
      rcases e : step res q c i with ⟨ts1, q'⟩ | ⟨ts1, e', p⟩
      · rw [run_go res e] at h
        rw [e] at hs
        obtain ⟨⟨ts2, e2, p2⟩, hr⟩ : ∃ o, run res q' z (i + 1) = o := ⟨_, rfl⟩
        rw [hr] at h
        replace h : (ts1 ++ ts2, e2, p2) = (ts, 0, 0) := h
        cases h
        have hge := run_ge res z q' (i + 1) (by rw [hr])
        rw [hr] at hge
        have ht1 : t ∈ ts1 := by
          rcases List.mem_append.1 ht with ht | ht
          · exact ht
          · have := hge t ht
            omega
        rcases hs with rfl | ⟨t', rfl, h1, h2⟩ | ⟨t', rfl, h1, -⟩ | ⟨t', t'', rfl, h1, h2, h3, -⟩
        · simp at ht1
        · simp at ht1
          subst ht1
          exact ⟨[], ts2, rfl, h2⟩
        · simp at ht1
          subst ht1
          omega
        · simp at ht1
          rcases ht1 with rfl | rfl
          · exact ⟨[], t'' :: ts2, rfl, h2⟩
          · omega
      · rw [run_err res e] at h
        cases h
        exact absurd rfl (err_tells res q c i 0 0 ts e)
  | b :: x, q, i, ts, t, h, ht, hf => by
    rw [List.cons_append] at h
    rw [List.length_cons] at hf
    have hs := step_tells res q b i
    rcases e : step res q b i with ⟨ts1, q'⟩ | ⟨ts1, e', p⟩
    · rw [run_go res e] at h
      rw [e] at hs
      obtain ⟨⟨ts2, e2, p2⟩, hr⟩ : ∃ o, run res q' (x ++ z) (i + 1) = o := ⟨_, rfl⟩
      rw [hr] at h
      replace h : (ts1 ++ ts2, e2, p2) = (ts, 0, 0) := h
      cases h
      rw [run_go res e]
      rcases List.mem_append.1 ht with ht | ht
      · have last : ∃ u, ts1 = u ++ [t] ∧ q' = .idle ∧ x = [] := by
          rcases hs with rfl | ⟨t', rfl, h1, h2⟩ | ⟨t', rfl, h1, h2⟩ | ⟨t', t'', rfl, h1, h2, h3, h4⟩
          · simp at ht
          · simp at ht
            subst ht
            omega
          · simp at ht
            subst ht
            exact ⟨[], rfl, h2, List.length_eq_zero_iff.1 (by omega)⟩
          · simp at ht
            rcases ht with rfl | rfl
            · omega
            · exact ⟨[t'], rfl, h4, List.length_eq_zero_iff.1 (by omega)⟩
        obtain ⟨u, rfl, rfl, rfl⟩ := last
        exact ⟨u, ts2, by simp, by simp [run, stop, pre]⟩
      · obtain ⟨u, v, e1, e2⟩ := run_upto z x q' (i + 1) ts2 t hr ht (by omega)
        refine ⟨ts1 ++ u, v, by rw [e1]; simp, ?_⟩
        rw [e2]
        simp [pre]
    · rw [run_err res e] at h
      cases h
      exact absurd rfl (err_tells res q b i 0 0 ts e)
end Go.Proofs.YtackibimlpkcmaaDoor.S
namespace Go.Proofs.YtackibimlpkcmaaDoor.X
open Go.Proofs.YtackibimlpkcmaaDoor.S
set_option linter.unusedVariables false
/-- Tokens that make nodes: an atom one, a list one and those of what stands in it. -/
def Sq (T : List Tok) (M : List N) : Prop :=
  ∀ P : List Tok → List N → Prop, P [] [] → (∀ (t : Tok) (T : List Tok) (M : List N), t.kind ≠ 1 → t.kind ≠ 2 → P T M → P (t :: T) (X.atom t :: M)) →
    (∀ (o c : Tok) (T : List Tok) (M : List N) (T' : List Tok) (M' : List N), o.kind = 1 → c.kind = 2 → P T M → P T' M' → P (o :: (T ++ c :: T')) (⟨1, o.beg, c.fin, M.length + 1, []⟩ :: (M ++ M'))) → P T M
theorem Sq.nil : Sq [] [] := fun P h1 _ _ => h1
theorem Sq.atom (t : Tok) (T : List Tok) (M : List N) (k1 : t.kind ≠ 1) (k2 : t.kind ≠ 2) (h : Sq T M) : Sq (t :: T) (X.atom t :: M) := fun P h1 h2 h3 => h2 t T M k1 k2 (h P h1 h2 h3)
theorem Sq.list (o c : Tok) (T : List Tok) (M : List N) (T' : List Tok) (M' : List N) (k1 : o.kind = 1) (k2 : c.kind = 2) (h : Sq T M) (h' : Sq T' M') : Sq (o :: (T ++ c :: T')) (⟨1, o.beg, c.fin, M.length + 1, []⟩ :: (M ++ M')) :=
  fun P h1 h2 h3 => h3 o c T M T' M' k1 k2 (h P h1 h2 h3) (h' P h1 h2 h3)
theorem Sq.ind {motive : ∀ (T : List Tok) (M : List N), Sq T M → Prop} (nil : motive [] [] .nil) (atom : ∀ (t : Tok) (T : List Tok) (M : List N) (h1 : t.kind ≠ 1) (h2 : t.kind ≠ 2) (h : Sq T M), motive T M h → motive (t :: T) (X.atom t :: M) (.atom t T M h1 h2 h))
    (list : ∀ (o c : Tok) (T : List Tok) (M : List N) (T' : List Tok) (M' : List N) (h1 : o.kind = 1) (h2 : c.kind = 2) (h : Sq T M) (h' : Sq T' M'), motive T M h → motive T' M' h' → motive (o :: (T ++ c :: T')) (⟨1, o.beg, c.fin, M.length + 1, []⟩ :: (M ++ M')) (.list o c T M T' M' h1 h2 h h'))
    {T : List Tok} {M : List N} (h : Sq T M) : motive T M h :=
  (h (fun T M => ∃ h : Sq T M, motive T M h) ⟨.nil, nil⟩ (fun t T M k1 k2 ⟨h, m⟩ => ⟨.atom t T M k1 k2 h, atom t T M k1 k2 h m⟩) (fun o c T M T' M' k1 k2 ⟨h, m⟩ ⟨h', m'⟩ => ⟨.list o c T M T' M' k1 k2 h h', list o c T M T' M' k1 k2 h h' m m'⟩)).2
theorem Sq.cuts {T : List Tok} {M : List N} (h : Sq T M) : (T = [] ∧ M = []) ∨ (∃ t T1 M1, T = t :: T1 ∧ M = X.atom t :: M1 ∧ t.kind ≠ 1 ∧ t.kind ≠ 2 ∧ Sq T1 M1) ∨
    ∃ o c T1 M1 T2 M2, T = o :: (T1 ++ c :: T2) ∧ M = (⟨1, o.beg, c.fin, M1.length + 1, []⟩ : N) :: (M1 ++ M2) ∧ o.kind = 1 ∧ c.kind = 2 ∧ Sq T1 M1 ∧ Sq T2 M2 := by
  induction h using Sq.ind with
  | nil => exact .inl ⟨rfl, rfl⟩
  | atom t T M h1 h2 h _ => exact .inr (.inl ⟨t, T, M, rfl, rfl, h1, h2, h⟩)
  | list o c T M U K h1 h2 h h' _ _ => exact .inr (.inr ⟨o, c, T, M, U, K, rfl, rfl, h1, h2, h, h'⟩)
theorem Sq.append {T T' : List Tok} {M M' : List N} (h : Sq T M) (h' : Sq T' M') : Sq (T ++ T') (M ++ M') := by
  induction h using Sq.ind with
  | nil => exact h'
  | atom t T M h1 h2 _ ih => exact .atom t _ _ h1 h2 ih
  | list o c T M U K h1 h2 h3 _ _ ih =>
    have := Sq.list o c T M _ _ h1 h2 h3 ih
    simpa using this
theorem shut_at (ns M : List N) (o : Tok) (f : Nat) : shutL (ns ++ newL o :: M) ns.length f = ns ++ ⟨1, o.beg, f, M.length + 1, []⟩ :: M := by
  unfold shutL
  have e : (ns ++ newL o :: M).getD ns.length n0 = newL o := by simp
  rw [e, List.set_append_right _ _ (Nat.le_refl _), Nat.sub_self, List.set_cons_zero]
  have : (ns ++ newL o :: M).length - ns.length = M.length + 1 := by simp
  rw [this]
  rfl
theorem Sq.pr {T : List Tok} {M : List N} (h : Sq T M) : ∀ (ns : List N) (st : List Nat), X.pr T ns st = .inl (ns ++ M, st) := by
  induction h using Sq.ind with
  | nil => intro ns st; rw [X.pr, List.append_nil]
  | atom t T M h1 h2 _ ih =>
    intro ns st
    rw [pr_cons, if_neg h1, if_neg h2, ih]
    simp
  | list o c T M U K h1 h2 _ _ ih1 ih2 =>
    intro ns st
    rw [pr_cons, if_pos h1, pr_append, ih1]
    show X.pr (c :: U) (ns ++ [newL o] ++ M) (ns.length :: st) = _
    rw [pr_cons, if_neg (by omega), if_pos h2]
    show X.pr U (shutL (ns ++ [newL o] ++ M) ns.length c.fin) st = _
    rw [show ns ++ [newL o] ++ M = ns ++ newL o :: M from by simp, shut_at, ih2]
    simp
/-- Lists that are still open. -/
def Fr : List Nat → List N → List Tok → Prop
  | [], M, T => Sq T M
  | g :: st, N, U => ∃ ns T o T' M', g = ns.length ∧ N = ns ++ newL o :: M' ∧ U = T ++ o :: T' ∧ Fr st ns T ∧ o.kind = 1 ∧ Sq T' M'
theorem Fr.base (T : List Tok) (M : List N) (h : Sq T M) : Fr [] M T := h
theorem Fr.more (st : List Nat) (ns : List N) (T : List Tok) (o : Tok) (T' : List Tok) (M' : List N) (h : Fr st ns T) (h1 : o.kind = 1) (h2 : Sq T' M') : Fr (ns.length :: st) (ns ++ newL o :: M') (T ++ o :: T') := ⟨ns, T, o, T', M', rfl, rfl, rfl, h, h1, h2⟩
theorem Fr.app {st : List Nat} {ns : List N} {T T' : List Tok} {M' : List N} (h : Fr st ns T) (h' : Sq T' M') : Fr st (ns ++ M') (T ++ T') := by
  cases st with
  | nil => exact Sq.append h h'
  | cons g st =>
    obtain ⟨ns, T, o, T1, M1, rfl, rfl, rfl, h, h1, h2⟩ := h
    have := Fr.more st ns T o _ _ h h1 (h2.append h')
    simpa using this
theorem fr_pr : ∀ (r T : List Tok) (ns : List N) (st : List Nat), Fr st ns T → ∀ f, X.pr r ns st = .inl (f, []) → Sq (T ++ r) f
  | [], T, ns, st, h, f, e => by
    unfold X.pr at e
    cases e
    rw [List.append_nil]
    exact h
  | t :: r, T, ns, st, h, f, e => by
    rw [pr_cons] at e
    by_cases h1 : t.kind = 1
    · rw [if_pos h1] at e
      have := fr_pr r (T ++ [t]) _ _ (Fr.more st ns T t [] [] h h1 .nil) f e
      simpa using this
    · rw [if_neg h1] at e
      by_cases h2 : t.kind = 2
      · rw [if_pos h2] at e
        cases st with
        | nil => cases e
        | cons g st =>
          obtain ⟨ns, T, o, T1, M1, rfl, rfl, rfl, h, h3, h4⟩ := h
          replace e : X.pr r (shutL (ns ++ newL o :: M1) ns.length t.fin) st = .inl (f, []) := e
          rw [shut_at] at e
          have hS : Sq (o :: (T1 ++ [t])) (⟨1, o.beg, t.fin, M1.length + 1, []⟩ :: M1) := by
            have := Sq.list o t T1 M1 [] [] h3 h2 h4 .nil
            simpa using this
          have := fr_pr r (T ++ o :: (T1 ++ [t])) _ _ (h.app hS) f e
          simpa using this
      · rw [if_neg h2] at e
        have := fr_pr r (T ++ [t]) _ _ (h.app (Sq.atom t [] [] h1 h2 .nil)) f e
        simpa using this
theorem sq_of_pr {ts : List Tok} {f : List N} (h : X.pr ts [] [] = .inl (f, [])) : Sq ts f := fr_pr ts [] [] [] (.base _ _ .nil) f h
/-- One expression. -/
def One (x : List Tok) (m : List N) : Prop :=
  (∃ t, x = [t] ∧ m = [X.atom t] ∧ t.kind ≠ 1 ∧ t.kind ≠ 2) ∨ ∃ o c T M, x = o :: (T ++ [c]) ∧ m = (⟨1, o.beg, c.fin, M.length + 1, []⟩ : N) :: M ∧ o.kind = 1 ∧ c.kind = 2 ∧ Sq T M
theorem One.sq {x : List Tok} {m : List N} (h : One x m) : Sq x m := by
  rcases h with ⟨t, rfl, rfl, h1, h2⟩ | ⟨o, c, T, M, rfl, rfl, h1, h2, h3⟩
  · exact .atom t [] [] h1 h2 .nil
  · have := Sq.list o c T M [] [] h1 h2 h3 .nil
    simpa using this
/-- The expression of each node, its tokens and its nodes. -/
theorem Sq.node {ts : List Tok} {f : List N} (h : Sq ts f) : ∀ i, i < f.length → ∃ a x b u m v, ts = a ++ (x ++ b) ∧ f = u ++ (m ++ v) ∧ u.length = i ∧ One x m := by
  induction h using Sq.ind with
  | nil => intro i hi; simp at hi
  | atom t T M h1 h2 h3 ih =>
    intro i hi
    cases i with
    | zero => exact ⟨[], [t], T, [], [X.atom t], M, rfl, rfl, rfl, .inl ⟨t, rfl, rfl, h1, h2⟩⟩
    | succ i =>
      obtain ⟨a, x, b, u, m, v, e1, e2, e3, e4⟩ := ih i (by simpa using hi)
      exact ⟨t :: a, x, b, X.atom t :: u, m, v, by rw [e1]; rfl, by rw [e2]; rfl, by simp [e3], e4⟩
  | list o c T M U K h1 h2 h3 h4 ih1 ih2 =>
    intro i hi
    cases i with
    | zero => exact ⟨[], o :: (T ++ [c]), U, [], _ :: M, K, by simp, by simp, rfl, .inr ⟨o, c, T, M, rfl, rfl, h1, h2, h3⟩⟩
    | succ i =>
      rcases Nat.lt_or_ge i M.length with hc | hc
      · obtain ⟨a, x, b, u, m, v, e1, e2, e3, e4⟩ := ih1 i hc
        exact ⟨o :: a, x, b ++ c :: U, ⟨1, o.beg, c.fin, M.length + 1, []⟩ :: u, m, v ++ K, by rw [e1]; simp, by rw [e2]; simp, by simp [e3], e4⟩
      · obtain ⟨a, x, b, u, m, v, e1, e2, e3, e4⟩ := ih2 (i - M.length) (by simp at hi; omega)
        exact ⟨o :: (T ++ c :: a), x, b, ⟨1, o.beg, c.fin, M.length + 1, []⟩ :: (M ++ u), m, v, by rw [e1]; simp, by rw [e2]; simp, by simp [e3]; omega, e4⟩
/-- Moved tokens make moved nodes. -/
theorem Sq.back {Y : List Tok} {M : List N} (h : Sq Y M) (d : Nat) : ∀ T, Y = T.map (shT d) → ∃ M', Sq T M' ∧ M = M'.map (mvN d) := by
  induction h using Sq.ind with
  | nil =>
    intro T e
    cases T with
    | nil => exact ⟨[], .nil, rfl⟩
    | cons t T => cases e
  | atom t T M h1 h2 _ ih =>
    intro S e
    cases S with
    | nil => cases e
    | cons s S =>
      rw [List.map_cons] at e
      obtain ⟨rfl, e2⟩ := List.cons.inj e
      obtain ⟨M', q1, rfl⟩ := ih S e2
      exact ⟨X.atom s :: M', .atom s S M' h1 h2 q1, rfl⟩
  | list o c T M U K h1 h2 _ _ ih1 ih2 =>
    intro S e
    cases S with
    | nil => cases e
    | cons s S =>
      rw [List.map_cons] at e
      obtain ⟨rfl, e2⟩ := List.cons.inj e
      obtain ⟨T1, R, rfl, e3, e4⟩ := List.map_eq_append_iff.1 e2.symm
      obtain ⟨c1, U1, rfl, e5, e6⟩ := List.map_eq_cons_iff.1 e4
      obtain ⟨M', q1, rfl⟩ := ih1 T1 e3.symm
      obtain ⟨K', q2, rfl⟩ := ih2 U1 e6.symm
      subst e5
      refine ⟨_, .list s c1 T1 M' U1 K' h1 h2 q1 q2, ?_⟩
      simp [mvN, shT]
theorem Sq.len {T : List Tok} {M : List N} (h : Sq T M) : M.length ≤ T.length := by
  induction h using Sq.ind with
  | nil => simp
  | atom t T M _ _ _ ih => simp; omega
  | list o c T M U K _ _ _ _ ih1 ih2 => simp; omega
theorem Sq.nil_of {T : List Tok} (h : Sq T []) : T = [] := by
  have : ∀ M, Sq T M → M = [] → T = [] := by
    intro M h
    induction h using Sq.ind with
    | nil => intro _; rfl
    | atom t T M _ _ _ _ => intro e; cases e
    | list o c T M U K _ _ _ _ _ _ => intro e; cases e
  exact this _ h rfl
end Go.Proofs.YtackibimlpkcmaaDoor.X
namespace Go.Proofs.YtackibimlpkcmaaDoor.S
variable (res : List UInt8 → Bool)
theorem segs_at : ∀ (a : List Tok) (t : Tok) (b : List Tok) (l : List UInt8) (i : Nat), Segs res (a ++ t :: b) l i →
    ∃ n m, 0 < m ∧ n + m ≤ l.length ∧ t.beg = i + n ∧ t.fin = i + n + m ∧ run res .idle (l.drop n) (i + n) = (t :: b, 0, 0) ∧ Segs res b (l.drop (n + m)) (i + n + m)
  | [], t, b, l, i, h => by
    obtain ⟨n, m, h1, h2, h3, h4, h5, h6, h7⟩ := h
    exact ⟨n, m, h1, h2, h3, h4, h6, h7⟩
  | s :: a, t, b, l, i, h => by
    obtain ⟨n, m, h1, h2, h3, h4, h5, h6, h7⟩ := h
    obtain ⟨n', m', g1, g2, g3, g4, g5, g6⟩ := segs_at a t b _ _ h7
    rw [List.length_drop] at g2
    rw [List.drop_drop] at g5 g6
    refine ⟨n + m + n', m', g1, by omega, by omega, by omega, ?_, ?_⟩
    · rw [show i + (n + m + n') = i + n + m + n' from by omega]
      exact g5
    · rw [show i + (n + m + n') + m' = i + n + m + n' + m' from by omega, show n + m + n' + m' = n + m + (n' + m') from by omega]
      exact g6
theorem segs_le : ∀ (ts : List Tok) (l : List UInt8) (i : Nat), Segs res ts l i → ∀ t ∈ ts, i ≤ t.beg
  | [], l, i, h, t, ht => by simp at ht
  | s :: ts, l, i, h, t, ht => by
    obtain ⟨n, m, h1, h2, h3, h4, h5, h6, h7⟩ := h
    rcases List.mem_cons.1 ht with rfl | ht
    · omega
    · have := segs_le ts _ _ h7 t ht
      omega
/-- Where a token stands, and what is read from it on. -/
theorem tok_at {l : List UInt8} {ts a b : List Tok} {t : Tok} (h : run res .idle l 0 = (ts, 0, 0)) (e : ts = a ++ t :: b) :
    t.beg < t.fin ∧ t.fin ≤ l.length ∧ run res .idle (l.drop t.beg) t.beg = (t :: b, 0, 0) ∧ Segs res b (l.drop t.fin) t.fin := by
  have hs := run_segs res l 0 ts h
  rw [e] at hs
  obtain ⟨n, m, h1, h2, h3, h4, h5, h6⟩ := segs_at res a t b l 0 hs
  rw [Nat.zero_add] at h3 h4 h5 h6
  subst h3
  refine ⟨by omega, by omega, h5, ?_⟩
  rw [h4]
  exact h6
/-- Between two tokens there is nothing. -/
theorem tok_gap {l : List UInt8} {ts a b : List Tok} {t s : Tok} (h : run res .idle l 0 = (ts, 0, 0)) (e : ts = a ++ t :: s :: b) :
    t.fin ≤ s.beg ∧ s.beg < s.fin ∧ s.fin ≤ l.length ∧ run res .idle ((l.drop t.fin).take (s.beg - t.fin)) 0 = ([], 0, 0) := by
  obtain ⟨h1, h2, -, n, m, g1, g2, g3, g4, g5, -⟩ := tok_at res h e
  rw [List.length_drop] at g2
  refine ⟨by omega, by omega, by omega, ?_⟩
  rw [show s.beg - t.fin = n from by omega]
  exact g5
theorem tok_le {l : List UInt8} {ts a b c : List Tok} {t s : Tok} (h : run res .idle l 0 = (ts, 0, 0)) (e : ts = a ++ t :: (b ++ s :: c)) : t.fin ≤ s.beg := by
  obtain ⟨-, -, -, h4⟩ := tok_at res h e
  exact segs_le res _ _ _ h4 s (by simp)
theorem pw_split {R : Tok → Tok → Prop} (hR : ∀ x, ¬ R x x) : ∀ (y u b v : List Tok) (z : Tok), (y ++ z :: b).Pairwise R → y ++ z :: b = u ++ z :: v → y = u
  | [], [], b, v, z, _, _ => rfl
  | [], x :: u, b, v, z, h, e => by
    rw [List.nil_append, List.cons_append] at e
    obtain ⟨rfl, rfl⟩ := List.cons.inj e
    rw [List.nil_append] at h
    exact absurd ((List.pairwise_cons.1 h).1 z (by simp)) (hR z)
  | x :: y, [], b, v, z, h, e => by
    rw [List.nil_append, List.cons_append] at e
    obtain ⟨rfl, rfl⟩ := List.cons.inj e
    rw [List.cons_append] at h
    exact absurd ((List.pairwise_cons.1 h).1 x (by simp)) (hR x)
  | x :: y, x' :: u, b, v, z, h, e => by
    rw [List.cons_append, List.cons_append] at e
    obtain ⟨rfl, e'⟩ := List.cons.inj e
    rw [List.cons_append] at h
    rw [pw_split hR y u b v z (List.pairwise_cons.1 h).2 e']
/-- A run of tokens, read alone out of its bytes, is that run. -/
theorem tok_part {l : List UInt8} {ts a x y b : List Tok} {t z : Tok} (h : run res .idle l 0 = (ts, 0, 0)) (e : ts = a ++ (x ++ b)) (e1 : x = t :: y) (e2 : ∃ y', x = y' ++ [z]) :
    t.beg < z.fin ∧ z.fin ≤ l.length ∧ ∃ T', run res .idle ((l.drop t.beg).take (z.fin - t.beg)) 0 = (T', 0, 0) ∧ T'.map (shT t.beg) = x := by
  obtain ⟨y', e2⟩ := e2
  have hz := tok_at res h (a := a ++ y') (t := z) (b := b) (by rw [e, e2]; simp)
  have ht := tok_at res h (a := a) (t := t) (b := y ++ b) (by rw [e, e1]; simp)
  have hle : t.beg ≤ z.beg := by
    cases y' with
    | nil =>
      rw [e1, List.nil_append] at e2
      rw [(List.cons.inj e2).1]
      exact Nat.le_refl _
    | cons s y' =>
      rw [e1, List.cons_append] at e2
      obtain ⟨rfl, e2⟩ := List.cons.inj e2
      have := tok_le res h (a := a) (t := t) (b := y') (s := z) (c := b) (by rw [e, e1, e2]; simp)
      have := ht.1
      omega
  have h5 := ht.2.2.1
  rw [← List.take_append_drop (z.fin - t.beg) (l.drop t.beg)] at h5
  have hl : ((l.drop t.beg).take (z.fin - t.beg)).length = z.fin - t.beg := by
    rw [List.length_take, List.length_drop]
    omega
  obtain ⟨u, v, q1, q2⟩ := run_upto res _ _ .idle t.beg _ z h5 (by
    have : z ∈ x := by rw [e2]; simp
    rw [e1] at this
    rw [← List.cons_append]
    exact List.mem_append_left _ this) (by rw [hl]; omega)
  have hpw := (X.stands_rise res _ _ _ _ _ (run_stands res l 0)).2
  rw [h, e] at hpw
  replace hpw := (List.pairwise_append.1 hpw).2.1
  have hu : y' = u := pw_split (fun x => Nat.lt_irrefl _) y' u b v z (by rw [e2] at hpw; simpa using hpw) (by rw [← q1, ← List.cons_append, ← e1, e2]; simp)
  subst hu
  rw [← e2] at q2
  refine ⟨by omega, by omega, ?_⟩
  have s1 := run_sh res t.beg ((l.drop t.beg).take (z.fin - t.beg)) .idle 0
  rw [Nat.zero_add] at s1
  have s2 : shO t.beg (run res .idle ((l.drop t.beg).take (z.fin - t.beg)) 0) = (x, 0, 0) := by rw [← s1]; exact q2
  have s3 : (run res .idle ((l.drop t.beg).take (z.fin - t.beg)) 0).2.1 = 0 := congrArg (fun o : Out => o.2.1) s2
  have s4 := run_place res _ .idle 0 s3
  exact ⟨_, Prod.ext rfl (Prod.ext s3 s4), congrArg (fun o : Out => o.1) s2⟩
end Go.Proofs.YtackibimlpkcmaaDoor.S
namespace Go.Proofs.YtackibimlpkcmaaDoor.X
open Go.Proofs.YtackibimlpkcmaaDoor.S
variable (res : List UInt8 → Bool)
/-- An expression, read alone out of its bytes, is itself. -/
theorem one_read {l : List UInt8} {ts a x b : List Tok} {m : List N} (h : run res .idle l 0 = (ts, 0, 0)) (e : ts = a ++ (x ++ b)) (ho : One x m) :
    ∃ n M, m = n :: M ∧ n.size = m.length ∧ n.beg < n.fin ∧ n.fin ≤ l.length ∧ ∃ T' m', run res .idle ((l.drop n.beg).take (n.fin - n.beg)) 0 = (T', 0, 0) ∧ X.pr T' [] [] = .inl (m', []) ∧ m = m'.map (mvN n.beg) := by
  have hq := ho.sq
  rcases ho with ⟨t, rfl, rfl, h1, h2⟩ | ⟨o, c, T, M, rfl, rfl, h1, h2, h3⟩
  · obtain ⟨g1, g2, T', g3, g4⟩ := tok_part res (x := [t]) (y := []) (t := t) (z := t) h e rfl ⟨[], rfl⟩
    obtain ⟨m', q1, q2⟩ := hq.back t.beg T' g4.symm
    refine ⟨X.atom t, [], rfl, rfl, g1, g2, T', m', g3, ?_, q2⟩
    rw [q1.pr]
    rfl
  · obtain ⟨g1, g2, T', g3, g4⟩ := tok_part res (x := o :: (T ++ [c])) (y := T ++ [c]) (t := o) (z := c) h e rfl ⟨o :: T, rfl⟩
    obtain ⟨m', q1, q2⟩ := hq.back o.beg T' g4.symm
    refine ⟨_, M, rfl, rfl, g1, g2, T', m', g3, ?_, q2⟩
    rw [q1.pr]
    rfl
/-- Where the looking through a list stands: behind a token that ends at fr, before the nodes Mr at p. -/
def Lp (ts : List Tok) (f : List N) (c : Tok) (fr p : Nat) (Mr : List N) : Prop :=
  ∃ A p0 Tr B U V, ts = A ++ p0 :: (Tr ++ c :: B) ∧ fr = p0.fin ∧ Sq Tr Mr ∧ f = U ++ (Mr ++ V) ∧ U.length = p
theorem Lp.step {l : List UInt8} {ts : List Tok} {f : List N} {c : Tok} {fr p : Nat} {Mr : List N} (h : run res .idle l 0 = (ts, 0, 0)) (q : Lp ts f c fr p Mr) (hM : Mr ≠ []) :
    ∃ n, f.getD p n0 = n ∧ p < f.length ∧ fr ≤ n.beg ∧ n.beg ≤ n.fin ∧ n.fin ≤ c.beg ∧ 1 ≤ n.size ∧ n.size ≤ Mr.length ∧ run res .idle ((l.drop fr).take (n.beg - fr)) 0 = ([], 0, 0) ∧ ∃ Mr', Lp ts f c n.fin (p + n.size) Mr' ∧ Mr'.length + n.size = Mr.length := by
  obtain ⟨A, p0, Tr, B, U, V, e1, rfl, e3, e4, e5⟩ := q
  have hp : p < f.length := by
    rw [e4, ← e5]
    cases Mr with
    | nil => exact absurd rfl hM
    | cons x y => simp
  have hat : ∀ x r, Mr = x :: r → f.getD p n0 = x := by
    intro x r hx
    rw [e4, ← e5, hx]
    simp
  rcases e3.cuts with ⟨rfl, rfl⟩ | ⟨t, T, M, rfl, rfl, h1, h2, h3⟩ | ⟨o, c', T, M, T', M', rfl, rfl, h1, h2, h3, h4⟩
  · exact absurd rfl hM
  · have g := tok_gap res h (a := A) (t := p0) (s := t) (b := T ++ c :: B) e1
    have g2 := tok_le res h (a := A ++ [p0]) (t := t) (b := T) (s := c) (c := B) (by rw [e1]; simp)
    refine ⟨X.atom t, hat _ _ rfl, hp, g.1, Nat.le_of_lt g.2.1, g2, Nat.le_refl _, by simp [X.atom], g.2.2.2, M, ⟨A ++ [p0], t, T, B, U ++ [X.atom t], V, by rw [e1]; simp, rfl, h3, by rw [e4]; simp, by simp [e5, X.atom]⟩, rfl⟩
  · have g := tok_gap res h (a := A) (t := p0) (s := o) (b := T ++ c' :: (T' ++ c :: B)) (by rw [e1]; simp)
    have g2 := tok_le res h (a := A ++ p0 :: o :: T) (t := c') (b := T') (s := c) (c := B) (by rw [e1]; simp)
    have g3 := tok_le res h (a := A ++ [p0]) (t := o) (b := T) (s := c') (c := T' ++ c :: B) (by rw [e1]; simp)
    have g4 := (tok_at res h (a := A ++ p0 :: o :: T) (t := c') (b := T' ++ c :: B) (by rw [e1]; simp)).1
    have g5 := g.2.1
    refine ⟨_, hat _ _ rfl, hp, g.1, by show o.beg ≤ c'.fin; omega, g2, by show 1 ≤ M.length + 1; omega, by show M.length + 1 ≤ _; simp, g.2.2.2, M', ⟨A ++ p0 :: o :: T, c', T', B, U ++ (⟨1, o.beg, c'.fin, M.length + 1, []⟩ :: M), V, by rw [e1]; simp, rfl, h4, by rw [e4]; simp, by simp [e5]⟩, ?_⟩
    show M'.length + (M.length + 1) = _
    simp
    omega
theorem Lp.last {l : List UInt8} {ts : List Tok} {f : List N} {c : Tok} {fr p : Nat} (h : run res .idle l 0 = (ts, 0, 0)) (q : Lp ts f c fr p []) :
    fr ≤ c.beg ∧ run res .idle ((l.drop fr).take (c.beg - fr)) 0 = ([], 0, 0) := by
  obtain ⟨A, p0, Tr, B, U, V, e1, rfl, e3, e4, e5⟩ := q
  obtain rfl := e3.nil_of
  have g := tok_gap res h (a := A) (t := p0) (s := c) (b := B) e1
  exact ⟨g.1, g.2.2.2⟩
end Go.Proofs.YtackibimlpkcmaaDoor.X
/- ==== NodeBase ==== -/
namespace Go.Proofs.YtackibimlpkcmaaDoor
open Go.RowKit
set_option linter.unusedVariables false
/-- A node: its kind, place, end, size and text. -/
structure Nd where
  kind : Int
  pos : Int
  fin : Int
  size : Int
  text : ByteArray
def Nd.cells (x : Nd) : List Value := [.int .i64 x.kind, .int .i64 x.pos, .int .i64 x.fin, .int .i64 x.size, .string x.text]
def Nd.z : Nd := ⟨0, 0, 0, 0, ByteArray.empty⟩
/-- May the node stand at i, in a list that ends at hi? -/
def Nd.ok (x : Nd) (i hi : Int) : Prop :=
  (x.kind = 1 ∧ x.text.toList = [] ∧ 1 ≤ x.size ∧ x.size ≤ hi - i) ∨ (x.kind ≠ 1 ∧ 3 ≤ x.kind ∧ x.kind ≤ 10 ∧ x.size = 1)
/-- The slice value v holds the nodes ns, in a block below B. -/
def Nds (B : Nat) (w : World) (v : Value) (ns : List Nd) : Prop :=
  ∃ a cap, v = .slice a ns.length cap ∧ ns.length ≤ cap ∧ (cap ≤ 9223372036854775807 ∧ ns.length ≤ 2932031007402) ∧ (a = none → ns = []) ∧
    (ns ≠ [] → ∃ b off, a = some ⟨b, off, none⟩ ∧ b < B ∧ ∀ j, j < ns.length →
      w.cell? ⟨b, off + j * 5, none⟩ = some (.int .i64 (ns.getD j Nd.z).kind) ∧
      w.cell? ⟨b, off + j * 5 + 1, none⟩ = some (.int .i64 (ns.getD j Nd.z).pos) ∧
      w.cell? ⟨b, off + j * 5 + 2, none⟩ = some (.int .i64 (ns.getD j Nd.z).fin) ∧
      w.cell? ⟨b, off + j * 5 + 3, none⟩ = some (.int .i64 (ns.getD j Nd.z).size) ∧
      w.cell? ⟨b, off + j * 5 + 4, none⟩ = some (.string (ns.getD j Nd.z).text))
theorem Nds.below {B : Nat} {w w' : World} {v : Value} {ns : List Nd} (h : Nds B w v ns) (b : Below B w w') : Nds B w' v ns := by
  obtain ⟨a, cap, rfl, h1, h2, h3, h4⟩ := h
  refine ⟨a, cap, rfl, h1, h2, h3, fun hne => ?_⟩
  obtain ⟨g, off, rfl, hg, hc⟩ := h4 hne
  refine ⟨g, off, rfl, hg, fun j hj => ?_⟩
  obtain ⟨c0, c1, c2, c3, c4⟩ := hc j hj
  exact ⟨(b.cell (p := ⟨g, _, none⟩) hg).trans c0, (b.cell (p := ⟨g, _, none⟩) hg).trans c1, (b.cell (p := ⟨g, _, none⟩) hg).trans c2, (b.cell (p := ⟨g, _, none⟩) hg).trans c3, (b.cell (p := ⟨g, _, none⟩) hg).trans c4⟩
theorem Nds.mono {B B' : Nat} {w : World} {v : Value} {ns : List Nd} (h : Nds B w v ns) (hB : B ≤ B') : Nds B' w v ns := by
  obtain ⟨a, cap, rfl, h1, h2, h3, h4⟩ := h
  refine ⟨a, cap, rfl, h1, h2, h3, fun hne => ?_⟩
  obtain ⟨g, off, rfl, hg, hc⟩ := h4 hne
  exact ⟨g, off, rfl, by omega, hc⟩
end Go.Proofs.YtackibimlpkcmaaDoor
