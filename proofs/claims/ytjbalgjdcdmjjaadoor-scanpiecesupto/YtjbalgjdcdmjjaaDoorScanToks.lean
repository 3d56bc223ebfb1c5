/-
  The tokens of a text: scan.Tokens is the plain machine's run.
-/
import Derived.Test.YtjbalgjdcdmjjaaDoorScanTokens
namespace Go.Proofs.YtjbalgjdcdmjjaaDoor
open Go.RowKit
set_option linter.unusedVariables false
theorem tks_one (ts : List S.Tok) : ∀ u ∈ tksCells ts, u.oneCell' = true := by
  induction ts with
  | nil => intro u hu; simp [tksCells] at hu
  | cons t r ih =>
    intro u hu
    simp only [tksCells, List.mem_append] at hu
    rcases hu with hu | hu
    · simp only [tkCells, str, List.mem_cons, List.not_mem_nil, or_false] at hu
      rcases hu with rfl | rfl | rfl | rfl <;> rfl
    · exact ih u hu
/-- append of a row to a row of one's own. -/
theorem wpList_append_row {P : Program} {w : World} {ops : Array Oper} {rest : List Oper} {o : Oper} {a : Act} {Q : Exit → Act → World → Prop} (hgd : o.guard = none) (s x : Operand) (t : TypeId)
    (ho : o.op = .call { callee := .builtin .append, args := #[s, x], argTypes := #[t, t] })
    (e : TypeId) (i : TypeInfo) (z : Value) (size bytes : Nat) (ht : P.underlying t = some (.slice e)) (hi : P.info? e = some i) (hz : i.zero = some z)
    (hsize : i.size = size) (hby : i.bytes = bytes) (hzs : z.cells.size = size) (hsz : 0 < size)
    (v u : Value) (n m : Nat) (xs ys : List Value) (hs : a.eval s = v) (hown : w.ownsRow 0 e size v n xs) (hx : a.eval x = u) (hown2 : w.ownsRow 0 e size u m ys) (h1 : ∀ y ∈ ys, y.oneCell' = true)
    (h63 : n + m ≤ maxLen) (hbytes : (n + m) * bytes ≤ 140737488355328)
    (h : ∀ v' w', w'.ownsRow 0 e size v' (n + m) (xs ++ ys) → w.grownBy w' v.ownBlock → (v'.ownBlock = v.ownBlock ∨ v'.ownBlock = some w.heap.size) → wpList P ops Q rest (a.put o.dst v') w') : wpList P ops Q (o :: rest) a w := by
  rcases hown2.2 with ⟨rfl, rfl⟩ | ⟨b, cap, cur, rfl, hb0, hb, h3⟩
  · have hy : ys = [] := List.eq_nil_of_length_eq_zero (by simpa using hown2.1)
    subst hy
    have hr : (Builtin.append_ #[t, t] o.type #[v, .slice none 0 0]).run P w = .ok v w := by
      rcases hown.2 with ⟨rfl, rfl⟩ | ⟨b, cap, cur, rfl, hb0, hb, h3, h4⟩
      · simp [Builtin.append_, run_underlying ht, sizeOf, typeInfo, hi, Builtin.lenOf, Builtin.firstCells]
      · simp [Builtin.append_, run_underlying ht, sizeOf, typeInfo, hi, Builtin.lenOf, Builtin.firstCells, storeCells, h3]
    have hk := h v w (by simpa using hown) ⟨rfl, rfl, rfl, Nat.le_refl _, fun _ _ _ => rfl⟩ (.inl rfl)
    refine wpList_plain hgd fun K hK => ?_
    unfold Oper.wp execOp
    simp only [ho, resolve, invoke, builtin, Sem.run_bind, Sem.run_pure, Result.andThen_ok, List.map_toArray, List.map_cons, List.map_nil, hs, hx, hr]
    exact hK _ _ hk
  · exact wpList_append_mine hgd s x t ho 0 e i z size bytes ht hi hz hsize hby hzs hsz v n xs hs hown ⟨b, 0, none⟩ m cap ys hx hown2.1 (hown2.cells (g := b) rfl) h1 h63 hbytes (Nat.zero_le _) h
theorem ownsRow_base {w : World} {B : Nat} {e : TypeId} {size : Nat} {v : Value} {n : Nat} {xs : List Value} (h : w.ownsRow 0 e size v n xs) (hB : ∀ k, v.ownBlock = some k → B ≤ k) : w.ownsRow B e size v n xs := by
  obtain ⟨h1, h2⟩ := h
  refine ⟨h1, ?_⟩
  rcases h2 with h2 | ⟨b, cap, cur, rfl, h3, h4⟩
  · exact .inl h2
  · exact .inr ⟨b, cap, cur, rfl, hB b rfl, h4⟩
theorem ownsRow_zero {w : World} {B : Nat} {e : TypeId} {size : Nat} {v : Value} {n : Nat} {xs : List Value} (h : w.ownsRow B e size v n xs) : w.ownsRow 0 e size v n xs := by
  obtain ⟨h1, h2⟩ := h
  refine ⟨h1, ?_⟩
  rcases h2 with h2 | ⟨b, cap, cur, rfl, h3, h4⟩
  · exact .inl h2
  · exact .inr ⟨b, cap, cur, rfl, Nat.zero_le _, h4⟩
theorem Kp.below {w w' : World} (h : Kp (fun k => k < w.heap.size) w w') : Below w.heap.size w w' := ⟨h.os, h.tape, h.output, h.size, fun k hk => h.block k hk hk⟩
/-- How many tokens a piece, a text tell. -/
theorem feed_few : ∀ (l : List UInt8) (q : S.St) (i : Nat), (S.feed resv q l i).1.length ≤ 2 * l.length
  | [], q, i => by simp [S.feed]
  | b :: t, q, i => by
    have hf := few_step q b i
    rcases hs : S.step resv q b i with ⟨ts, q'⟩ | ⟨ts, e, p⟩
    · rw [S.feed_go resv hs]
      rw [hs] at hf
      have h1 : ts.length ≤ 2 := hf
      have h2 := feed_few t q' (i + 1)
      simp only [List.length_append, List.length_cons]
      omega
    · rw [S.feed_err resv hs]
      rw [hs] at hf
      have h1 : ts.length ≤ 2 := hf
      simp only [List.length_cons]
      omega
theorem feed_good : ∀ (l : List UInt8) (q : S.St) (i e p : Nat), (S.feed resv q l i).2 = .inr (e, p) → e ≠ 0
  | [], q, i, e, p, h => by simp [S.feed] at h
  | b :: t, q, i, e, p, h => by
    have hg := S.step_good resv q b i
    rcases hs : S.step resv q b i with ⟨ts, q'⟩ | ⟨ts, e', p'⟩
    · rw [S.feed_go resv hs] at h
      exact feed_good t q' (i + 1) e p h
    · rw [S.feed_err resv hs] at h
      rw [hs] at hg
      simp only [Sum.inr.injEq, Prod.mk.injEq] at h
      rw [← h.1]
      exact hg
theorem stop_few (q : S.St) (i : Nat) : (S.stop resv q i).1.length ≤ 1 := by
  rcases q with ⟨⟩ | ⟨k, bg, a⟩ | bg | ⟨bg, a⟩ | ⟨bg, a⟩ | bg | ⟨k, m, bg, a⟩ | ⟨k, m, bg, a⟩ | ⟨bg, a⟩ | (⟨⟩ | ⟨bg, a⟩ | ⟨bg, a⟩) | ⟨q, s, n, lo, hi'⟩ <;> simp [S.stop]
/-- What a list of tokens has in memory behind a call that keeps other blocks. -/
theorem ownsRow_kp {F : Nat → Prop} {w w' : World} {e : TypeId} {size : Nat} {v : Value} {n : Nat} {xs : List Value} (h : w.ownsRow 0 e size v n xs) (k : Kp F w w') (hF : ∀ b, v.ownBlock = some b → F b) : w'.ownsRow 0 e size v n xs :=
  ownsRow_same h fun b hb => k.block b (h.lt b hb).2 (hF b hb)
/-- Foreign blocks, and one more. -/
theorem SS.more {F : Nat → Prop} {w : World} {g : Nat} {c : Sc} {acc : List UInt8} {ts : List S.Tok} {tv ov : Value} (h : SS F w g c acc ts tv ov) (b : Nat) (cur : Array Value) (hb : w.heap[b]? = some (.cells cur 66 (0, 0))) (ho : ov.ownBlock ≠ some b) : SS (fun k => F k ∨ k = b) w g c acc ts tv ov := by
  refine ⟨h.blk, ?_, h.text, ?_, h.told, ?_, h.cls, .inl h.cF, ?_⟩
  · rintro (hF | rfl)
    · exact h.mine hF
    · have := h.blk.symm.trans hb
      simp at this
  · rintro k hk (hF | rfl)
    · exact h.tmine k hk hF
    · rcases h.text.2 with ⟨rfl, _⟩ | ⟨b2, cap, cur2, rfl, _, hb2, _⟩
      · simp [Value.ownBlock] at hk
      · simp [Value.ownBlock] at hk
        subst hk
        have := hb2.symm.trans hb
        simp at this
  · rintro k hk (hF | rfl)
    · exact h.omine k hk hF
    · exact ho hk
  · rintro k (hF | rfl)
    · exact h.Flt k hF
    · exact (Array.getElem?_eq_some_iff.1 hb).1
/-- A list that was told stays while the scanner goes on. -/
theorem SS.told_apart {F : Nat → Prop} {w : World} {g : Nat} {c : Sc} {acc : List UInt8} {tv : Value} (h : SS F w g c acc [] tv (.slice none 0 0)) {v : Value} {n : Nat} {xs : List Value} (ho : w.ownsRow 0 66 4 v n xs) : ∃ F' : Nat → Prop, SS F' w g c acc [] tv (.slice none 0 0) ∧ (∀ k, F k → F' k) ∧ ∀ k, v.ownBlock = some k → F' k := by
  rcases ho.2 with ⟨rfl, _⟩ | ⟨b, cap, cur, rfl, _, hb, _⟩
  · exact ⟨F, h, fun _ h => h, fun k e => by simp [Value.ownBlock] at e⟩
  · exact ⟨_, h.more b cur hb (by simp [Value.ownBlock]), fun _ h => .inl h, fun k e => by simp [Value.ownBlock] at e; exact .inr e.symm⟩
theorem Kp.weak {F F' : Nat → Prop} {w w' : World} (h : Kp F' w w') (hF : ∀ k, F k → F' k) : Kp F w w' := ⟨h.os, h.tape, h.output, h.size, fun k hk e => h.block k hk (hF k e)⟩
/-- The tokens of a text, in memory that is new. -/
def Toks (w w' : World) (v : Value) (o : S.Out) : Prop := w'.ownsRow w.heap.size 66 4 v o.1.length (tksCells o.1) ∧ Below w.heap.size w w'
theorem toks_of {w w1 w2 w3 : World} {F' : Nat → Prop} {v1 v3 : Value} {T1 T2 : List S.Tok} {o : S.Out} (k1 : Kp (fun k => k < w.heap.size) w w1) (m1 : ∀ k, v1.ownBlock = some k → ¬ k < w.heap.size) (k2 : Kp F' w1 w2) (hF : ∀ k, k < w.heap.size → F' k)
    (o3 : w3.ownsRow 0 66 4 v3 (T1.length + T2.length) (tksCells T1 ++ tksCells T2)) (g3 : w2.grownBy w3 v1.ownBlock) (m3 : v3.ownBlock = v1.ownBlock ∨ v3.ownBlock = some w2.heap.size) (ho : o.1 = T1 ++ T2) : Toks w w3 v3 o := by
  have k12 := k1.trans (k2.weak hF)
  refine ⟨?_, Kp.below (k12.grown g3 m1)⟩
  rw [ho, List.length_append, tksCells_append]
  refine ownsRow_base o3 fun k hk => ?_
  rcases m3 with m3 | m3
  · have := m1 k (m3.symm.trans hk)
    omega
  · have e : w2.heap.size = k := Option.some.inj (m3.symm.trans hk)
    have := k12.size
    omega
set_option maxRecDepth 100000 in
set_option maxHeartbeats 1600000 in
theorem tokens_calls (w : World) (hc : Cls w) (s : ByteArray) (l : List UInt8) (hsl : s.data.toList = l) (hl : l.length ≤ 34359738368) :
    Calls Tryd.prog 38 #[.string s] w fun e w' => ∃ v, e = .returned (.tuple #[v, .int .i64 (S.run resv .idle l 0).2.1, .int .i64 (S.run resv .idle l 0).2.2]) ∧ Toks w w' v (S.run resv .idle l 0) := by
  obtain ⟨i0, hi, hz0, hz1, hz2⟩ := info_parts infoTok
  have q0 := hide (new_calls (F := fun k => k < w.heap.size) hc (fun _ h => h) hc.lt)
  have hr := S.run_append resv [] l .idle 0
  rw [List.append_nil, Nat.zero_add] at hr
  have f1 := feed_few l .idle 0
  rcases hfd : (S.feed resv .idle l 0).2 with q' | ⟨e, p⟩
  · rw [hfd] at hr
    have e1 : (S.run resv .idle l 0) = ((S.feed resv .idle l 0).1 ++ (S.stop resv q' l.length).1, (S.stop resv q' l.length).2.1, (S.stop resv q' l.length).2.2) := hr
    have f2 := stop_few q' l.length
    obtain ⟨o, ho⟩ : ∃ o, S.run resv .idle l 0 = o := ⟨_, rfl⟩
    rw [ho] at e1 ⊢
    obtain ⟨T1, hT1⟩ : ∃ T1, (S.feed resv .idle l 0).1 = T1 := ⟨_, rfl⟩
    rw [hT1] at e1 f1
    obtain ⟨L1, hL1⟩ : ∃ L1, T1.length = L1 := ⟨_, rfl⟩
    obtain ⟨T2, hT2⟩ : ∃ T2, (S.stop resv q' l.length).1 = T2 := ⟨_, rfl⟩
    rw [hT2] at e1 f2
    obtain ⟨L2, hL2⟩ : ∃ L2, T2.length = L2 := ⟨_, rfl⟩
    rw [hL1] at f1
    rw [hL2] at f2
    have E1 := hide e1
    have E2 : (S.stop resv q' l.length).2.1 = o.2.1 := by rw [e1]
    have E3 : (S.stop resv q' l.length).2.2 = o.2.2 := by rw [e1]
    replace E2 := hide E2
    replace E3 := hide E3
    clear hr ho e1
    go_enter Tryd.func38, Tryd.ntmps38
    go_wp2_with (first
      | (go_at_call 6; refine q0.out.mono ?_; rintro e w1 ⟨g, c, tv, ov, rfl, h1, a1, s1, k1, -⟩; have q1 := hide (feed_calls h1 s1 (by simp) (by simp) .idle a1 s l hsl (by omega)); rw [hT1, List.nil_append, hL1, Nat.zero_add, hfd] at q1; replace k1 := hide k1; clear h1 a1 s1)
      | (go_at_call 7; refine q1.out.mono ?_; rintro e w2 ⟨v1, rfl, o1, m1, c2, acc2, tv2, h2, a2, s2, l2, k2⟩; obtain ⟨F', h2', hF1, hF2⟩ := h2.told_apart o1; have q2 := hide (end_ok h2' s2 (by omega) (by simp) q' a2); rw [List.nil_append, hT2, hL2, E2.out, E3.out] at q2; replace o1 := hide o1; replace m1 := hide m1; replace hF1 := hide hF1; replace hF2 := hide hF2; replace k2 := hide k2; clear h2 h2' a2 s2)
      | (go_at_call 30; refine q2.out.mono ?_; rintro e w3 ⟨v2, rfl, o2, m2, c3, acc3, tv3, h3, -, k3⟩; have o1' := hide (ownsRow_kp o1.out k3 hF2.out); replace o2 := hide o2; replace k3 := hide k3; clear m2 h3)
      | (at_builtin; (refine wpList_append_row rfl _ _ 26 rfl 66 i0 (.agg #[.int .i64 0, .int .i64 0, .int .i64 0, .string ⟨#[]⟩]) 4 40 sliceTok hi hz0 hz1 hz2 rfl (by decide) v1 v2 L1 L2 (tksCells T1) (tksCells T2) rfl o1'.out rfl o2.out (tks_one T2) (by unfold maxLen; omega) (by omega) ?_; intro v' w4 o4 g4 m4; replace o4 := hide o4; replace g4 := hide g4; replace m4 := hide m4)))
    refine bodyPost_ret (v := .tuple #[v', .int .i64 o.2.1, .int .i64 o.2.2]) (by simp [results, Tryd.results38, go_sem]) rfl ?_
    exact ⟨_, rfl, toks_of (k1.out.trans k2.out) m1.out k3.out hF1.out (T1 := T1) (T2 := T2) (by rw [hL1, hL2]; exact o4.out) g4.out m4.out (by rw [E1.out])⟩
  · rw [hfd] at hr
    have e1 : (S.run resv .idle l 0) = ((S.feed resv .idle l 0).1, e, p) := hr
    have e0 := feed_good l .idle 0 e p hfd
    obtain ⟨o, ho⟩ : ∃ o, S.run resv .idle l 0 = o := ⟨_, rfl⟩
    rw [ho] at e1 ⊢
    obtain ⟨T1, hT1⟩ : ∃ T1, (S.feed resv .idle l 0).1 = T1 := ⟨_, rfl⟩
    rw [hT1] at e1 f1
    obtain ⟨L1, hL1⟩ : ∃ L1, T1.length = L1 := ⟨_, rfl⟩
    rw [hL1] at f1
    subst e1
    clear hr ho
    go_enter Tryd.func38, Tryd.ntmps38
    go_wp2_with (first
      | (go_at_call 6; refine q0.out.mono ?_; rintro e w1 ⟨g, c, tv, ov, rfl, h1, a1, s1, k1, -⟩; have q1 := hide (feed_calls h1 s1 (by simp) (by simp) .idle a1 s l hsl (by omega)); rw [hT1, List.nil_append, hL1, Nat.zero_add, hfd] at q1; replace k1 := hide k1; clear h1 a1 s1)
      | (go_at_call 7; refine q1.out.mono ?_; rintro e w2 ⟨v1, rfl, o1, m1, c2, acc2, tv2, h2, ⟨hf2, hp2, he2⟩, k2⟩; obtain ⟨F', h2', hF1, hF2⟩ := h2.told_apart o1; have q2 := hide (end_err h2' _ _ (.inr e0) hf2 hp2); replace o1 := hide o1; replace m1 := hide m1; replace hF1 := hide hF1; replace hF2 := hide hF2; replace k2 := hide k2; clear h2 h2')
      | (go_at_call 30; refine q2.out.mono ?_; rintro e w3 ⟨rfl, o2, m2, c3, acc3, tv3, h3, -, k3⟩; have o1' := hide (ownsRow_kp o1.out k3 hF2.out); replace o2 := hide o2; replace k3 := hide k3; clear m2 h3)
      | (at_builtin; (refine wpList_append_row rfl _ _ 26 rfl 66 i0 (.agg #[.int .i64 0, .int .i64 0, .int .i64 0, .string ⟨#[]⟩]) 4 40 sliceTok hi hz0 hz1 hz2 rfl (by decide) v1 (.slice none 0 0) L1 0 (tksCells T1) (tksCells []) rfl o1'.out rfl o2.out (tks_one []) (by unfold maxLen; omega) (by omega) ?_; intro v' w4 o4 g4 m4; replace o4 := hide o4; replace g4 := hide g4; replace m4 := hide m4)))
    refine bodyPost_ret (v := .tuple #[v', .int .i64 e, .int .i64 p]) (by simp [results, Tryd.results38, go_sem]) rfl ?_
    exact ⟨_, rfl, toks_of (k1.out.trans k2.out) m1.out k3.out hF1.out (T1 := T1) (T2 := []) (by rw [hL1]; exact o4.out) g4.out m4.out (by simp)⟩
end Go.Proofs.YtjbalgjdcdmjjaaDoor
