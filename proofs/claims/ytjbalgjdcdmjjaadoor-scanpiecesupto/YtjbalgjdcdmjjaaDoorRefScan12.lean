/-
  The document's side of scan: the tokens of a text.
-/
import Derived.Test.YtjbalgjdcdmjjaaDoorRefScan11
namespace Go.Proofs.YtjbalgjdcdmjjaaDoor
open Go.RowKit
set_option linter.unusedVariables false
/-- What comes next in a text, by the document. -/
theorem next_tok (l : List UInt8) (i : Nat) (hi : i ≤ l.length) :
    (∃ e p, S.dSkip (l.drop i) i = .inr (e, p) ∧ e ≠ 0 ∧ S.run resv .idle (l.drop i) i = ([], e, p)) ∨
    (∃ k, S.dSkip (l.drop i) i = .inl ([], k) ∧ k = l.length ∧ S.run resv .idle (l.drop i) i = ([], 0, 0)) ∨
    (∃ b t k, S.dSkip (l.drop i) i = .inl (b :: t, k) ∧ i ≤ k ∧ k < l.length ∧ l.drop k = b :: t ∧
      ((∃ e p, S.dOne resv b t k = .inr (e, p) ∧ e ≠ 0 ∧ S.run resv .idle (l.drop i) i = ([], e, p)) ∨
       (∃ tk r, S.dOne resv b t k = .inl (tk, r) ∧ k < tk.fin ∧ tk.fin ≤ l.length ∧ S.run resv .idle (l.drop i) i = (tk :: (S.run resv .idle (l.drop tk.fin) tk.fin).1, (S.run resv .idle (l.drop tk.fin) tk.fin).2)))) := by
  rw [S.run_doc]
  rcases hs : S.dSkip (l.drop i) i with ⟨r, k⟩ | ⟨e, p⟩
  · obtain ⟨n, e1, e2, e3, e4⟩ := S.dSkip_gap (l.drop i) i r k hs
    rw [List.length_drop] at e1
    rw [List.drop_drop] at e3
    cases r with
    | nil =>
      have h0 := congrArg List.length e3
      simp at h0
      exact .inr (.inl ⟨k, rfl, by omega, rfl⟩)
    | cons b t =>
      have h0 := congrArg List.length e3
      simp at h0
      rw [← e2] at e3
      refine .inr (.inr ⟨b, t, k, rfl, by omega, by omega, e3.symm, ?_⟩)
      rcases ho : S.dOne resv b t k with ⟨tk, r'⟩ | ⟨e, p⟩
      · obtain ⟨c1, m, c2, c3, c4, c5⟩ := S.dOne_cut resv b t k tk r' ho
        have d1 : l.drop tk.fin = r' := by
          rw [c3, Nat.add_assoc, ← List.drop_drop, ← e3, Nat.add_comm 1 m, List.drop_succ_cons, c4]
        refine .inr ⟨tk, r', rfl, by omega, by omega, ?_⟩
        rw [d1]
        show S.DR.out resv (S.dOne resv b t k) = _
        rw [ho]
        rfl
      · exact .inl ⟨e, p, rfl, (S.dOne_err resv b t k e p ho).1, by show S.DR.out resv (S.dOne resv b t k) = _; rw [ho]; rfl⟩
  · exact .inl ⟨e, p, rfl, (S.dSkip_err _ i e p hs).1, rfl⟩
/-- What is read so far: acc, up to i. -/
def TokAt (l : List UInt8) (i : Nat) (acc : List S.Tok) : Prop := S.run resv .idle l 0 = (acc ++ (S.run resv .idle (l.drop i) i).1, (S.run resv .idle (l.drop i) i).2) ∧ acc.length ≤ i
def OwnT (B : Nat) (w : World) (v : Value) (acc : List S.Tok) : Prop := w.ownsRow B 66 4 v acc.length (tksCells acc)
theorem ownsRow_kept {B : Nat} {w w1 : World} {e : TypeId} {size : Nat} {v : Value} {n : Nat} {xs : List Value} (h : w.ownsRow B e size v n xs) (q : Below w.heap.size w w1) : w1.ownsRow B e size v n xs := by
  obtain ⟨h1, h2⟩ := h
  refine ⟨h1, ?_⟩
  rcases h2 with h2 | ⟨b, cap, cur, rfl, h3, hb, h4⟩
  · exact .inl h2
  · exact .inr ⟨b, cap, cur, rfl, h3, (q.block b (Array.getElem?_eq_some_iff.1 hb).1).trans hb, h4⟩
theorem four_new (w : World) (a b c d : Value) (T : TypeId) : ∀ j u, ([a, b, c, d] : List Value)[j]? = some u → (w.alloc (.cells #[a, b, c, d] T)).cell? ((⟨w.heap.size, 0, none⟩ : Addr).add j) = some u := by
  intro j u hu
  rw [add_zero', cell_of_row _ _ j _ _ (0, 0) (heap_alloc_new w (.cells #[a, b, c, d] T))]
  simpa using hu
theorem four_new' (w : World) (o : Obj) (a b c d : Value) : ∀ j u, ([a, b, c, d] : List Value)[j]? = some u → ((w.alloc o).alloc (.cells #[a, b, c, d] 66)).cell? ((⟨w.heap.size + 1, 0, none⟩ : Addr).add j) = some u := by
  have h := four_new (w.alloc o) a b c d 66
  simpa using h
theorem grown_keep {B : Nat} {W W1 : World} {e : TypeId} {size : Nat} {v : Value} {n : Nat} {xs : List Value} (o : W.ownsRow B e size v n xs) (a b c d : Value) (T : TypeId) (o2 : Obj) (g : ((W.alloc (.cells #[a, b, c, d] T)).alloc o2).grownBy W1 v.ownBlock) : W1.cell? ⟨W.heap.size, 2, none⟩ = some c := by
  have h1 : W1.heap[W.heap.size]? = some (.cells #[a, b, c, d] T) := by
    refine (g.block W.heap.size (by simp; omega) (fun h => ?_)).trans ?_
    · have := (o.lt _ h.symm).2
      omega
    · rw [heap_alloc_old _ _ (by simp)]
      exact heap_alloc_new W _
  rw [cell_of_row _ _ 2 _ _ (0, 0) h1]
  rfl
set_option maxRecDepth 100000 in
set_option maxHeartbeats 600000 in
theorem rtokens_calls (w : World) (hr : Rsv w) (s : ByteArray) (l : List UInt8) (hs : s.data.toList = l) (hl : l.length ≤ 1073741824) :
    Calls Tryd.prog 5 #[.string s] w fun e w' => ∃ v, e = .returned (.tuple #[v, .int .i64 (S.run resv .idle l 0).2.1, .int .i64 (S.run resv .idle l 0).2.2]) ∧ Toks w w' v (S.run resv .idle l 0) := by
  obtain ⟨i0, hi1, hz0, hz1, hz2⟩ := info_parts infoTok
  have hn := size_of s l hs
  have hz : s.size ≤ 1073741824 := by omega
  have qs := hide (fun W i (hi : i ≤ l.length) => skip_calls W s l hs hl i hi)
  have qo := hide (fun W (hr : Rsv W) i b t hd => one_calls W hr s l hs hl i b t hd)
  have H0 : Hid (TokAt l 0 []) := ⟨by simp, Nat.le_refl _⟩
  obtain ⟨O, hO⟩ : ∃ O, S.run resv .idle l 0 = O := ⟨_, rfl⟩
  have hOh := hide hO
  rw [hO]
  have hrh := hide hr
  have B0 : Hid (Below w.heap.size w w) := Below.refl _ w
  have O0 : Hid (OwnT w.heap.size w (.slice none 0 0) []) := World.ownsRow_nil _ _ _ _
  replace hn := hide hn
  clear hs hl hO hr
  go_enter Tryd.func5, Tryd.ntmps5
  go_wp2
  go_loopw [5, 6] (fun v j wr => ∃ (i : Nat) (acc : List S.Tok), i ≤ s.size ∧ j = .int .i64 i ∧ Hid (TokAt l i acc) ∧ Hid (OwnT w.heap.size wr v acc) ∧ Hid (Below w.heap.size w wr)) (fun _ j _ => s.size - (intOf j).toNat)
  case atStart => exact ⟨0, [], Nat.zero_le _, rfl, H0, O0, B0⟩
  case round =>
    clear H0 O0 B0
    obtain ⟨i, acc, hi, rfl, hT, hA, hB⟩ := hrel
    have hil : i ≤ l.length := by rw [← hn.out]; exact hi
    have hwz : w.heap.size ≤ wr.heap.size := hB.out.size
    obtain ⟨va, vc, hv⟩ := own_shape (ownsRow_zero hA.out)
    subst hv
    obtain ⟨L, hL⟩ : ∃ L, acc.length = L := ⟨_, rfl⟩
    have hLb : L ≤ i := by rw [← hL]; exact hT.out.2
    have hA2 := hA.out
    unfold OwnT at hA2
    rw [hL] at hA2 hA ⊢
    replace hA2 := hide hA2
    have hLh := hide hL
    clear hL
    have q := hide (qs.out wr i hil)
    rcases next_tok l i hil with ⟨e, p, h1, h2, h3⟩ | ⟨k, h1, h2, h3⟩ | ⟨b, t, k, h1, h2, h3, h4, h5⟩
    · rw [h1] at q
      have q2 : Hid (Calls Tryd.prog 23 #[.string s, .int .i64 i] wr fun x w' => x = .returned (.tuple #[.int .i64 (e : Int), .int .i64 (p : Int)]) ∧ w' = wr) := q.out
      have e0 : ¬ (e : Int) = 0 := by omega
      have out : Hid (O = (acc, e, p)) := by
        have := hT.out.1
        rw [hOh.out, h3] at this
        exact this.trans (by simp)
      clear h1 h3 q qs qo hT
      go_wp2_with (go_at_call 23; refine q2.out.mono ?_; rintro x w2 ⟨rfl, rfl⟩)
      refine bodyPost_ret (v := .tuple #[.slice va L vc, .int .i64 (e : Int), .int .i64 (p : Int)]) (by simp [results, Tryd.results5, go_sem]) rfl ?_
      exact ⟨_, by rw [out.out], by rw [out.out]; exact hA.out, hB.out⟩
    · rw [h1] at q
      have q2 : Hid (Calls Tryd.prog 23 #[.string s, .int .i64 i] wr fun x w' => x = .returned (.tuple #[.int .i64 0, .int .i64 (k : Int)]) ∧ w' = wr) := q.out
      have hk : (s.size : Int) ≤ k := by have := hn.out; omega
      have out : Hid (O = (acc, 0, 0)) := by
        have := hT.out.1
        rw [hOh.out, h3] at this
        exact this.trans (by simp)
      clear h1 h3 q qs qo hT h2
      go_wp2_with (go_at_call 23; refine q2.out.mono ?_; rintro x w2 ⟨rfl, rfl⟩)
      refine bodyPost_ret (v := .tuple #[.slice va L vc, .int .i64 0, .int .i64 0]) (by simp [results, Tryd.results5, go_sem]) rfl ?_
      exact ⟨_, by rw [out.out]; rfl, by rw [out.out]; exact hA.out, hB.out⟩
    · rw [h1] at q
      have q2 : Hid (Calls Tryd.prog 23 #[.string s, .int .i64 i] wr fun x w' => x = .returned (.tuple #[.int .i64 0, .int .i64 (k : Int)]) ∧ w' = wr) := q.out
      have hk : ¬ (s.size : Int) ≤ k := by have := hn.out; omega
      have q3 := qo.out wr (hrh.out.below hB.out) k b t h4
      rcases h5 with ⟨e, p, g1, g2, g3⟩ | ⟨tk, r, g1, g2, g3, g4⟩
      · rw [g1] at q3
        have q4 : Hid (Calls Tryd.prog 24 #[.string s, .int .i64 k] wr fun x w' => x = .returned (.tuple #[.agg #[.int .i64 0, .int .i64 0, .int .i64 0, .string ⟨#[]⟩], .int .i64 (e : Int), .int .i64 (p : Int)]) ∧ Below wr.heap.size wr w') := q3
        have e0 : ¬ (e : Int) = 0 := by omega
        have out : Hid (O = (acc, e, p)) := by
          have := hT.out.1
          rw [hOh.out, g3] at this
          exact this.trans (by simp)
        clear h1 g3 q q3 qs qo hT g1 h4
        go_wp2_with (first
          | (go_at_call 23; refine q2.out.mono ?_; rintro x w2 ⟨rfl, rfl⟩)
          | (go_at_call 24; refine q4.out.mono ?_; rintro x w2 ⟨rfl, b2⟩; replace b2 := hide b2))
        refine bodyPost_ret (v := .tuple #[.slice va L vc, .int .i64 (e : Int), .int .i64 (p : Int)]) (by simp [results, Tryd.results5, go_sem]) rfl ?_
        have b3 := (b2.out).alloc b2.out.size (.cells #[.int .i64 0, .int .i64 0, .int .i64 0, .string ⟨#[]⟩] 66)
        exact ⟨_, by rw [out.out], by rw [out.out]; exact ownsRow_kept hA.out b3, hB.out.trans (b3.mono hwz)⟩
      · obtain ⟨kd, bg, fn, x⟩ := tk
        rw [g1] at q3
        have q4 : Hid (Calls Tryd.prog 24 #[.string s, .int .i64 k] wr fun y w' => y = .returned (.tuple #[.agg #[.int .i64 (kd : Int), .int .i64 (bg : Int), .int .i64 (fn : Int), .string ⟨x.toArray⟩], .int .i64 0, .int .i64 0]) ∧ Below wr.heap.size wr w') := q3
        have g2' : k < fn := g2
        have g3' : fn ≤ l.length := g3
        have hT2 : Hid (TokAt l fn (acc ++ [⟨kd, bg, fn, x⟩])) := by
          refine ⟨?_, ?_⟩
          · rw [hT.out.1, g4]
            simp
          · have := hT.out.2
            simp
            omega
        have hfs : fn ≤ s.size := by rw [hn.out]; exact g3'
        clear h1 g4 q q3 qs qo hT g1 h4 g2 g3
        go_wp2_with (first
          | (go_at_call 23; refine q2.out.mono ?_; rintro y w2 ⟨rfl, rfl⟩)
          | (go_at_call 24; refine q4.out.mono ?_; rintro y w2 ⟨rfl, b2⟩; have o2 := ownsRow_kept hA2.out b2; replace o2 := hide o2; replace b2 := hide b2)
          | (at_builtin; (refine wpList_append_own _ rfl _ _ 26 rfl w.heap.size 66 i0 (.agg #[.int .i64 0, .int .i64 0, .int .i64 0, .string ⟨#[]⟩]) 4 40 sliceTok hi1 hz0 hz1 hz2 rfl (by decide) _ L (tksCells acc) rfl ((o2.out.alloc _).alloc _) ⟨w2.heap.size + 1, 0, none⟩ 1 1 [.int .i64 (kd : Int), .int .i64 (bg : Int), .int .i64 (fn : Int), .string ⟨x.toArray⟩] rfl rfl (four_new' _ _ _ _ _ _) (by simp [Value.oneCell']) (by unfold maxLen; omega) (by omega) (by simp; have := b2.out.size; omega) ?_; intro v' w3 o3 g3 _; have c3 := grown_keep o2.out _ _ _ _ _ _ g3; replace o3 := hide o3; replace g3 := hide g3)))
        go_roundw
        case rel => exact ⟨fn, acc ++ [⟨kd, bg, fn, x⟩], by omega, rfl, hT2, by unfold OwnT; rw [List.length_append, hLh.out, tksCells_append]; exact o3.out, (hB.out.trans (((b2.out.alloc b2.out.size _).alloc (by have := b2.out.size; simp; omega) _).mono hwz)).grown g3.out (by have := b2.out.size; simp; omega) (fun g hg => (o2.out.lt g hg).1)⟩
        case measure => simp [intOf]; omega
end Go.Proofs.YtjbalgjdcdmjjaaDoor
