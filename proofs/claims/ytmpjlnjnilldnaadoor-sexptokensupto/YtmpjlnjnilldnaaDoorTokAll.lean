/- Laid together of: TokMath, TokLaw. -/
import Derived.Test.YtmpjlnjnilldnaaDoorSexpMath
import Derived.Test.YtmpjlnjnilldnaaDoorHeadsAll
import Derived.Test.YtmpjlnjnilldnaaDoorScanRows
/- ==== TokMath ==== -/
namespace Go.Proofs.YtmpjlnjnilldnaaDoor.X
open Go.Proofs.YtmpjlnjnilldnaaDoor.S
set_option linter.unusedVariables false
def op1 (l : List Tok) (i : Nat) : Nat := (l.take i).countP fun t => t.kind == 1
def cl2 (l : List Tok) (i : Nat) : Nat := (l.take i).countP fun t => t.kind == 2
theorem take_tok {l : List Tok} {i : Nat} (h : i < l.length) : l.take (i + 1) = l.take i ++ [l.getD i t0] := by
  rw [List.getD_eq_getElem?_getD, List.getElem?_eq_getElem h]
  simp
theorem op1_succ {l : List Tok} {i : Nat} (h : i < l.length) : op1 l (i + 1) = op1 l i + if (l.getD i t0).kind = 1 then 1 else 0 := by
  unfold op1
  rw [take_tok h, List.countP_append, List.countP_cons, List.countP_nil]
  by_cases c : (l.getD i t0).kind = 1
  · rw [if_pos c, if_pos (by simpa using c)]
  · rw [if_neg c, if_neg (by simpa using c)]
theorem cl2_succ {l : List Tok} {i : Nat} (h : i < l.length) : cl2 l (i + 1) = cl2 l i + if (l.getD i t0).kind = 2 then 1 else 0 := by
  unfold cl2
  rw [take_tok h, List.countP_append, List.countP_cons, List.countP_nil]
  by_cases c : (l.getD i t0).kind = 2
  · rw [if_pos c, if_pos (by simpa using c)]
  · rw [if_neg c, if_neg (by simpa using c)]
theorem op1_zero (l : List Tok) : op1 l 0 = 0 := by simp [op1]
theorem cl2_zero (l : List Tok) : cl2 l 0 = 0 := by simp [cl2]
theorem nb_cl2 {l : List Tok} : ∀ {i : Nat}, i ≤ l.length → nb l i + cl2 l i = i
  | 0, _ => by rw [nb_zero, cl2_zero]
  | i + 1, h => by
    have ih := nb_cl2 (l := l) (i := i) (by omega)
    rw [nb_succ l i (by omega), cl2_succ (by omega)]
    split <;> omega
/-- What is closed is closed at the parenthesis that matches. -/
def Bal (l : List Tok) (i : Nat) (tz : List Int) (op : List Nat) : Prop :=
  tz.length = i ∧ (∀ p, p < op.length → op.getD p 0 < i ∧ op1 l i + cl2 l (op.getD p 0) = cl2 l i + op1 l (op.getD p 0) + (p + 1)) ∧ op1 l i = cl2 l i + op.length ∧
  ∀ j, j < i → (l.getD j t0).kind = 1 → j ∈ op ∨ ∃ c : Nat, tz.getD j 0 = (c : Int) ∧ j < c ∧ c < i ∧ (l.getD c t0).kind = 2 ∧ op1 l (c + 1) + cl2 l j = cl2 l (c + 1) + op1 l j
theorem bal_zero (l : List Tok) : Bal l 0 [] [] := ⟨rfl, fun p hp => by simp at hp, by simp [op1_zero, cl2_zero], fun j hj => by omega⟩
theorem bal_open {l : List Tok} {i : Nat} {tz : List Int} {op : List Nat} (h : Bal l i tz op) (hi : i < l.length) (hk : (l.getD i t0).kind = 1) : Bal l (i + 1) (tz ++ [-1]) (i :: op) := by
  obtain ⟨h1, h2, h3, h4⟩ := h
  have e1 := op1_succ hi
  have e2 := cl2_succ hi
  rw [if_pos hk] at e1
  rw [if_neg (by omega)] at e2
  refine ⟨by simp [h1], fun p hp => ?_, by rw [e1, e2, List.length_cons]; omega, fun j hj hkj => ?_⟩
  · cases p with
    | zero =>
      rw [List.getD_cons_zero]
      exact ⟨by omega, by omega⟩
    | succ p =>
      rw [List.getD_cons_succ]
      have := h2 p (by simpa using hp)
      exact ⟨by omega, by omega⟩
  · by_cases c : j = i
    · subst c
      exact .inl (by simp)
    · rcases h4 j (by omega) hkj with q | ⟨c', q1, q2, q3, q4, q5⟩
      · exact .inl (List.mem_cons_of_mem _ q)
      · exact .inr ⟨c', by rw [getD_old _ _ _ (by omega)]; exact q1, q2, by omega, q4, q5⟩
theorem bal_atom {l : List Tok} {i : Nat} {tz : List Int} {op : List Nat} (h : Bal l i tz op) (hi : i < l.length) (hk : (l.getD i t0).kind ≠ 1) (hk2 : (l.getD i t0).kind ≠ 2) : Bal l (i + 1) (tz ++ [(i : Int)]) op := by
  obtain ⟨h1, h2, h3, h4⟩ := h
  have e1 := op1_succ hi
  have e2 := cl2_succ hi
  rw [if_neg hk] at e1
  rw [if_neg hk2] at e2
  refine ⟨by simp [h1], fun p hp => ?_, by rw [e1, e2]; omega, fun j hj hkj => ?_⟩
  · have := h2 p hp
    exact ⟨by omega, by omega⟩
  · by_cases c : j = i
    · subst c
      exact absurd hkj hk
    · rcases h4 j (by omega) hkj with q | ⟨c', q1, q2, q3, q4, q5⟩
      · exact .inl q
      · exact .inr ⟨c', by rw [getD_old _ _ _ (by omega)]; exact q1, q2, by omega, q4, q5⟩
theorem bal_close {l : List Tok} {i g : Nat} {tz : List Int} {op : List Nat} (h : Bal l i tz (g :: op)) (hi : i < l.length) (hk : (l.getD i t0).kind = 2) : Bal l (i + 1) ((tz ++ [(i : Int)]).set g i) op := by
  obtain ⟨h1, h2, h3, h4⟩ := h
  have e1 := op1_succ hi
  have e2 := cl2_succ hi
  rw [if_neg (by omega)] at e1
  rw [if_pos hk] at e2
  have hg := h2 0 (by simp)
  rw [List.getD_cons_zero] at hg
  refine ⟨by simp [h1], fun p hp => ?_, by rw [List.length_cons] at h3; omega, fun j hj hkj => ?_⟩
  · have := h2 (p + 1) (by simpa using hp)
    rw [List.getD_cons_succ] at this
    exact ⟨by omega, by omega⟩
  · by_cases c : j = g
    · subst c
      exact .inr ⟨i, getD_set _ _ _ (by simp; omega), hg.1, by omega, hk, by omega⟩
    · by_cases c2 : j = i
      · subst c2
        omega
      · rcases h4 j (by omega) hkj with q | ⟨c', q1, q2, q3, q4, q5⟩
        · rcases List.mem_cons.1 q with q | q
          · exact absurd q c
          · exact .inl q
        · exact .inr ⟨c', by rw [getD_set_ne _ _ _ (Ne.symm c), getD_old _ _ _ (by omega)]; exact q1, q2, by omega, q4, q5⟩
theorem bal_step (l : List Tok) : ∀ (r : List Tok) (i : Nat) (tz : List Int) (op : List Nat), l.drop i = r → i ≤ l.length → Bal l i tz op → ∀ tz' op', cl r i tz op = .inl (tz', op') → Bal l l.length tz' op'
  | [], i, tz, op, hr, hle, h, tz', op', e => by
    have hl : l.length ≤ i := by
      have := congrArg List.length hr
      simp at this
      omega
    unfold cl at e
    cases e
    obtain rfl : i = l.length := by omega
    exact h
  | t :: r, i, tz, op, hr, hle, h, tz', op', e => by
    have hi : i < l.length := by
      have := congrArg List.length hr
      simp at this
      omega
    have hd := drop_tok l i hi
    rw [hr] at hd
    obtain ⟨rfl, hr2⟩ := List.cons.inj hd
    unfold cl at e
    by_cases h1 : (l.getD i t0).kind = 1
    · rw [if_pos h1] at e
      exact bal_step l r (i + 1) _ _ hr2.symm (by omega) (bal_open h hi h1) _ _ e
    · rw [if_neg h1] at e
      by_cases h2 : (l.getD i t0).kind = 2
      · rw [if_pos h2] at e
        cases op with
        | nil => cases e
        | cons g op' => exact bal_step l r (i + 1) _ _ hr2.symm (by omega) (bal_close h hi h2) _ _ e
      · rw [if_neg h2] at e
        exact bal_step l r (i + 1) _ _ hr2.symm (by omega) (bal_atom h hi h1 h2) _ _ e
/-- What is known of the nodes of tokens that are read without an error. -/
theorem toks_nodes {l : List Tok} {ns : List N} (h : pr l [] [] = .inl (ns, [])) :
    ns.length = nb l l.length ∧ op1 l l.length = cl2 l l.length ∧
    (∀ j, j < l.length → (l.getD j t0).kind ≠ 2 → (l.getD j t0).kind ≠ 1 → ns.getD (nb l j) n0 = atom (l.getD j t0)) ∧
    (∀ j, j < l.length → (l.getD j t0).kind = 1 → ∃ c : Nat, j < c ∧ c < l.length ∧ (l.getD c t0).kind = 2 ∧ op1 l (c + 1) + cl2 l j = cl2 l (c + 1) + op1 l j ∧ ns.getD (nb l j) n0 = ⟨1, (l.getD j t0).beg, (l.getD c t0).fin, nb l (c + 1) - nb l j, []⟩) := by
  rcases in_step l l 0 [] [] [] [] rfl (inv_zero l) with ⟨ns', st', tz, op, e1, e2, hI⟩ | ⟨ns', b, tz, e1, e2, hb, hk, hI⟩
  · rw [h] at e1
    cases e1
    have hB := bal_step l l 0 [] [] rfl (Nat.zero_le _) (bal_zero l) _ _ e2
    obtain ⟨h1, h2, h3, h4, h5, h6, h7, h8, h9⟩ := hI
    have hop : op = [] := by
      cases op with
      | nil => rfl
      | cons a b => simp at h4
    subst hop
    obtain ⟨b1, b2, b3, b4⟩ := hB
    have nn : ∀ j, j < l.length → tz.getD j 0 ≠ -1 := fun j hj c => absurd (h7 j hj c) (by simp)
    refine ⟨h3, by simpa using b3, fun j hj k2 k1 => ?_, fun j hj k1 => ?_⟩
    · rw [h5 j hj k2 (nn j hj)]
      unfold nd
      rw [if_neg k1]
    · rcases b4 j hj k1 with q | ⟨c, q1, q2, q3, q4, q5⟩
      · cases q
      · refine ⟨c, q2, q3, q4, q5, ?_⟩
        rw [h5 j hj (by omega) (nn j hj)]
        unfold nd
        rw [if_pos k1, q1, Int.toNat_natCast]
  · rw [h] at e1
    cases e1
theorem stands_rise (res : List UInt8 → Bool) : ∀ (ts : List Tok) (l : List UInt8) (i e p : Nat), Stands res ts l i e p → (∀ t ∈ ts, i < t.fin) ∧ ts.Pairwise (fun a b => a.fin < b.fin)
  | [], l, i, e, p, h => ⟨fun t ht => by simp at ht, List.Pairwise.nil⟩
  | t :: ts, l, i, e, p, h => by
    obtain ⟨n, m, h1, h2, h3, h4, h5, h6, h7⟩ := h
    obtain ⟨q1, q2⟩ := stands_rise res ts _ _ e p h7
    refine ⟨fun x hx => ?_, List.pairwise_cons.2 ⟨fun x hx => ?_, q2⟩⟩
    · rcases List.mem_cons.1 hx with rfl | hx
      · omega
      · have := q1 x hx
        omega
    · have := q1 x hx
      omega
theorem rise_at {ts : List Tok} (h : ts.Pairwise (fun a b => a.fin < b.fin)) {j k : Nat} (hjk : j < k) (hk : k < ts.length) : (ts.getD j t0).fin < (ts.getD k t0).fin := by
  have := List.pairwise_iff_getElem.1 h j k (by omega) hk hjk
  rw [List.getD_eq_getElem?_getD, List.getElem?_eq_getElem (by omega : j < ts.length), List.getD_eq_getElem?_getD, List.getElem?_eq_getElem hk]
  exact this
/-- Which errors there are. -/
theorem out_told (l : List Tok) (e p : Nat) (he : e = 0 ∨ (10 ≤ e ∧ e ≤ 17)) : (out l e p).2.1 = 0 ∨ (10 ≤ (out l e p).2.1 ∧ (out l e p).2.1 ≤ 21 ∧ (20 ≤ (out l e p).2.1 ∨ ((out l e p).2.1 = e ∧ (out l e p).2.2 = p))) := by
  unfold out
  rcases pr l [] [] with ⟨ns, st⟩ | ⟨ns, b⟩
  · cases st with
    | nil =>
      show e = 0 ∨ _
      rcases he with he | he
      · exact .inl he
      · exact .inr ⟨he.1, by show e ≤ 21; omega, .inr ⟨rfl, rfl⟩⟩
    | cons g st =>
      show (if e = 0 then 21 else e) = 0 ∨ 10 ≤ (if e = 0 then 21 else e) ∧ (if e = 0 then 21 else e) ≤ 21 ∧ (20 ≤ (if e = 0 then 21 else e) ∨ (if e = 0 then 21 else e) = e ∧ (if e = 0 then _ else p) = p)
      by_cases c : e = 0
      · rw [if_pos c]
        exact .inr ⟨by omega, by omega, .inl (by omega)⟩
      · rw [if_neg c, if_neg c]
        exact .inr ⟨by omega, by omega, .inr ⟨rfl, rfl⟩⟩
  · exact .inr ⟨by show 10 ≤ 20; omega, by show 20 ≤ 21; omega, .inl (Nat.le_refl _)⟩
end Go.Proofs.YtmpjlnjnilldnaaDoor.X
/- ==== TokLaw ==== -/
namespace Go.Proofs.YtmpjlnjnilldnaaDoor
open Go.RowKit
set_option linter.unusedVariables false
/-- How many nodes are no lists. -/
def atomsOf (ns : List X.N) : Nat := ns.countP fun n => n.kind != 1
def atomsTo (ns : List X.N) (i : Nat) : Nat := (ns.take i).countP fun n => n.kind != 1
theorem atomsTo_succ {ns : List X.N} {i : Nat} (h : i < ns.length) : atomsTo ns (i + 1) = atomsTo ns i + if (ns.getD i X.n0).kind = 1 then 0 else 1 := by
  unfold atomsTo
  have e : ns.take (i + 1) = ns.take i ++ [ns.getD i X.n0] := by
    rw [List.getD_eq_getElem?_getD, List.getElem?_eq_getElem h]
    simp
  rw [e, List.countP_append, List.countP_cons, List.countP_nil]
  by_cases c : (ns.getD i X.n0).kind = 1
  · rw [if_pos c, show ((ns.getD i X.n0).kind != 1) = false by rw [c]; rfl]
    rfl
  · rw [if_neg c, if_pos (by simpa using c)]
set_option maxRecDepth 100000 in
set_option maxHeartbeats 4000000 in
theorem atoms_calls (w : World) (v : Value) (ns : List X.N) (h : NRow w v ns) (hl : ns.length ≤ 2932031007402) :
    Calls Tryd.prog 18 #[v] w fun e w' => e = .returned (.int .i64 (atomsOf ns : Nat)) ∧ w' = w := by
  obtain ⟨a, cap, rfl, h1, h2⟩ := h.shape
  replace h := hide h
  go_enter Tryd.func18, Tryd.ntmps18
  go_wp2
  go_loop [3, 4] (fun x i => ∃ j : Nat, x = .int .i64 (atomsTo ns j : Nat) ∧ i = .int .i64 (j : Int) ∧ j ≤ ns.length) (fun _ i => ns.length - (intOf i).toNat)
  case atStart => exact ⟨0, by simp [atomsTo], rfl, Nat.zero_le _⟩
  case round =>
    obtain ⟨j, rfl, rfl, hj⟩ := hrel
    by_cases hlt : j < ns.length
    · obtain ⟨b, off, rfl, c0, c1, c2, c3, c4⟩ := h.out.at_ hlt
      have es := atomsTo_succ hlt
      have jl : (j : Int) < (ns.length : Int) := by omega
      have cb : atomsTo ns j ≤ 2932031007402 := by
        unfold atomsTo
        have := List.countP_le_length (p := fun n : X.N => n.kind != 1) (l := ns.take j)
        have := List.length_take_le j ns
        omega
      generalize (ns.getD j X.n0).kind = kd at *
      generalize atomsTo ns j = x at *
      clear c1 c2 c3 c4
      by_cases k1 : kd = 1
      · rw [if_pos k1] at es
        subst k1
        replace es := hide es
        go_wp2
        go_round
        case rel => exact ⟨j + 1, by rw [es.out]; rfl, by go_num, by omega⟩
        case measure => simp [intOf]; omega
      · rw [if_neg k1] at es
        have k2 : ¬ (kd : Int) = 1 := by omega
        replace es := hide es
        go_wp2
        go_round
        case rel => exact ⟨j + 1, by rw [es.out]; go_num, by go_num, by omega⟩
        case measure => simp [intOf]; omega
    · obtain rfl : j = ns.length := by omega
      clear hlt hj
      have ea : Hid (atomsTo ns ns.length = atomsOf ns) := by show _ = _; unfold atomsTo atomsOf; rw [List.take_length]
      go_wp2
      go_ret
      exact ⟨by rw [← ea.out]; rfl, rfl⟩
/-- How many are closed ahead of each token. -/
def CRow (w : World) (v : Value) (ts : List S.Tok) : Prop := ∃ g cap, v = .slice (some ⟨g, 0, none⟩) (ts.length + 1) cap ∧ g < w.heap.size ∧ ∀ j, j ≤ ts.length → w.cell? ⟨g, j, none⟩ = some (.int .i64 (X.cl2 ts j : Nat))
theorem CRow.below {w w' : World} {v : Value} {ts : List S.Tok} (h : CRow w v ts) (b : Below w.heap.size w w') : CRow w' v ts := by
  obtain ⟨g, cap, e, h1, h2⟩ := h
  exact ⟨g, cap, e, Nat.lt_of_lt_of_le h1 b.size, fun j hj => (b.cell h1).trans (h2 j hj)⟩
theorem nb_bound (ts : List S.Tok) (j : Nat) (h : j ≤ ts.length) : X.nb ts j ≤ j ∧ X.cl2 ts j ≤ j := by
  have := X.nb_cl2 (l := ts) h
  omega
theorem op1_bound (ts : List S.Tok) (j : Nat) : X.op1 ts j ≤ ts.length := by
  unfold X.op1
  have := List.countP_le_length (p := fun t : S.Tok => t.kind == 1) (l := ts.take j)
  have := List.length_take_le' j ts
  omega
/-- What is known of tokens and their nodes. -/
structure TN (ts : List S.Tok) (ns : List X.N) : Prop where
  len : ns.length = X.nb ts ts.length
  even : X.op1 ts ts.length = X.cl2 ts ts.length
  atom : ∀ j, j < ts.length → (ts.getD j X.t0).kind ≠ 2 → (ts.getD j X.t0).kind ≠ 1 → ns.getD (X.nb ts j) X.n0 = X.atom (ts.getD j X.t0)
  list : ∀ j, j < ts.length → (ts.getD j X.t0).kind = 1 → ∃ c : Nat, j < c ∧ c < ts.length ∧ (ts.getD c X.t0).kind = 2 ∧ X.op1 ts (c + 1) + X.cl2 ts j = X.cl2 ts (c + 1) + X.op1 ts j ∧ ns.getD (X.nb ts j) X.n0 = ⟨1, (ts.getD j X.t0).beg, (ts.getD c X.t0).fin, X.nb ts (c + 1) - X.nb ts j, []⟩
  rise : ts.Pairwise (fun a b => a.fin < b.fin)
  many : ts.length ≤ 1073741824
  far : ∀ j, (ts.getD j X.t0).fin ≤ 1073741824
set_option maxRecDepth 100000 in
set_option maxHeartbeats 8000000 in
theorem ends_calls (w : World) (va vf vc : Value) (ts : List S.Tok) (ns : List X.N) (ht : TRow w va ts) (hf : NRow w vf ns) (hc : CRow w vc ts) (T : TN ts ns) :
    Calls Tryd.prog 19 #[va, vf, vc] w fun e w' => e = .returned (.bool true) ∧ Below w.heap.size w w' := by
  obtain ⟨a, cap, rfl, h1, h2⟩ := ht.shape
  obtain ⟨a', cap', rfl, h1', h2'⟩ := hf.shape
  obtain ⟨gc, capc, rfl, hgc, hcc⟩ := id hc
  clear hcc
  have hmany := T.many
  have hnl : ns.length ≤ ts.length := by rw [T.len]; exact (nb_bound ts ts.length (Nat.le_refl _)).1
  replace ht := hide ht
  replace hf := hide hf
  replace hc := hide hc
  replace T := hide T
  have B0 : Hid (Below w.heap.size w w) := Below.refl _ _
  go_enter Tryd.func19, Tryd.ntmps19
  go_wp2_with fail
  go_loopw [7, 8] (fun x i wr => ∃ j : Nat, x = .int .i64 (X.nb ts j : Nat) ∧ i = .int .i64 (j : Int) ∧ j ≤ ts.length ∧ Hid (Below w.heap.size w wr)) (fun _ i _ => ts.length - (intOf i).toNat)
  case atStart => exact ⟨0, by rw [X.nb_zero]; rfl, rfl, Nat.zero_le _, B0⟩
  case round =>
    clear B0
    obtain ⟨j, rfl, rfl, hj, BB⟩ := hrel
    by_cases hlt : j < ts.length
    · obtain ⟨b, off, rfl, t0, t1, t2, t3⟩ := (ht.out.below BB.out).at_ hlt
      have jl : (j : Int) < (ts.length : Int) := by omega
      have es := X.nb_succ ts j hlt
      have nbj := (nb_bound ts j hj).1
      by_cases k2 : (ts.getD j X.t0).kind = 2
      · have t0' : wr.cell? ⟨b, off + j * 4, none⟩ = some (.int .i64 2) := by rw [t0, show (ts.getD j tk0).kind = 2 from k2]; rfl
        rw [if_pos k2, Nat.add_zero] at es
        replace es := hide es
        clear t0 t1 t2 t3
        generalize X.nb ts j = nj at *
        go_wp2
        go_roundw
        case rel => exact ⟨j + 1, by rw [es.out]; rfl, by go_num, by omega, BB⟩
        case measure => simp [intOf]; omega
      · rw [if_neg k2] at es
        have hnb : X.nb ts j < ns.length := by rw [T.out.len]; exact X.nb_lt hlt (Nat.le_refl _) k2
        obtain ⟨b', off', rfl, n0, n1, n2, n3, n4⟩ := (hf.out.below BB.out).at_ hnb
        have njl : (X.nb ts j : Int) < (ns.length : Int) := by omega
        have k2' : ¬ ((ts.getD j tk0).kind : Int) = 2 := fun c => k2 (by show (ts.getD j tk0).kind = 2; omega)
        by_cases k1 : (ts.getD j X.t0).kind = 1
        · obtain ⟨c, jc, cl, ck, cbal, en⟩ := T.out.list j hlt k1
          rw [en] at n0 n1 n2 n3 n4
          simp only at n0 n1 n2 n3 n4
          have t0' : wr.cell? ⟨b, off + j * 4, none⟩ = some (.int .i64 1) := by rw [t0, show (ts.getD j tk0).kind = 1 from k1]; rfl
          replace n0 : wr.cell? ⟨b', off' + X.nb ts j * 5, none⟩ = some (.int .i64 1) := n0
          have ncj := X.nb_le (l := ts) (a := j) (b := c + 1) (by omega) (by omega)
          have nb1 := (nb_bound ts (c + 1) (by omega)).1
          have far := T.out.far c
          generalize hfc : (ts.getD c X.t0).fin = fc at n2 far
          generalize hsz : X.nb ts (c + 1) - X.nb ts j = sz at n3
          generalize hbg : (ts.getD j X.t0).beg = bg at n1
          have A0 : Hid ((wr.alloc (.cells #[.int .i64 1, .int .i64 (bg : Int), .int .i64 (fc : Int), .int .i64 (sz : Int), .string ⟨#[]⟩] 55)).heap[wr.heap.size]? = some (.cells #[.int .i64 1, .int .i64 (bg : Int), .int .i64 (fc : Int), .int .i64 (sz : Int), .string ⟨#[]⟩] 55 (0, 0))) := heap_alloc_new wr _
          have B2 : Hid (Below w.heap.size w (wr.alloc (.cells #[.int .i64 1, .int .i64 (bg : Int), .int .i64 (fc : Int), .int .i64 (sz : Int), .string ⟨#[]⟩] 55))) := BB.out.alloc BB.out.size _
          replace es := hide es
          replace hfc := hide hfc
          replace hsz := hide hsz
          have nj2 : X.nb ts j + 1 ≤ 1073741824 := by omega
          clear t0 t1 t2 t3 en hbg
          go_wp2_with fail
          generalize hwa : wr.alloc (.cells #[.int .i64 1, .int .i64 (bg : Int), .int .i64 (fc : Int), .int .i64 (sz : Int), .string ⟨#[]⟩] 55) = wa at *
          generalize hwg : wr.heap.size = gn at *
          have q2 : wa.cell? ⟨gn, 2, none⟩ = some (.int .i64 (fc : Int)) := by rw [cell_of_row _ _ _ _ _ _ A0.out]; rfl
          have q3 : wa.cell? ⟨gn, 3, none⟩ = some (.int .i64 (sz : Int)) := by rw [cell_of_row _ _ _ _ _ _ A0.out]; rfl
          have q0 := hide (And.intro q2 q3)
          have ht3 := hide (ht.out.below B2.out)
          have hc3 := hide (hc.out.below B2.out)
          clear n0 n1 n2 n3 n4 t0' hwa hwg A0 BB q2 q3
          generalize (Value.agg #[.int .i64 1, .int .i64 (bg : Int), .int .i64 (fc : Int), .int .i64 (sz : Int), .string ⟨#[]⟩]) = sv29
          go_loopw [10, 11] (fun x i wr => ∃ p s : Nat, x = .int .i64 (s : Int) ∧ i = .int .i64 (p : Int) ∧ j ≤ p ∧ p ≤ c + 1 ∧ X.nb ts p = X.nb ts j + s ∧ Hid (∃ m, wr = wa.drewN m)) (fun _ i _ => c + 1 - (intOf i).toNat)
          case atStart => exact ⟨j, 0, rfl, rfl, Nat.le_refl _, by omega, rfl, ⟨0, rfl⟩⟩
          case round =>
            obtain ⟨p, s, rfl, rfl, p1, p2, hs, HW⟩ := hrel
            have HWn : Hid (∀ m', ∃ m, wr.drewN m' = wa.drewN m) := by
              intro m'
              obtain ⟨m, e⟩ := HW.out
              exact ⟨m + m', by rw [e]; exact World.drewN_drewN _ _ _⟩
            have qr : wr.cell? ⟨gn, 2, none⟩ = some (.int .i64 (fc : Int)) ∧ wr.cell? ⟨gn, 3, none⟩ = some (.int .i64 (sz : Int)) := by
              obtain ⟨m, e⟩ := HW.out
              rw [e]
              exact q0.out
            obtain ⟨q2, q3⟩ := qr
            have sb : s ≤ 1073741824 := by have := (nb_bound ts p (by omega)).1; omega
            have htr : TRow wr (.slice (some ⟨b, off, none⟩) ts.length cap) ts := by
              obtain ⟨m, e⟩ := HW.out
              rw [e]
              exact ht3.out
            by_cases hpc : p ≤ c
            · have hpl : p < ts.length := by omega
              obtain ⟨bb, oo, eb, t0, t1, t2, t3⟩ := htr.at_ hpl
              cases eb
              have hfin : (ts.getD p tk0).fin ≤ fc := by
                rw [← hfc.out]
                rcases Nat.lt_or_ge p c with z | z
                · exact Nat.le_of_lt (X.rise_at T.out.rise z cl)
                · obtain rfl : p = c := by omega
                  exact Nat.le_refl _
              have es2 := X.nb_succ ts p hpl
              rw [show ts.getD p X.t0 = ts.getD p tk0 from rfl] at es2
              generalize (ts.getD p tk0).fin = fp at *
              generalize (ts.getD p tk0).kind = kp at *
              have pl : (p : Int) < (ts.length : Int) := by omega
              have pd : decide ((p : Int) < (ts.length : Int)) = true := by simp; omega
              have fl : (fp : Int) ≤ (fc : Int) := by omega
              have fd : decide ((fp : Int) ≤ (fc : Int)) = true := by simp; omega
              replace htr := hide htr
              go_wp2_with fail
              go_quiet (fail)
              have t0n : (wr.drewN nq).cell? ⟨b, off + p * 4, none⟩ = some (.int .i64 (kp : Int)) := t0
              by_cases kk : kp = 2
              · rw [if_pos kk] at es2
                subst kk
                replace es2 := hide es2
                go_wp2
                go_roundw
                case rel => exact ⟨p + 1, s, rfl, by go_num, by omega, by omega, by rw [es2.out]; omega, HWn.out _⟩
                case measure => simp [intOf]; omega
              · rw [if_neg kk] at es2
                have kk' : ¬ (kp : Int) = 2 := by omega
                replace es2 := hide es2
                go_wp2
                go_roundw
                case rel => exact ⟨p + 1, s + 1, by go_num, by go_num, by omega, by omega, by rw [es2.out]; omega, HWn.out _⟩
                case measure => simp [intOf]; omega
            · obtain rfl : p = c + 1 := by omega
              have hss : s = sz := by have := hsz.out; omega
              subst hss
              obtain ⟨bb, oo, eb, t0, t1, t2, t3⟩ := htr.at_ cl
              cases eb
              have t0' : wr.cell? ⟨b, off + c * 4, none⟩ = some (.int .i64 2) := by rw [t0, show (ts.getD c tk0).kind = 2 from ck]; rfl
              have t2' : wr.cell? ⟨b, off + c * 4 + 2, none⟩ = some (.int .i64 (fc : Int)) := by rw [t2, show (ts.getD c tk0).fin = fc from hfc.out]
              have j1 : ((c + 1 : Nat) : Int) = (c : Int) + 1 := by omega
              have cl' : (c : Int) < (ts.length : Int) := by omega
              rw [j1]
              have htrH := hide htr
              clear htr t0 t1 t2 t3
              rcases Nat.lt_or_ge (c + 1) ts.length with cn | cn
              case' inl =>
                obtain ⟨bb, oo, eb, t0, t1, t2, t3⟩ := htrH.out.at_ cn
                cases eb
                have hfin : fc < (ts.getD (c + 1) tk0).fin := by
                  rw [← hfc.out]
                  exact X.rise_at T.out.rise (Nat.lt_succ_self c) cn
                have hcell : wr.cell? ⟨b, off + (c + 1) * 4 + 2, none⟩ = some (.int .i64 ((ts.getD (c + 1) tk0).fin : Int)) := t2
                generalize (ts.getD (c + 1) tk0).fin = fn at *
                clear t0 t1 t2 t3
                have g1 : (c : Int) + 1 < (ts.length : Int) := by omega
                have gd : decide ((c : Int) + 1 < (ts.length : Int)) = true := by simp; omega
                have g2 : ((c : Int) + 1).toNat = c + 1 := by omega
                have g3 : (0 : Int) ≤ (c : Int) + 1 := by omega
                have g4 : ¬ (fn : Int) ≤ (fc : Int) := by omega
                have g5 : decide ((fn : Int) ≤ (fc : Int)) = false := by simp; omega
                go_wp2_with fail
                go_quiet (fail)
              case' inr =>
                have g1 : ¬ (c : Int) + 1 < (ts.length : Int) := by omega
                have gd : decide ((c : Int) + 1 < (ts.length : Int)) = false := by simp; omega
                go_wp2_with fail
                go_quiet (fail)
              all_goals
                have t0n : (wr.drewN nq).cell? ⟨b, off + c * 4, none⟩ = some (.int .i64 2) := t0'
                have t2n : (wr.drewN nq).cell? ⟨b, off + c * 4 + 2, none⟩ = some (.int .i64 (fc : Int)) := t2'
                have q2n : (wr.drewN nq).cell? ⟨gn, 2, none⟩ = some (.int .i64 (fc : Int)) := q2
                have q3n : (wr.drewN nq).cell? ⟨gn, 3, none⟩ = some (.int .i64 (s : Int)) := q3
                have HWr := hide (HWn.out nq)
                generalize wr.drewN nq = wd at *
                clear t0' t2' q2 q3 htrH HW
                go_wp2_with fail
                have e1 : ¬ (c : Int) + 1 = (j : Int) := by omega
                have e2 : ((c : Int) + 1 == (j : Int)) = false := by rw [beq_eq_false_iff_ne]; omega
                have e3 : 0 ≤ (c : Int) + 1 - 1 := by omega
                have e4 : (c : Int) + 1 - 1 < (ts.length : Int) := by omega
                have e5 : ((c : Int) + 1 - 1).toNat = c := by omega
                have e6 : (c : Int) + 1 - 1 = (c : Int) := by omega
                go_quiet (fail)
                clear t0n t2n q2n q3n e1 e2 e3 e4 e5 e6
                have HWs : Hid (∃ m, wd.drewN nq = wa.drewN m) := by
                  obtain ⟨m, e⟩ := HWr.out
                  exact ⟨m + nq, by rw [e]; exact World.drewN_drewN _ _ _⟩
                clear HWr
                go_wp2_with fail
                generalize wd.drewN nq = we at *
                go_loop [12, 13] (fun x i => ∃ p q : Nat, x = .int .i64 (q : Int) ∧ i = .int .i64 (p : Int) ∧ j ≤ p ∧ p ≤ c + 1 ∧ X.op1 ts p = X.op1 ts j + q) (fun _ i => c + 1 - (intOf i).toNat)
                case atStart => exact ⟨j, 0, rfl, rfl, Nat.le_refl _, by omega, rfl⟩
                case round =>
                  obtain ⟨p, q, rfl, rfl, pj, pc, hq⟩ := hrel
                  have qb : q ≤ 1073741824 := by have := op1_bound ts p; omega
                  by_cases hpc : p < c + 1
                  · have hte : TRow we (.slice (some ⟨b, off, none⟩) ts.length cap) ts := by
                      obtain ⟨m, e⟩ := HWs.out
                      rw [e]
                      exact ht3.out
                    obtain ⟨bb, oo, eb, t0, t1, t2, t3⟩ := hte.at_ (show p < ts.length by omega)
                    cases eb
                    have es2 := X.op1_succ (l := ts) (i := p) (by omega)
                    rw [show ts.getD p X.t0 = ts.getD p tk0 from rfl] at es2
                    generalize (ts.getD p tk0).kind = kp at *
                    have pl : (p : Int) < (ts.length : Int) := by omega
                    have pl2 : (p : Int) < (c : Int) + 1 := by omega
                    clear hte t1 t2 t3
                    by_cases kk : kp = 1
                    · rw [if_pos kk] at es2
                      subst kk
                      replace es2 := hide es2
                      go_wp2
                      go_round
                      case rel => exact ⟨p + 1, q + 1, by go_num, by go_num, by omega, by omega, by rw [es2.out]; omega⟩
                      case measure => simp [intOf]; omega
                    · rw [if_neg kk] at es2
                      have kk' : ¬ (kp : Int) = 1 := by omega
                      replace es2 := hide es2
                      go_wp2
                      go_round
                      case rel => exact ⟨p + 1, q, rfl, by go_num, by omega, by omega, by rw [es2.out]; omega⟩
                      case measure => simp [intOf]; omega
                  · obtain rfl : p = c + 1 := by omega
                    have hce : CRow we (.slice (some ⟨gc, 0, none⟩) (ts.length + 1) capc) ts := by
                      obtain ⟨m, e⟩ := HWs.out
                      rw [e]
                      exact hc3.out
                    obtain ⟨g', cap'', e', _, hcells⟩ := hce
                    cases e'
                    have x1 := hcells (c + 1) (by omega)
                    have x2 := hcells j (by omega)
                    have hb1 := (nb_bound ts (c + 1) (by omega)).2
                    have hcl : X.cl2 ts (c + 1) = X.cl2 ts j + q := by omega
                    rw [hcl] at x1 hb1
                    generalize X.cl2 ts j = y at *
                    have j1 : ((c + 1 : Nat) : Int) = (c : Int) + 1 := by omega
                    have x1' : we.cell? ⟨gc, c + 1, none⟩ = some (.int .i64 ((y : Int) + (q : Int))) := by rw [x1]; rfl
                    clear x1 hcells cbal hcl
                    rw [j1]
                    have g1 : ¬ (c : Int) + 1 < (c : Int) + 1 := by omega
                    go_wp2_with fail
                    have g2 : ((c : Int) + 1).toNat = c + 1 := by omega
                    have g3 : (0 : Int) ≤ (c : Int) + 1 := by omega
                    have g4 : (c : Int) + 1 < (ts.length : Int) + 1 := by omega
                    have g5 : (j : Int) < (ts.length : Int) + 1 := by omega
                    have g6 : (y : Int) + (q : Int) - (y : Int) = (q : Int) := by omega
                    go_quiet (fail)
                    have BF : Hid (Below w.heap.size w (we.drewN nq)) := by
                      obtain ⟨m, e⟩ := HWs.out
                      have : we.drewN nq = wa.drewN (m + nq) := by rw [e]; exact World.drewN_drewN _ _ _
                      rw [this]
                      exact ⟨B2.out.os, B2.out.tape, B2.out.output, B2.out.size, B2.out.block⟩
                    go_wp2
                    go_roundw
                    case rel => exact ⟨j + 1, by rw [es.out]; go_num, by go_num, by omega, BF⟩
                    case measure => simp [intOf]; omega
        · have ea := T.out.atom j hlt k2 k1
          rw [ea] at n0 n1 n2 n3 n4
          have k1' : ¬ ((ts.getD j tk0).kind : Int) = 1 := fun c => k1 (by show (ts.getD j tk0).kind = 1; omega)
          replace n0 : wr.cell? ⟨b', off' + X.nb ts j * 5, none⟩ = some (.int .i64 ((ts.getD j tk0).kind : Int)) := n0
          generalize (ts.getD j tk0).kind = kd at *
          have B2 : Hid (∀ x, Below w.heap.size w (wr.alloc x)) := fun x => BB.out.alloc BB.out.size x
          replace es := hide es
          generalize X.nb ts j = nj at *
          generalize (X.atom (ts.getD j X.t0)).beg = y1 at n1
          generalize (X.atom (ts.getD j X.t0)).fin = y2 at n2
          generalize (X.atom (ts.getD j X.t0)).size = y3 at n3
          generalize (X.atom (ts.getD j X.t0)).text = y4 at n4
          clear t1 t2 t3 ea
          go_wp2
          go_roundw
          case rel => exact ⟨j + 1, by rw [es.out]; go_num, by go_num, by omega, B2.out _⟩
          case measure => simp [intOf]; omega
    · obtain rfl : j = ts.length := by omega
      clear hlt hj
      go_wp2
      go_ret
      exact ⟨rfl, BB.out⟩
end Go.Proofs.YtmpjlnjnilldnaaDoor
