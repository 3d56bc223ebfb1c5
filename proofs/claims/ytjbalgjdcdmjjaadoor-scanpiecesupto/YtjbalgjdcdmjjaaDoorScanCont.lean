/-
  The scanner's states: comments, strings, quoted symbols.
-/
import Derived.Test.YtjbalgjdcdmjjaaDoorScanFollow
import Derived.Test.YtjbalgjdcdmjjaaDoorScanDigits
import Derived.Deep.RegionWith
namespace Go.Proofs.YtjbalgjdcdmjjaaDoor
open Go.RowKit
set_option linter.unusedVariables false
theorem AtC.mv {g : Nat} {q : S.Cont} {st sp : Value} {k bg : Nat} {acc : List UInt8} (h : AtC g q st sp k bg acc) : ∃ a b, st = mv a g ∧ sp = mv b g := by
  rcases q with ⟨⟩ | ⟨b, a⟩ | ⟨b, a⟩
  · exact ⟨_, _, h.1, h.2.1⟩
  · exact ⟨_, _, h.1, h.2.1⟩
  · exact ⟨_, _, h.1, h.2.1⟩
theorem follow_lt (b : UInt8) : (S.follow b).1 ≤ 3 ∧ (S.follow b).2.1 ≤ 255 ∧ (S.follow b).2.2 ≤ 255 := by
  unfold S.follow
  repeat' split
  all_goals decide
set_option maxRecDepth 100000 in
set_option maxHeartbeats 1600000 in
theorem character_calls {F : Nat → Prop} {w : World} {g : Nat} {c : Sc} {acc : List UInt8} {ts : List S.Tok} {tv ov : Value} (h : SS F w g c acc ts tv ov) {i : Nat} (hs : Sane c i) (hi : i ≤ 274877906944) (hl : acc.length ≤ i + 1) (ht : ts.length ≤ 2 * i) (b : UInt8) {q : S.Cont} (ha : AtC g q c.step c.stop c.kind c.beg acc) :
    Calls Tryd.prog 97 #[.pointer (some ⟨g, 0, none⟩), .int .u8 b.toNat] w fun e w' => e = .returned (.tuple #[]) ∧ Fits F w w' g i ts (if (S.follow b).1 = 0 then .err [] 11 i else .go [] (.char q i (S.follow b).1 (S.follow b).2.1 (S.follow b).2.2)) := by
  obtain ⟨K1, K2, e1, e2⟩ := ha.mv
  obtain ⟨hi1, hf, hp, hen⟩ := hs
  subst hi1
  have qf := hide (fun W => follow_calls W b)
  have hlt := follow_lt b
  obtain ⟨n, lo, tp, hfo⟩ : ∃ n lo tp, S.follow b = (n, lo, tp) := ⟨_, _, _, rfl⟩
  rw [hfo] at qf hlt ⊢
  clear hfo
  simp only at qf hlt ⊢
  obtain ⟨hn3, hlo, htp⟩ := hlt
  have hmf : ∀ (fn : Fn) (first cap : Array Value) (w : World), (Instr.makeFunc fn first cap).run Tryd.prog w = .ok (.func fn first cap) w := fun _ _ _ _ => rfl
  obtain ⟨c0, c1, c2, -, -, -, -, c7, c8, c9, c10, c11, c12, -⟩ := h.cells
  have fz := h.frozen
  rw [e1] at c0
  rw [e2] at c1
  have h1 := (((((h.set 7 (.int .i64 c.i) { c with cbeg := c.i } rfl).set 8 (.int .i64 n) { c with cbeg := c.i, left := n } rfl).set 9 (.int .u8 lo) { c with cbeg := c.i, left := n, low := lo } rfl).set 10 (.int .u8 tp) { c with cbeg := c.i, left := n, low := lo, top := tp } rfl).set 11 (mv K1 g) { c with cbeg := c.i, left := n, low := lo, top := tp, cstep := mv K1 g } rfl).set 12 (mv K2 g) { c with cbeg := c.i, left := n, low := lo, top := tp, cstep := mv K1 g, cstop := mv K2 g } rfl
  have k1 := ((((((Kp.refl F w).set h.mine 7 (.int .i64 c.i)).set h.mine 8 (.int .i64 n)).set h.mine 9 (.int .u8 lo)).set h.mine 10 (.int .u8 tp)).set h.mine 11 (mv K1 g)).set h.mine 12 (mv K2 g)
  rw [e1, e2] at ha
  have ha0 := hide ha
  clear ha h e1 e2
  replace h1 := hide h1
  replace k1 := hide k1
  unfold mv at c0 c1 h1 k1
  by_cases hn : n = 0
  · subst hn
    rw [if_pos rfl]
    go_enter Tryd.func97, Tryd.ntmps97
    go_wp2_with (go_at_call 108; refine (qf.out _).mono ?_; rintro e w1 ⟨rfl, rfl⟩)
    go_region
    all_goals go_wp2_with (go_at_call 109; refine (noCharacter_calls (h1.out.drewN _)).mono ?_; rintro e w2 ⟨rfl, ⟨tv2, ov2, h2⟩, k2⟩)
    all_goals first | go_end0 | ((try simp only [Exit.inBlock, Exit.then]); refine bodyPost_ret (results_none rfl _ _ _) rfl ?_)
    all_goals exact ⟨rfl, fits_err h2 ⟨rfl, rfl, hen⟩ ((k1.out.drewN _).trans k2)⟩
  · rw [if_neg hn]
    have hn1 : ¬ (n : Int) = 0 := by omega
    go_enter Tryd.func97, Tryd.ntmps97
    go_wp2_with (go_at_call 108; refine (qf.out _).mono ?_; rintro e w1 ⟨rfl, rfl⟩)
    go_region
    all_goals go_wp2_with (go_at_call 50; refine (become_calls (h1.out.drewN _) 110 109).mono ?_; rintro e w2 ⟨rfl, ⟨tv2, ov2, h2⟩, k2⟩)
    all_goals first | go_end0 | ((try simp only [Exit.inBlock, Exit.then]); refine bodyPost_ret (results_none rfl _ _ _) rfl ?_)
    all_goals exact ⟨rfl, fits_on h2 ⟨rfl, rfl, rfl, rfl, rfl, rfl, ha0.out, by omega, hn3, hlo, htp⟩ ⟨rfl, hf, hp, hen⟩ hl ((k1.out.drewN _).trans k2)⟩
set_option maxRecDepth 100000 in
set_option maxHeartbeats 1600000 in
theorem content_calls {F : Nat → Prop} {w : World} {g : Nat} {c : Sc} {acc : List UInt8} {ts : List S.Tok} {tv ov : Value} (h : SS F w g c acc ts tv ov) {i : Nat} (hs : Sane c i) (hi : i ≤ 274877906944) (hl : acc.length ≤ i + 1) (ht : ts.length ≤ 2 * i) (b : UInt8) {q : S.Cont} (ha : AtC g q c.step c.stop c.kind c.beg acc) :
    Calls Tryd.prog 90 #[.pointer (some ⟨g, 0, none⟩), .int .u8 b.toNat] w fun e w' => e = .returned (.tuple #[]) ∧ Fits F w w' g i ts (if 128 ≤ b.toNat then (if (S.follow b).1 = 0 then .err [] 11 i else .go [] (.char q i (S.follow b).1 (S.follow b).2.1 (S.follow b).2.2)) else if S.ctl b then .err [] 10 i else .go [] (.cont q)) := by
  rw [cls_ctl]
  have hhi := high_iff b
  have hc : w.cell? ⟨1, b.toNat, none⟩ = some (.int .u8 (cls b.toNat)) := h.cls b.toNat (by have := UInt8.toNat_lt b; omega)
  have hb0 : (b.toNat : Int) < 256 := by have := UInt8.toNat_lt b; omega
  have a0 : w.cell? ⟨g, 2, none⟩ = some (.int .i64 i) := by rw [← hs.1]; exact h.cell 2 _ rfl
  have h0 := hide h
  have hs0 := hide hs
  have ha0 := hide ha
  clear h hs ha
  by_cases h8 : cls b.toNat = 8
  · rw [if_pos (hhi.2 h8)]
    rw [h8] at hc
    clear hhi h8
    have qq := hide (character_calls h0.out hs0.out hi hl ht b ha0.out)
    generalize (if (S.follow b).1 = 0 then .err [] 11 i else .go [] (.char q i (S.follow b).1 (S.follow b).2.1 (S.follow b).2.2) : S.Res) = R at qq ⊢
    go_enter Tryd.func90, Tryd.ntmps90
    go_wp2_with (go_at_call 97; refine qq.out.mono ?_; rintro e w1 ⟨rfl, q1⟩)
    first | go_end0 | ((try simp only [Exit.inBlock, Exit.then]); refine bodyPost_ret (results_none rfl _ _ _) rfl ?_)
    exact ⟨rfl, q1⟩
  · rw [if_neg (fun e => h8 (hhi.1 e))]
    clear hhi
    by_cases h5 : cls b.toNat = 5
    · rw [decide_eq_true h5, if_pos rfl]
      rw [h5] at hc
      clear h5 h8
      go_enter Tryd.func90, Tryd.ntmps90
      go_wp2_with (go_at_call 60; refine (fail_calls h0.out 10 i).mono ?_; rintro e w1 ⟨rfl, ⟨tv1, ov1, h1⟩, k1⟩)
      first | go_end0 | ((try simp only [Exit.inBlock, Exit.then]); refine bodyPost_ret (results_none rfl _ _ _) rfl ?_)
      exact ⟨rfl, fits_err h1 ⟨rfl, rfl, hs0.out.2.2.2⟩ k1⟩
    · rw [decide_eq_false h5, if_neg (by simp)]
      have h81 : ¬ (cls b.toNat : Int) = 8 := by omega
      have h51 : ¬ (cls b.toNat : Int) = 5 := by omega
      go_enter Tryd.func90, Tryd.ntmps90
      go_wp2
      first | go_end0 | ((try simp only [Exit.inBlock, Exit.then]); refine bodyPost_ret (results_none rfl _ _ _) rfl ?_)
      exact ⟨rfl, fits_on h0.out ha0.out hs0.out hl (Kp.refl F w)⟩
set_option maxRecDepth 100000 in
set_option maxHeartbeats 1600000 in
theorem inComment_calls {F : Nat → Prop} {w : World} {g : Nat} {c : Sc} {acc : List UInt8} {ts : List S.Tok} {tv ov : Value} (h : SS F w g c acc ts tv ov) {i : Nat} (hs : Sane c i) (hi : i ≤ 274877906944) (hl : acc.length ≤ i) (ht : ts.length ≤ 2 * i) (b : UInt8) (ha : AtC g .comment c.step c.stop c.kind c.beg acc) :
    Calls Tryd.prog 80 #[.pointer (some ⟨g, 0, none⟩), .int .u8 b.toNat] w fun e w' => e = .returned (.tuple #[]) ∧ Fits F w w' g i ts (S.stepCont .comment b i) := by
  have a0 : w.cell? ⟨g, 2, none⟩ = some (.int .i64 i) := by rw [← hs.1]; exact h.cell 2 _ rfl
  have hmf : ∀ (fn : Fn) (first cap : Array Value) (w : World), (Instr.makeFunc fn first cap).run Tryd.prog w = .ok (.func fn first cap) w := fun _ _ _ _ => rfl
  have h0 := hide h
  have hs0 := hide hs
  clear h hs
  have e : S.stepCont .comment b i = if b = 10 ∨ b = 13 then .go [] .idle else S.content .comment b i := rfl
  rw [e]
  clear e
  have ha0 := hide ha
  clear ha
  by_cases c10 : b = 10
  · rw [if_pos (by simp [c10])]
    subst c10
    go_enter Tryd.func80, Tryd.ntmps80
    go_wp2_with (first
      | (go_at_call 25; refine (idle_calls h0.out).mono ?_; rintro e w1 ⟨rfl, ⟨tv1, ov1, h1⟩, k1⟩; replace h1 := hide h1; replace k1 := hide k1))
    first | go_end0 | ((try simp only [Exit.inBlock, Exit.then]); refine bodyPost_ret (results_none rfl _ _ _) rfl ?_)
    exact ⟨rfl, fits_on h1.out ⟨rfl, rfl⟩ hs0.out (by omega) k1.out⟩
  by_cases c13 : b = 13
  · rw [if_pos (by simp [c13])]
    subst c13
    go_enter Tryd.func80, Tryd.ntmps80
    go_wp2_with (first
      | (go_at_call 25; refine (idle_calls h0.out).mono ?_; rintro e w1 ⟨rfl, ⟨tv1, ov1, h1⟩, k1⟩; replace h1 := hide h1; replace k1 := hide k1))
    first | go_end0 | ((try simp only [Exit.inBlock, Exit.then]); refine bodyPost_ret (results_none rfl _ _ _) rfl ?_)
    exact ⟨rfl, fits_on h1.out ⟨rfl, rfl⟩ hs0.out (by omega) k1.out⟩
  rw [if_neg (by simp [c10, c13])]
  have n10 : ¬ ((b.toNat : Int) = 10) := fun e => c10 (by apply UInt8.toNat_inj.1; have : b.toNat = 10 := (by omega); simpa using this)
  have n13 : ¬ ((b.toNat : Int) = 13) := fun e => c13 (by apply UInt8.toNat_inj.1; have : b.toNat = 13 := (by omega); simpa using this)
  have m10 : ((b.toNat : Int) == 10) = false := by simpa using n10
  have m13 : ((b.toNat : Int) == 13) = false := by simpa using n13
  clear c10 c13
  have q := hide (content_calls h0.out hs0.out hi (by omega) ht b (q := S.Cont.comment) ha0.out)
  go_enter Tryd.func80, Tryd.ntmps80
  go_wp2_with (go_at_call 90; refine q.out.mono ?_; rintro e w1 ⟨rfl, q1⟩)
  first | go_end0 | ((try simp only [Exit.inBlock, Exit.then]); refine bodyPost_ret (results_none rfl _ _ _) rfl ?_)
  exact ⟨rfl, q1⟩
set_option maxRecDepth 100000 in
set_option maxHeartbeats 1600000 in
theorem inString_calls {F : Nat → Prop} {w : World} {g : Nat} {c : Sc} {acc : List UInt8} {ts : List S.Tok} {tv ov : Value} (h : SS F w g c acc ts tv ov) {i : Nat} (hs : Sane c i) (hi : i ≤ 274877906944) (hl : acc.length ≤ i) (ht : ts.length ≤ 2 * i) (b : UInt8) {bg : Nat} {a : List UInt8} (ha : AtC g (.str bg a) c.step c.stop c.kind c.beg acc) :
    Calls Tryd.prog 72 #[.pointer (some ⟨g, 0, none⟩), .int .u8 b.toNat] w fun e w' => e = .returned (.tuple #[]) ∧ Fits F w w' g i ts (S.stepCont (.str bg a) b i) := by
  obtain ⟨ha1, ha2, ha3, rfl, rfl⟩ := ha
  have a0 : w.cell? ⟨g, 2, none⟩ = some (.int .i64 i) := by rw [← hs.1]; exact h.cell 2 _ rfl
  have hmf : ∀ (fn : Fn) (first cap : Array Value) (w : World), (Instr.makeFunc fn first cap).run Tryd.prog w = .ok (.func fn first cap) w := fun _ _ _ _ => rfl
  have h0 := hide h
  have hs0 := hide hs
  clear h hs
  have e : S.stepCont (.str c.beg acc) b i = if b = 34 then .go [] (.mark c.beg acc) else S.content (.str c.beg acc) b i := rfl
  rw [e]
  clear e
  replace ha1 := hide ha1
  replace ha2 := hide ha2
  by_cases c34 : b = 34
  · rw [if_pos c34]
    subst c34
    go_enter Tryd.func72, Tryd.ntmps72
    go_wp2_with (first
      | (go_at_call 50; refine (become_calls h0.out 89 66).mono ?_; rintro e w1 ⟨rfl, ⟨tv1, ov1, h1⟩, k1⟩; replace h1 := hide h1; replace k1 := hide k1))
    first | go_end0 | ((try simp only [Exit.inBlock, Exit.then]); refine bodyPost_ret (results_none rfl _ _ _) rfl ?_)
    exact ⟨rfl, fits_on h1.out ⟨rfl, rfl, ha3, rfl, rfl⟩ hs0.out (by omega) k1.out⟩
  rw [if_neg c34]
  have n34 : ¬ ((b.toNat : Int) = 34) := fun e => c34 (by apply UInt8.toNat_inj.1; have : b.toNat = 34 := (by omega); simpa using this)
  clear c34
  go_enter Tryd.func72, Tryd.ntmps72
  go_wp2_with (first
    | (go_at_call 64; refine (keep_calls h0.out b (by omega) (by omega)).mono ?_; rintro e w1 ⟨rfl, ⟨tv1, ov1, h1⟩, k1⟩; replace h1 := hide h1; replace k1 := hide k1)
    | (go_at_call 90; refine (content_calls h1.out hs0.out hi (by simp; omega) ht b (q := .str c.beg (acc ++ [b])) ⟨ha1.out, ha2.out, ha3, rfl, rfl⟩).mono ?_; rintro e w2 ⟨rfl, q2⟩))
  first | go_end0 | ((try simp only [Exit.inBlock, Exit.then]); refine bodyPost_ret (results_none rfl _ _ _) rfl ?_)
  exact ⟨rfl, fits_kp q2 k1.out⟩
set_option maxRecDepth 100000 in
set_option maxHeartbeats 1600000 in
theorem behindMark_calls {F : Nat → Prop} {w : World} {g : Nat} {c : Sc} {acc : List UInt8} {ts : List S.Tok} {tv ov : Value} (h : SS F w g c acc ts tv ov) {i : Nat} (hs : Sane c i) (hi : i ≤ 274877906944) (hl : acc.length ≤ i) (ht : ts.length ≤ 2 * i) (b : UInt8) {bg : Nat} {a : List UInt8} (ha : AtS g (.mark bg a) c acc) :
    Calls Tryd.prog 89 #[.pointer (some ⟨g, 0, none⟩), .int .u8 b.toNat] w fun e w' => e = .returned (.tuple #[]) ∧ Fits F w w' g i ts (S.step resv (.mark bg a) b i) := by
  obtain ⟨ha1, ha2, ha3, rfl, rfl⟩ := ha
  have a0 : w.cell? ⟨g, 2, none⟩ = some (.int .i64 i) := by rw [← hs.1]; exact h.cell 2 _ rfl
  have hmf : ∀ (fn : Fn) (first cap : Array Value) (w : World), (Instr.makeFunc fn first cap).run Tryd.prog w = .ok (.func fn first cap) w := fun _ _ _ _ => rfl
  have h0 := hide h
  have hs0 := hide hs
  clear h hs
  have e : S.step resv (.mark c.beg acc) b i = if b = 34 then .go [] (.cont (.str c.beg (acc ++ [b]))) else (S.stepIdle b i).pre [S.tok resv 9 c.beg i acc] := rfl
  rw [e]
  clear e ha1 ha2
  by_cases c34 : b = 34
  · rw [if_pos c34]
    subst c34
    go_enter Tryd.func89, Tryd.ntmps89
    go_wp2_with (first
      | (go_at_call 64; refine (keep_calls h0.out 34 (by omega) (by omega)).mono ?_; rintro e w1 ⟨rfl, ⟨tv1, ov1, h1⟩, k1⟩; replace h1 := hide h1; replace k1 := hide k1)
      | (go_at_call 50; refine (become_calls h1.out 72 73).mono ?_; rintro e w2 ⟨rfl, ⟨tv2, ov2, h2⟩, k2⟩; replace h2 := hide h2; replace k2 := hide k2))
    first | go_end0 | ((try simp only [Exit.inBlock, Exit.then]); refine bodyPost_ret (results_none rfl _ _ _) rfl ?_)
    exact ⟨rfl, fits_on h2.out ⟨rfl, rfl, ha3, rfl, rfl⟩ hs0.out (by simp; omega) ((k1.out).trans k2.out)⟩
  rw [if_neg c34]
  have n34 : ¬ ((b.toNat : Int) = 34) := fun e => c34 (by apply UInt8.toNat_inj.1; have : b.toNat = 34 := (by omega); simpa using this)
  clear c34
  have q := hide (pass_calls h0.out hs0.out hi hl ht b)
  rw [ha3] at q
  go_enter Tryd.func89, Tryd.ntmps89
  go_wp2_with (go_at_call 83; refine q.out.mono ?_; rintro e w1 ⟨rfl, q1⟩)
  first | go_end0 | ((try simp only [Exit.inBlock, Exit.then]); refine bodyPost_ret (results_none rfl _ _ _) rfl ?_)
  exact ⟨rfl, q1⟩
set_option maxRecDepth 100000 in
set_option maxHeartbeats 1600000 in
theorem inBars_calls {F : Nat → Prop} {w : World} {g : Nat} {c : Sc} {acc : List UInt8} {ts : List S.Tok} {tv ov : Value} (h : SS F w g c acc ts tv ov) {i : Nat} (hs : Sane c i) (hi : i ≤ 274877906944) (hl : acc.length ≤ i) (ht : ts.length ≤ 2 * i) (b : UInt8) {bg : Nat} {a : List UInt8} (ha : AtC g (.bars bg a) c.step c.stop c.kind c.beg acc) :
    Calls Tryd.prog 74 #[.pointer (some ⟨g, 0, none⟩), .int .u8 b.toNat] w fun e w' => e = .returned (.tuple #[]) ∧ Fits F w w' g i ts (S.stepCont (.bars bg a) b i) := by
  obtain ⟨ha1, ha2, ha3, rfl, rfl⟩ := ha
  have a6 : w.cell? ⟨g, 6, none⟩ = some tv := h.cell 6 _ rfl
  have cv := h.conv
  have cvd := h.drew.conv
  unfold str at cv cvd
  have a0 : w.cell? ⟨g, 2, none⟩ = some (.int .i64 i) := by rw [← hs.1]; exact h.cell 2 _ rfl
  have hmf : ∀ (fn : Fn) (first cap : Array Value) (w : World), (Instr.makeFunc fn first cap).run Tryd.prog w = .ok (.func fn first cap) w := fun _ _ _ _ => rfl
  have h0 := hide h
  have hs0 := hide hs
  clear h hs
  have e : S.stepCont (.bars c.beg acc) b i = if b = 124 then .go [⟨3, c.beg, i + 1, acc⟩] .idle else if b = 92 then .err [] 15 i else S.content (.bars c.beg acc) b i := rfl
  rw [e]
  clear e
  replace ha1 := hide ha1
  replace ha2 := hide ha2
  by_cases c124 : b = 124
  · rw [if_pos c124]
    subst c124
    have ew : IntKind.i64.wrap ((i : Int) + 1) = ((i + 1 : Nat) : Int) := by rw [IntKind.wrap_i64]; omega
    have qt := hide (tell_calls h0.out.drew ⟨acc.toArray⟩ acc (str_list acc) (i + 1) (by omega))
    rw [ha3] at qt
    go_enter Tryd.func74, Tryd.ntmps74
    go_wp2
    go_region_with (go_at_call 71; refine qt.out.mono ?_; rintro e w1 ⟨rfl, ⟨tv1, ov1, h1⟩, k1⟩; replace h1 := hide h1; replace k1 := hide k1)
    all_goals go_wp2_with (go_at_call 25; refine (idle_calls h1.out).mono ?_; rintro e w2 ⟨rfl, ⟨tv2, ov2, h2⟩, k2⟩)
    all_goals first | go_end0 | ((try simp only [Exit.inBlock, Exit.then]); refine bodyPost_ret (results_none rfl _ _ _) rfl ?_)
    all_goals exact ⟨rfl, fits_go (t := [⟨3, c.beg, i + 1, acc⟩]) h2 ⟨rfl, rfl⟩ hs0.out (by omega) ((((Kp.refl F w).drew).trans k1.out).trans k2)⟩
  rw [if_neg c124]
  have n124 : ¬ ((b.toNat : Int) = 124) := fun e => c124 (by apply UInt8.toNat_inj.1; have : b.toNat = 124 := (by omega); simpa using this)
  clear c124 cv cvd
  by_cases c92 : b = 92
  · rw [if_pos c92]
    subst c92
    go_enter Tryd.func74, Tryd.ntmps74
    go_wp2_with (go_at_call 60; refine (fail_calls h0.out 15 i).mono ?_; rintro e w1 ⟨rfl, ⟨tv1, ov1, h1⟩, k1⟩)
    first | go_end0 | ((try simp only [Exit.inBlock, Exit.then]); refine bodyPost_ret (results_none rfl _ _ _) rfl ?_)
    exact ⟨rfl, fits_err h1 ⟨rfl, rfl, hs0.out.2.2.2⟩ k1⟩
  rw [if_neg c92]
  have n92 : ¬ ((b.toNat : Int) = 92) := fun e => c92 (by apply UInt8.toNat_inj.1; have : b.toNat = 92 := (by omega); simpa using this)
  clear c92
  go_enter Tryd.func74, Tryd.ntmps74
  go_wp2_with (first
    | (go_at_call 64; refine (keep_calls h0.out b (by omega) (by omega)).mono ?_; rintro e w1 ⟨rfl, ⟨tv1, ov1, h1⟩, k1⟩; replace h1 := hide h1; replace k1 := hide k1)
    | (go_at_call 90; refine (content_calls h1.out hs0.out hi (by simp; omega) ht b (q := .bars c.beg (acc ++ [b])) ⟨ha1.out, ha2.out, ha3, rfl, rfl⟩).mono ?_; rintro e w2 ⟨rfl, q2⟩))
  first | go_end0 | ((try simp only [Exit.inBlock, Exit.then]); refine bodyPost_ret (results_none rfl _ _ _) rfl ?_)
  exact ⟨rfl, fits_kp q2 k1.out⟩
end Go.Proofs.YtjbalgjdcdmjjaaDoor
