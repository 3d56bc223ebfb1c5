/-
  The scanner's states: names, numbers.
-/
import Derived.Test.YtjbalgjdcdmjjaaDoorScanIdle
namespace Go.Proofs.YtjbalgjdcdmjjaaDoor
open Go.RowKit
set_option linter.unusedVariables false
set_option maxRecDepth 100000 in
set_option maxHeartbeats 1600000 in
theorem behindNumber_calls {F : Nat → Prop} {w : World} {g : Nat} {c : Sc} {acc : List UInt8} {ts : List S.Tok} {tv ov : Value} (h : SS F w g c acc ts tv ov) {i : Nat} (hs : Sane c i) (hi : i ≤ 274877906944) (hl : acc.length ≤ i) (ht : ts.length ≤ 2 * i) (b : UInt8) :
    Calls Tryd.prog 92 #[.pointer (some ⟨g, 0, none⟩), .int .u8 b.toNat] w fun e w' => e = .returned (.tuple #[]) ∧ Fits F w w' g i ts (S.behindNumber resv c.kind c.beg acc b i) := by
  have hc : w.cell? ⟨1, b.toNat, none⟩ = some (.int .u8 (cls b.toNat)) := h.cls b.toNat (by have := UInt8.toNat_lt b; omega)
  have hb0 : (b.toNat : Int) < 256 := by have := UInt8.toNat_lt b; omega
  have a0 : w.cell? ⟨g, 2, none⟩ = some (.int .i64 i) := by rw [← hs.1]; exact h.cell 2 _ rfl
  have hmf : ∀ (fn : Fn) (first cap : Array Value) (w : World), (Instr.makeFunc fn first cap).run Tryd.prog w = .ok (.func fn first cap) w := fun _ _ _ _ => rfl
  have h0 := hide h
  have hs0 := hide hs
  clear h hs
  unfold S.behindNumber
  rw [cls_sym]
  by_cases hq : cls b.toNat ≤ 3
  · rw [decide_eq_true hq, if_pos rfl]
    have hq1 : (cls b.toNat : Int) ≤ 3 := by omega
    go_enter Tryd.func92, Tryd.ntmps92
    go_wp2_with (go_at_call 60; refine (fail_calls h0.out 13 i).mono ?_; rintro e w1 ⟨rfl, ⟨tv1, ov1, h1⟩, k1⟩)
    first | go_end0 | ((try simp only [Exit.inBlock, Exit.then]); refine bodyPost_ret (results_none rfl _ _ _) rfl ?_)
    exact ⟨rfl, fits_err h1 ⟨rfl, rfl, hs0.out.2.2.2⟩ k1⟩
  · rw [decide_eq_false hq, if_neg (by simp)]
    have hq1 : ¬ (cls b.toNat : Int) ≤ 3 := by omega
    go_enter Tryd.func92, Tryd.ntmps92
    go_wp2_with (go_at_call 83; refine (pass_calls h0.out hs0.out hi hl ht b).mono ?_; rintro e w1 ⟨rfl, q1⟩)
    first | go_end0 | ((try simp only [Exit.inBlock, Exit.then]); refine bodyPost_ret (results_none rfl _ _ _) rfl ?_)
    exact ⟨rfl, q1⟩
set_option maxRecDepth 100000 in
set_option maxHeartbeats 1600000 in
theorem inName_calls {F : Nat → Prop} {w : World} {g : Nat} {c : Sc} {acc : List UInt8} {ts : List S.Tok} {tv ov : Value} (h : SS F w g c acc ts tv ov) {i : Nat} (hs : Sane c i) (hi : i ≤ 274877906944) (hl : acc.length ≤ i) (ht : ts.length ≤ 2 * i) (b : UInt8) {k bg : Nat} {a : List UInt8} (ha : AtS g (.name k bg a) c acc) :
    Calls Tryd.prog 65 #[.pointer (some ⟨g, 0, none⟩), .int .u8 b.toNat] w fun e w' => e = .returned (.tuple #[]) ∧ Fits F w w' g i ts (S.step resv (.name k bg a) b i) := by
  obtain ⟨ha1, ha2, rfl, rfl, rfl, ha3⟩ := ha
  have hc : w.cell? ⟨1, b.toNat, none⟩ = some (.int .u8 (cls b.toNat)) := h.cls b.toNat (by have := UInt8.toNat_lt b; omega)
  have hb0 : (b.toNat : Int) < 256 := by have := UInt8.toNat_lt b; omega
  have a0 : w.cell? ⟨g, 2, none⟩ = some (.int .i64 i) := by rw [← hs.1]; exact h.cell 2 _ rfl
  have hmf : ∀ (fn : Fn) (first cap : Array Value) (w : World), (Instr.makeFunc fn first cap).run Tryd.prog w = .ok (.func fn first cap) w := fun _ _ _ _ => rfl
  have h0 := hide h
  have hs0 := hide hs
  clear h hs
  have e : S.step resv (.name c.kind c.beg acc) b i = if S.sym b then .go [] (.name c.kind c.beg (acc ++ [b])) else (S.stepIdle b i).pre [S.tok resv c.kind c.beg i acc] := rfl
  rw [e, cls_sym]
  clear e
  by_cases hq : cls b.toNat ≤ 3
  · rw [decide_eq_true hq, if_pos rfl]
    have hq1 : (cls b.toNat : Int) ≤ 3 := by omega
    replace ha1 := hide ha1
    replace ha2 := hide ha2
    go_enter Tryd.func65, Tryd.ntmps65
    go_wp2_with (first
      | (go_at_call 64; refine (keep_calls h0.out b ha3 (by omega)).mono ?_; rintro e w1 ⟨rfl, ⟨tv1, ov1, h1⟩, k1⟩; replace h1 := hide h1; replace k1 := hide k1))
    first | go_end0 | ((try simp only [Exit.inBlock, Exit.then]); refine bodyPost_ret (results_none rfl _ _ _) rfl ?_)
    exact ⟨rfl, fits_on h1.out ⟨ha1.out, ha2.out, rfl, rfl, rfl, ha3⟩ hs0.out (by simp; omega) k1.out⟩
  · rw [decide_eq_false hq, if_neg (by simp)]
    have hq1 : ¬ (cls b.toNat : Int) ≤ 3 := by omega
    clear ha1 ha2
    go_enter Tryd.func65, Tryd.ntmps65
    go_wp2_with (go_at_call 83; refine (pass_calls h0.out hs0.out hi hl ht b).mono ?_; rintro e w1 ⟨rfl, q1⟩)
    first | go_end0 | ((try simp only [Exit.inBlock, Exit.then]); refine bodyPost_ret (results_none rfl _ _ _) rfl ?_)
    exact ⟨rfl, q1⟩
set_option maxRecDepth 100000 in
set_option maxHeartbeats 1600000 in
theorem behindColon_calls {F : Nat → Prop} {w : World} {g : Nat} {c : Sc} {acc : List UInt8} {ts : List S.Tok} {tv ov : Value} (h : SS F w g c acc ts tv ov) {i : Nat} (hs : Sane c i) (hi : i ≤ 274877906944) (hl : acc.length ≤ i) (ht : ts.length ≤ 2 * i) (b : UInt8) {bg : Nat} (ha : AtS g (.colon bg) c acc) :
    Calls Tryd.prog 76 #[.pointer (some ⟨g, 0, none⟩), .int .u8 b.toNat] w fun e w' => e = .returned (.tuple #[]) ∧ Fits F w w' g i ts (S.step resv (.colon bg) b i) := by
  obtain ⟨ha1, ha2, ha3, rfl, rfl⟩ := ha
  have hc : w.cell? ⟨1, b.toNat, none⟩ = some (.int .u8 (cls b.toNat)) := h.cls b.toNat (by have := UInt8.toNat_lt b; omega)
  have hb0 : (b.toNat : Int) < 256 := by have := UInt8.toNat_lt b; omega
  have a0 : w.cell? ⟨g, 2, none⟩ = some (.int .i64 i) := by rw [← hs.1]; exact h.cell 2 _ rfl
  have hmf : ∀ (fn : Fn) (first cap : Array Value) (w : World), (Instr.makeFunc fn first cap).run Tryd.prog w = .ok (.func fn first cap) w := fun _ _ _ _ => rfl
  have h0 := hide h
  have hs0 := hide hs
  clear h hs
  have e : S.step resv (.colon c.beg) b i = if S.sym b ∧ ¬ S.dig b then .go [] (.name 10 c.beg [b]) else .err [] 16 i := rfl
  rw [e, cls_sym, cls_dig]
  clear e ha1 ha2
  by_cases hq : cls b.toNat ≤ 1
  · rw [if_neg (by simp; omega)]
    have hq1 : (cls b.toNat : Int) ≤ 1 := by omega
    have q := hide (noKeyword_calls h0.out)
    rw [hs0.out.1] at q
    go_enter Tryd.func76, Tryd.ntmps76
    go_wp2_with (go_at_call 77; refine q.out.mono ?_; rintro e w1 ⟨rfl, ⟨tv1, ov1, h1⟩, k1⟩)
    first | go_end0 | ((try simp only [Exit.inBlock, Exit.then]); refine bodyPost_ret (results_none rfl _ _ _) rfl ?_)
    exact ⟨rfl, fits_err h1 ⟨rfl, rfl, hs0.out.2.2.2⟩ k1⟩
  · have hq1 : ¬ (cls b.toNat : Int) ≤ 1 := by omega
    by_cases hr : cls b.toNat ≤ 3
    · rw [if_pos (by simp; omega)]
      have hr1 : (cls b.toNat : Int) ≤ 3 := by omega
      go_enter Tryd.func76, Tryd.ntmps76
      go_wp2_with (first
        | (go_at_call 64; refine (keep_calls h0.out b (by omega) (by simp)).mono ?_; rintro e w1 ⟨rfl, ⟨tv1, ov1, h1⟩, k1⟩; replace h1 := hide h1; replace k1 := hide k1)
        | (go_at_call 50; refine (become_calls h1.out 65 66).mono ?_; rintro e w2 ⟨rfl, ⟨tv2, ov2, h2⟩, k2⟩; replace h2 := hide h2; replace k2 := hide k2))
      first | go_end0 | ((try simp only [Exit.inBlock, Exit.then]); refine bodyPost_ret (results_none rfl _ _ _) rfl ?_)
      exact ⟨rfl, fits_on h2.out ⟨rfl, rfl, ha3, rfl, rfl, by decide⟩ hs0.out (by simp) ((k1.out).trans k2.out)⟩
    · rw [if_neg (by simp; omega)]
      have hr1 : ¬ (cls b.toNat : Int) ≤ 3 := by omega
      have q := hide (noKeyword_calls h0.out)
      rw [hs0.out.1] at q
      go_enter Tryd.func76, Tryd.ntmps76
      go_wp2_with (go_at_call 77; refine q.out.mono ?_; rintro e w1 ⟨rfl, ⟨tv1, ov1, h1⟩, k1⟩)
      first | go_end0 | ((try simp only [Exit.inBlock, Exit.then]); refine bodyPost_ret (results_none rfl _ _ _) rfl ?_)
      exact ⟨rfl, fits_err h1 ⟨rfl, rfl, hs0.out.2.2.2⟩ k1⟩
set_option maxRecDepth 100000 in
theorem want_calls {F : Nat → Prop} {w : World} {g : Nat} {c : Sc} {acc : List UInt8} {ts : List S.Tok} {tv ov : Value} (h : SS F w g c acc ts tv ov) (k m : Nat) :
    Calls Tryd.prog 91 #[.pointer (some ⟨g, 0, none⟩), .int .i64 k, .int .u8 m] w fun e w' => e = .returned (.tuple #[]) ∧ Left F w w' g { c with kind := k, most := m, step := mv 98 g, stop := mv 79 g } acc ts := by
  have hmf : ∀ (fn : Fn) (first cap : Array Value) (w : World), (Instr.makeFunc fn first cap).run Tryd.prog w = .ok (.func fn first cap) w := fun _ _ _ _ => rfl
  obtain ⟨-, -, -, -, c4, c5, -⟩ := h.cells
  have fz := h.frozen
  have h0 := hide ((h.set 4 (.int .i64 k) { c with kind := k } rfl).set 5 (.int .u8 m) { c with kind := k, most := m } rfl)
  have k0 := hide (((Kp.refl F w).set h.mine 4 (.int .i64 k)).set h.mine 5 (.int .u8 m))
  clear h
  go_enter Tryd.func91, Tryd.ntmps91
  go_wp2_with (first
    | (go_at_call 50; refine (become_calls h0.out 98 79).mono ?_; rintro e w1 ⟨rfl, ⟨tv1, ov1, h1⟩, k1⟩; replace h1 := hide h1; replace k1 := hide k1))
  first | go_end0 | ((try simp only [Exit.inBlock, Exit.then]); refine bodyPost_ret (results_none rfl _ _ _) rfl ?_)
  exact ⟨rfl, ⟨_, _, h1.out⟩, k0.out.trans k1.out⟩
set_option maxRecDepth 100000 in
set_option maxHeartbeats 1600000 in
theorem behindNumeral_calls {F : Nat → Prop} {w : World} {g : Nat} {c : Sc} {acc : List UInt8} {ts : List S.Tok} {tv ov : Value} (h : SS F w g c acc ts tv ov) {i : Nat} (hs : Sane c i) (hi : i ≤ 274877906944) (hl : acc.length ≤ i) (ht : ts.length ≤ 2 * i) (b : UInt8) (hk : c.kind = 5) :
    Calls Tryd.prog 81 #[.pointer (some ⟨g, 0, none⟩), .int .u8 b.toNat] w fun e w' => e = .returned (.tuple #[]) ∧ Fits F w w' g i ts (S.stepZero resv c.beg acc b i) := by
  have a0 : w.cell? ⟨g, 2, none⟩ = some (.int .i64 i) := by rw [← hs.1]; exact h.cell 2 _ rfl
  have hmf : ∀ (fn : Fn) (first cap : Array Value) (w : World), (Instr.makeFunc fn first cap).run Tryd.prog w = .ok (.func fn first cap) w := fun _ _ _ _ => rfl
  have h0 := hide h
  have hs0 := hide hs
  clear h hs
  unfold S.stepZero
  by_cases hq : b = 46
  · subst hq
    rw [if_pos rfl]
    go_enter Tryd.func81, Tryd.ntmps81
    go_wp2_with (first
      | (go_at_call 64; refine (keep_calls h0.out 46 (by omega) (by omega)).mono ?_; rintro e w1 ⟨rfl, ⟨tv1, ov1, h1⟩, k1⟩; replace h1 := hide h1; replace k1 := hide k1)
      | (go_at_call 91; refine (want_calls h1.out 6 1).mono ?_; rintro e w2 ⟨rfl, ⟨tv2, ov2, h2⟩, k2⟩; replace h2 := hide h2; replace k2 := hide k2))
    first | go_end0 | ((try simp only [Exit.inBlock, Exit.then]); refine bodyPost_ret (results_none rfl _ _ _) rfl ?_)
    exact ⟨rfl, fits_on h2.out ⟨rfl, rfl, rfl, rfl, rfl, rfl, by decide, by decide⟩ hs0.out (by simp; omega) ((k1.out).trans k2.out)⟩
  · rw [if_neg hq]
    have hq1 : ¬ ((b.toNat : Int) = 46) := fun e => hq (by apply UInt8.toNat_inj.1; have : b.toNat = 46 := (by omega); simpa using this)
    clear hq
    have q := hide (behindNumber_calls h0.out hs0.out hi hl ht b)
    rw [hk] at q
    go_enter Tryd.func81, Tryd.ntmps81
    go_wp2_with (go_at_call 92; refine q.out.mono ?_; rintro e w1 ⟨rfl, q1⟩)
    first | go_end0 | ((try simp only [Exit.inBlock, Exit.then]); refine bodyPost_ret (results_none rfl _ _ _) rfl ?_)
    exact ⟨rfl, q1⟩
set_option maxRecDepth 100000 in
set_option maxHeartbeats 1600000 in
theorem inNumeral_calls {F : Nat → Prop} {w : World} {g : Nat} {c : Sc} {acc : List UInt8} {ts : List S.Tok} {tv ov : Value} (h : SS F w g c acc ts tv ov) {i : Nat} (hs : Sane c i) (hi : i ≤ 274877906944) (hl : acc.length ≤ i) (ht : ts.length ≤ 2 * i) (b : UInt8) {bg : Nat} {a : List UInt8} (ha : AtS g (.numeral bg a) c acc) :
    Calls Tryd.prog 82 #[.pointer (some ⟨g, 0, none⟩), .int .u8 b.toNat] w fun e w' => e = .returned (.tuple #[]) ∧ Fits F w w' g i ts (S.step resv (.numeral bg a) b i) := by
  obtain ⟨ha1, ha2, ha3, rfl, rfl⟩ := ha
  have hc : w.cell? ⟨1, b.toNat, none⟩ = some (.int .u8 (cls b.toNat)) := h.cls b.toNat (by have := UInt8.toNat_lt b; omega)
  have hb0 : (b.toNat : Int) < 256 := by have := UInt8.toNat_lt b; omega
  have a0 : w.cell? ⟨g, 2, none⟩ = some (.int .i64 i) := by rw [← hs.1]; exact h.cell 2 _ rfl
  have hmf : ∀ (fn : Fn) (first cap : Array Value) (w : World), (Instr.makeFunc fn first cap).run Tryd.prog w = .ok (.func fn first cap) w := fun _ _ _ _ => rfl
  have h0 := hide h
  have hs0 := hide hs
  clear h hs
  have e : S.step resv (.numeral c.beg acc) b i = if S.dig b then .go [] (.numeral c.beg (acc ++ [b])) else S.stepZero resv c.beg acc b i := rfl
  rw [e, cls_dig]
  clear e
  replace ha1 := hide ha1
  replace ha2 := hide ha2
  by_cases hq : cls b.toNat ≤ 1
  · rw [decide_eq_true hq, if_pos rfl]
    have hq1 : (cls b.toNat : Int) ≤ 1 := by omega
    go_enter Tryd.func82, Tryd.ntmps82
    go_wp2_with (first
      | (go_at_call 64; refine (keep_calls h0.out b (by omega) (by omega)).mono ?_; rintro e w1 ⟨rfl, ⟨tv1, ov1, h1⟩, k1⟩; replace h1 := hide h1; replace k1 := hide k1))
    first | go_end0 | ((try simp only [Exit.inBlock, Exit.then]); refine bodyPost_ret (results_none rfl _ _ _) rfl ?_)
    exact ⟨rfl, fits_on h1.out ⟨ha1.out, ha2.out, ha3, rfl, rfl⟩ hs0.out (by simp; omega) k1.out⟩
  · rw [decide_eq_false hq, if_neg (by simp)]
    have hq1 : ¬ (cls b.toNat : Int) ≤ 1 := by omega
    go_enter Tryd.func82, Tryd.ntmps82
    go_wp2_with (go_at_call 81; refine (behindNumeral_calls h0.out hs0.out hi hl ht b ha3).mono ?_; rintro e w1 ⟨rfl, q1⟩)
    first | go_end0 | ((try simp only [Exit.inBlock, Exit.then]); refine bodyPost_ret (results_none rfl _ _ _) rfl ?_)
    exact ⟨rfl, q1⟩
set_option maxRecDepth 100000 in
set_option maxHeartbeats 1600000 in
theorem behindHash_calls {F : Nat → Prop} {w : World} {g : Nat} {c : Sc} {acc : List UInt8} {ts : List S.Tok} {tv ov : Value} (h : SS F w g c acc ts tv ov) {i : Nat} (hs : Sane c i) (hi : i ≤ 274877906944) (hl : acc.length ≤ i) (ht : ts.length ≤ 2 * i) (b : UInt8) {bg : Nat} (ha : AtS g (.hash bg) c acc) :
    Calls Tryd.prog 78 #[.pointer (some ⟨g, 0, none⟩), .int .u8 b.toNat] w fun e w' => e = .returned (.tuple #[]) ∧ Fits F w w' g i ts (S.step resv (.hash bg) b i) := by
  obtain ⟨ha1, ha2, ha3, rfl, rfl⟩ := ha
  have a0 : w.cell? ⟨g, 2, none⟩ = some (.int .i64 i) := by rw [← hs.1]; exact h.cell 2 _ rfl
  have hmf : ∀ (fn : Fn) (first cap : Array Value) (w : World), (Instr.makeFunc fn first cap).run Tryd.prog w = .ok (.func fn first cap) w := fun _ _ _ _ => rfl
  have h0 := hide h
  have hs0 := hide hs
  clear h hs
  have e : S.step resv (.hash c.beg) b i = if b = 120 then .go [] (.first 7 2 c.beg [35, b]) else if b = 98 then .go [] (.first 8 0 c.beg [35, b]) else .err [] 12 i := rfl
  rw [e]
  clear e ha1 ha2
  have hl1 : ([35] : List UInt8).length ≤ 1099511627776 := by simp
  by_cases hq120 : b = 120
  · subst hq120
    rw [if_pos rfl]
    go_enter Tryd.func78, Tryd.ntmps78
    go_wp2_with (first
      | (go_at_call 64; refine (keep_calls h0.out 120 (by omega) hl1).mono ?_; rintro e w1 ⟨rfl, ⟨tv1, ov1, h1⟩, k1⟩; replace h1 := hide h1; replace k1 := hide k1)
      | (go_at_call 91; refine (want_calls h1.out 7 2).mono ?_; rintro e w2 ⟨rfl, ⟨tv2, ov2, h2⟩, k2⟩; replace h2 := hide h2; replace k2 := hide k2))
    first | go_end0 | ((try simp only [Exit.inBlock, Exit.then]); refine bodyPost_ret (results_none rfl _ _ _) rfl ?_)
    exact ⟨rfl, fits_on h2.out ⟨rfl, rfl, rfl, rfl, rfl, rfl, by decide, by decide⟩ hs0.out (by simp at hl ⊢; omega) ((k1.out).trans k2.out)⟩
  by_cases hq98 : b = 98
  · subst hq98
    rw [if_neg (by decide), if_pos rfl]
    go_enter Tryd.func78, Tryd.ntmps78
    go_wp2_with (first
      | (go_at_call 64; refine (keep_calls h0.out 98 (by omega) hl1).mono ?_; rintro e w1 ⟨rfl, ⟨tv1, ov1, h1⟩, k1⟩; replace h1 := hide h1; replace k1 := hide k1)
      | (go_at_call 91; refine (want_calls h1.out 8 0).mono ?_; rintro e w2 ⟨rfl, ⟨tv2, ov2, h2⟩, k2⟩; replace h2 := hide h2; replace k2 := hide k2))
    first | go_end0 | ((try simp only [Exit.inBlock, Exit.then]); refine bodyPost_ret (results_none rfl _ _ _) rfl ?_)
    exact ⟨rfl, fits_on h2.out ⟨rfl, rfl, rfl, rfl, rfl, rfl, by decide, by decide⟩ hs0.out (by simp at hl ⊢; omega) ((k1.out).trans k2.out)⟩
  rw [if_neg hq120, if_neg hq98]
  have hq1201 : ¬ ((b.toNat : Int) = 120) := fun e => hq120 (by apply UInt8.toNat_inj.1; have : b.toNat = 120 := (by omega); simpa using this)
  clear hq120
  have hq981 : ¬ ((b.toNat : Int) = 98) := fun e => hq98 (by apply UInt8.toNat_inj.1; have : b.toNat = 98 := (by omega); simpa using this)
  clear hq98
  go_enter Tryd.func78, Tryd.ntmps78
  go_wp2_with (first
    | (go_at_call 64; refine (keep_calls h0.out b (by omega) hl1).mono ?_; rintro e w1 ⟨rfl, ⟨tv1, ov1, h1⟩, k1⟩; replace h1 := hide h1; replace k1 := hide k1)
    | (go_at_call 79; refine (noNumber_calls h1.out).mono ?_; rintro e w2 ⟨rfl, ⟨tv2, ov2, h2⟩, k2⟩))
  first | go_end0 | ((try simp only [Exit.inBlock, Exit.then]); refine bodyPost_ret (results_none rfl _ _ _) rfl ?_)
  exact ⟨rfl, fits_err h2 ⟨rfl, hs0.out.1, hs0.out.2.2.2⟩ (k1.out.trans k2)⟩
end Go.Proofs.YtjbalgjdcdmjjaaDoor
