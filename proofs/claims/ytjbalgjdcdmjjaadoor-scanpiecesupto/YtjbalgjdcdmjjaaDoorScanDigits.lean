/-
  The scanner's states: digits.
-/
import Derived.Test.YtjbalgjdcdmjjaaDoorScanNames
namespace Go.Proofs.YtjbalgjdcdmjjaaDoor
open Go.RowKit
set_option linter.unusedVariables false
theorem cls_most {m : Nat} (hm : m ≤ 2) (b : UInt8) : S.inMost m b = decide (cls b.toNat ≤ m) := by
  unfold S.inMost
  rcases (by omega : m = 0 ∨ m = 1 ∨ m = 2) with rfl | rfl | rfl
  · simp [cls_bin]
  · simp [cls_dig]
  · simp [cls_hexa]
theorem keep_at {F : Nat → Prop} {w : World} {g : Nat} {c : Sc} {acc : List UInt8} {ts : List S.Tok} {tv ov : Value} (h : SS F w g c acc ts tv ov) (b : UInt8) (n : Int) (hn : n = b.toNat) (hk : c.kind ≠ 0) (hl : acc.length ≤ 1099511627776) :
    Calls Tryd.prog 64 #[.pointer (some ⟨g, 0, none⟩), .int .u8 n] w fun e w' => e = .returned (.tuple #[]) ∧ Left F w w' g c (acc ++ [b]) ts := by
  subst hn
  exact keep_calls h b hk hl
set_option maxRecDepth 100000 in
set_option maxHeartbeats 1600000 in
theorem inDigits_calls {F : Nat → Prop} {w : World} {g : Nat} {c : Sc} {acc : List UInt8} {ts : List S.Tok} {tv ov : Value} (h : SS F w g c acc ts tv ov) {i : Nat} (hs : Sane c i) (hi : i ≤ 274877906944) (hl : acc.length ≤ i) (ht : ts.length ≤ 2 * i) (b : UInt8) {k m bg : Nat} {a : List UInt8} (ha : AtS g (.digits k m bg a) c acc) :
    Calls Tryd.prog 111 #[.pointer (some ⟨g, 0, none⟩), .int .u8 b.toNat] w fun e w' => e = .returned (.tuple #[]) ∧ Fits F w w' g i ts (S.step resv (.digits k m bg a) b i) := by
  obtain ⟨ha1, ha2, rfl, rfl, rfl, rfl, ha3, ha4⟩ := ha
  have a5 : w.cell? ⟨g, 5, none⟩ = some (.int .u8 c.most) := h.cell 5 _ rfl
  have hc : w.cell? ⟨1, b.toNat, none⟩ = some (.int .u8 (cls b.toNat)) := h.cls b.toNat (by have := UInt8.toNat_lt b; omega)
  have hb0 : (b.toNat : Int) < 256 := by have := UInt8.toNat_lt b; omega
  have a0 : w.cell? ⟨g, 2, none⟩ = some (.int .i64 i) := by rw [← hs.1]; exact h.cell 2 _ rfl
  have hmf : ∀ (fn : Fn) (first cap : Array Value) (w : World), (Instr.makeFunc fn first cap).run Tryd.prog w = .ok (.func fn first cap) w := fun _ _ _ _ => rfl
  have h0 := hide h
  have hs0 := hide hs
  clear h hs
  have e : S.step resv (.digits c.kind c.most c.beg acc) b i = if S.inMost c.most b then .go [] (.digits c.kind c.most c.beg (acc ++ [S.small b])) else S.behindNumber resv c.kind c.beg acc b i := rfl
  rw [e, cls_most ha4]
  clear e
  replace ha1 := hide ha1
  replace ha2 := hide ha2
  by_cases hq : cls b.toNat ≤ c.most
  · rw [decide_eq_true hq, if_pos rfl]
    have hq1 : (cls b.toNat : Int) ≤ c.most := by omega
    by_cases hA : 65 ≤ b.toNat
    · by_cases hB : b.toNat ≤ 70
      · have e1 : S.small b = b + 32 := by simp [S.small, hA, hB]
        have e2 : Hid ((b.toNat : Int) + 32 = ((b + 32).toNat : Nat)) := by simp only [Hid, UInt8.toNat_add]; have : (32 : UInt8).toNat = 32 := rfl; omega
        rw [e1]
        have hA1 : (65 : Int) ≤ b.toNat := by omega
        have hB1 : (b.toNat : Int) ≤ 70 := by omega
        go_enter Tryd.func111, Tryd.ntmps111
        go_wp2
        go_quiet (fail)
        go_wp2_with (go_at_call 64; refine (keep_at (h0.out.drewN _) (b + 32) _ e2.out ha3 (by omega)).mono ?_; rintro e w1 ⟨rfl, ⟨tv1, ov1, h1⟩, k1⟩; replace h1 := hide h1; replace k1 := hide k1)
        first | go_end0 | ((try simp only [Exit.inBlock, Exit.then]); refine bodyPost_ret (results_none rfl _ _ _) rfl ?_)
        exact ⟨rfl, fits_on h1.out ⟨ha1.out, ha2.out, rfl, rfl, rfl, rfl, ha3, ha4⟩ hs0.out (by simp; omega) (((Kp.refl F w).drewN _).trans k1.out)⟩
      · have e1 : S.small b = b := by simp [S.small, hB]
        rw [e1]
        have hA1 : (65 : Int) ≤ b.toNat := by omega
        have hB1 : ¬ (b.toNat : Int) ≤ 70 := by omega
        go_enter Tryd.func111, Tryd.ntmps111
        go_wp2
        go_quiet (fail)
        go_wp2_with (go_at_call 64; refine (keep_at (h0.out.drewN _) b _ rfl ha3 (by omega)).mono ?_; rintro e w1 ⟨rfl, ⟨tv1, ov1, h1⟩, k1⟩; replace h1 := hide h1; replace k1 := hide k1)
        first | go_end0 | ((try simp only [Exit.inBlock, Exit.then]); refine bodyPost_ret (results_none rfl _ _ _) rfl ?_)
        exact ⟨rfl, fits_on h1.out ⟨ha1.out, ha2.out, rfl, rfl, rfl, rfl, ha3, ha4⟩ hs0.out (by simp; omega) (((Kp.refl F w).drewN _).trans k1.out)⟩
    · have e1 : S.small b = b := by simp [S.small, hA]
      rw [e1]
      have hA1 : ¬ (65 : Int) ≤ b.toNat := by omega
      go_enter Tryd.func111, Tryd.ntmps111
      go_wp2
      go_quiet (fail)
      go_wp2_with (go_at_call 64; refine (keep_at (h0.out.drewN _) b _ rfl ha3 (by omega)).mono ?_; rintro e w1 ⟨rfl, ⟨tv1, ov1, h1⟩, k1⟩; replace h1 := hide h1; replace k1 := hide k1)
      first | go_end0 | ((try simp only [Exit.inBlock, Exit.then]); refine bodyPost_ret (results_none rfl _ _ _) rfl ?_)
      exact ⟨rfl, fits_on h1.out ⟨ha1.out, ha2.out, rfl, rfl, rfl, rfl, ha3, ha4⟩ hs0.out (by simp; omega) (((Kp.refl F w).drewN _).trans k1.out)⟩
  · rw [decide_eq_false hq, if_neg (by simp)]
    have hq1 : ¬ (cls b.toNat : Int) ≤ c.most := by omega
    go_enter Tryd.func111, Tryd.ntmps111
    go_wp2
    go_quiet (fail)
    go_wp2_with (go_at_call 92; refine (behindNumber_calls (h0.out.drewN _) hs0.out hi hl ht b).mono ?_; rintro e w1 ⟨rfl, q1⟩)
    first | go_end0 | ((try simp only [Exit.inBlock, Exit.then]); refine bodyPost_ret (results_none rfl _ _ _) rfl ?_)
    exact ⟨rfl, fits_kp q1 ((Kp.refl F w).drewN _)⟩
set_option maxRecDepth 100000 in
set_option maxHeartbeats 1600000 in
theorem firstDigit_calls {F : Nat → Prop} {w : World} {g : Nat} {c : Sc} {acc : List UInt8} {ts : List S.Tok} {tv ov : Value} (h : SS F w g c acc ts tv ov) {i : Nat} (hs : Sane c i) (hi : i ≤ 274877906944) (hl : acc.length ≤ i) (ht : ts.length ≤ 2 * i) (b : UInt8) {k m bg : Nat} {a : List UInt8} (ha : AtS g (.first k m bg a) c acc) :
    Calls Tryd.prog 98 #[.pointer (some ⟨g, 0, none⟩), .int .u8 b.toNat] w fun e w' => e = .returned (.tuple #[]) ∧ Fits F w w' g i ts (S.step resv (.first k m bg a) b i) := by
  obtain ⟨ha1, ha2, rfl, rfl, rfl, rfl, ha3, ha4⟩ := ha
  have a5 : w.cell? ⟨g, 5, none⟩ = some (.int .u8 c.most) := h.cell 5 _ rfl
  have hc : w.cell? ⟨1, b.toNat, none⟩ = some (.int .u8 (cls b.toNat)) := h.cls b.toNat (by have := UInt8.toNat_lt b; omega)
  have hb0 : (b.toNat : Int) < 256 := by have := UInt8.toNat_lt b; omega
  have a0 : w.cell? ⟨g, 2, none⟩ = some (.int .i64 i) := by rw [← hs.1]; exact h.cell 2 _ rfl
  have hmf : ∀ (fn : Fn) (first cap : Array Value) (w : World), (Instr.makeFunc fn first cap).run Tryd.prog w = .ok (.func fn first cap) w := fun _ _ _ _ => rfl
  have h0 := hide h
  have hs0 := hide hs
  clear h hs
  have e : S.step resv (.first c.kind c.most c.beg acc) b i = if S.inMost c.most b then .go [] (.digits c.kind c.most c.beg (acc ++ [S.small b])) else .err [] 12 i := rfl
  have e5 : S.step resv (.digits c.kind c.most c.beg acc) b i = if S.inMost c.most b then .go [] (.digits c.kind c.most c.beg (acc ++ [S.small b])) else S.behindNumber resv c.kind c.beg acc b i := rfl
  rw [e]
  clear e ha1 ha2
  have e6 := cls_most ha4 b
  rw [e6] at e5 ⊢
  clear e6
  by_cases hq : cls b.toNat ≤ c.most
  · rw [decide_eq_true hq, if_pos rfl] at e5 ⊢
    rw [← e5]
    clear e5
    have hq1 : (cls b.toNat : Int) ≤ c.most := by omega
    go_enter Tryd.func98, Tryd.ntmps98
    go_wp2
    go_quiet (fail)
    go_wp2_with (first
      | (go_at_call 50; refine (become_calls (h0.out.drewN _) 111 66).mono ?_; rintro e w1 ⟨rfl, ⟨tv1, ov1, h1⟩, k1⟩; replace h1 := hide h1; replace k1 := hide k1)
      | (go_at_call 111; refine (inDigits_calls h1.out hs0.out hi hl ht b ⟨rfl, rfl, rfl, rfl, rfl, rfl, ha3, ha4⟩).mono ?_; rintro e w2 ⟨rfl, q2⟩))
    first | go_end0 | ((try simp only [Exit.inBlock, Exit.then]); refine bodyPost_ret (results_none rfl _ _ _) rfl ?_)
    exact ⟨rfl, fits_kp q2 (((Kp.refl F w).drewN _).trans k1.out)⟩
  · rw [decide_eq_false hq, if_neg (by simp)]
    clear e5
    have hq1 : ¬ (cls b.toNat : Int) ≤ c.most := by omega
    go_enter Tryd.func98, Tryd.ntmps98
    go_wp2
    go_quiet (fail)
    go_wp2_with (go_at_call 79; refine (noNumber_calls (h0.out.drewN _)).mono ?_; rintro e w1 ⟨rfl, ⟨tv1, ov1, h1⟩, k1⟩)
    first | go_end0 | ((try simp only [Exit.inBlock, Exit.then]); refine bodyPost_ret (results_none rfl _ _ _) rfl ?_)
    exact ⟨rfl, fits_err h1 ⟨rfl, hs0.out.1, hs0.out.2.2.2⟩ (((Kp.refl F w).drewN _).trans k1)⟩
end Go.Proofs.YtjbalgjdcdmjjaaDoor
