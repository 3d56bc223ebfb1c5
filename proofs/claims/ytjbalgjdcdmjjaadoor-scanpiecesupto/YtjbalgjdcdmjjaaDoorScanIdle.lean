/-
  The scanner's methods sign, between, pass.
-/
import Derived.Test.YtjbalgjdcdmjjaaDoorScanSign
namespace Go.Proofs.YtjbalgjdcdmjjaaDoor
open Go.RowKit
set_option linter.unusedVariables false
set_option maxRecDepth 100000 in
set_option maxHeartbeats 1600000 in
theorem sign_calls {F : Nat → Prop} {w : World} {g : Nat} {c : Sc} {acc : List UInt8} {ts : List S.Tok} {tv ov : Value} (h : SS F w g c acc ts tv ov) {i : Nat} (hs : Sane c i) (hi : i ≤ 274877906944) (hl : acc.length ≤ i) (ht : ts.length ≤ 2 * i + 1) (b : UInt8) (ha : AtS g .idle c acc) (hb : cls b.toNat = 7) :
    Calls Tryd.prog 61 #[.pointer (some ⟨g, 0, none⟩), .int .u8 b.toNat] w fun e w' => e = .returned (.tuple #[]) ∧ Fits F w w' g i ts (S.stepIdle b i) := by
  rcases sign_cases hb with rfl | rfl | rfl | rfl | rfl | rfl | rfl
  · exact sign_40 h hs hi hl ht ha
  · exact sign_41 h hs hi hl ht ha
  · exact sign_34 h hs hi hl ht
  · exact sign_124 h hs hi hl ht
  · exact sign_58 h hs hi hl ht
  · exact sign_35 h hs hi hl ht
  · exact sign_59 h hs hi hl ht
set_option maxRecDepth 100000 in
set_option maxHeartbeats 1600000 in
theorem between_calls {F : Nat → Prop} {w : World} {g : Nat} {c : Sc} {acc : List UInt8} {ts : List S.Tok} {tv ov : Value} (h : SS F w g c acc ts tv ov) {i : Nat} (hs : Sane c i) (hi : i ≤ 274877906944) (hl : acc.length ≤ i) (ht : ts.length ≤ 2 * i + 1) (b : UInt8) (ha : AtS g .idle c acc) :
    Calls Tryd.prog 51 #[.pointer (some ⟨g, 0, none⟩), .int .u8 b.toNat] w fun e w' => e = .returned (.tuple #[]) ∧ Fits F w w' g i ts (S.stepIdle b i) := by
  have hc : w.cell? ⟨1, b.toNat, none⟩ = some (.int .u8 (cls b.toNat)) := h.cls b.toNat (by have := UInt8.toNat_lt b; omega)
  have hb0 : (b.toNat : Int) < 256 := by have := UInt8.toNat_lt b; omega
  have hle := cls_le b
  have hcs : cls b.toNat = 0 ∨ cls b.toNat = 1 ∨ cls b.toNat = 2 ∨ cls b.toNat = 3 ∨ cls b.toNat = 4 ∨ cls b.toNat = 5 ∨ cls b.toNat = 6 ∨ cls b.toNat = 7 ∨ cls b.toNat = 8 := by omega
  have hmf : ∀ (fn : Fn) (first cap : Array Value) (w : World), (Instr.makeFunc fn first cap).run Tryd.prog w = .ok (.func fn first cap) w := fun _ _ _ _ => rfl
  have h0 := hide h
  have hs0 := hide hs
  have ha0 := hide ha
  have a0 : w.cell? ⟨g, 2, none⟩ = some (.int .i64 i) := by rw [← hs.1]; exact h.cell 2 _ rfl
  clear h ha hle
  rcases hcs with h8 | h8 | h8 | h8 | h8 | h8 | h8 | h8 | h8
  · rw [idle_digit (by omega)]
    rw [h8] at hc
    clear h8
    by_cases hz : b = 48
    · rw [if_pos hz]
      have hz0 := hide hz
      clear hz
      go_enter Tryd.func51, Tryd.ntmps51
      go_wp2_with (go_at_call 62; refine (number_zero h0.out hs0.out hi hl ht b hz0.out).mono ?_; rintro e w1 ⟨rfl, q1⟩)
      first | go_end0 | ((try simp only [Exit.inBlock, Exit.then]); refine bodyPost_ret (results_none rfl _ _ _) rfl ?_)
      exact ⟨rfl, q1⟩
    · rw [if_neg hz]
      have hz0 := hide hz
      clear hz
      go_enter Tryd.func51, Tryd.ntmps51
      go_wp2_with (go_at_call 62; refine (number_digit h0.out hs0.out hi hl ht b hz0.out).mono ?_; rintro e w1 ⟨rfl, q1⟩)
      first | go_end0 | ((try simp only [Exit.inBlock, Exit.then]); refine bodyPost_ret (results_none rfl _ _ _) rfl ?_)
      exact ⟨rfl, q1⟩
  · rw [idle_digit (by omega)]
    rw [h8] at hc
    clear h8
    by_cases hz : b = 48
    · rw [if_pos hz]
      have hz0 := hide hz
      clear hz
      go_enter Tryd.func51, Tryd.ntmps51
      go_wp2_with (go_at_call 62; refine (number_zero h0.out hs0.out hi hl ht b hz0.out).mono ?_; rintro e w1 ⟨rfl, q1⟩)
      first | go_end0 | ((try simp only [Exit.inBlock, Exit.then]); refine bodyPost_ret (results_none rfl _ _ _) rfl ?_)
      exact ⟨rfl, q1⟩
    · rw [if_neg hz]
      have hz0 := hide hz
      clear hz
      go_enter Tryd.func51, Tryd.ntmps51
      go_wp2_with (go_at_call 62; refine (number_digit h0.out hs0.out hi hl ht b hz0.out).mono ?_; rintro e w1 ⟨rfl, q1⟩)
      first | go_end0 | ((try simp only [Exit.inBlock, Exit.then]); refine bodyPost_ret (results_none rfl _ _ _) rfl ?_)
      exact ⟨rfl, q1⟩
  · rw [idle_name (by omega)]
    rw [h8] at hc
    clear h8
    go_enter Tryd.func51, Tryd.ntmps51
    go_wp2_with (first
      | (go_at_call 63; refine (open_calls h0.out 3).mono ?_; rintro e w1 ⟨rfl, ⟨tv1, ov1, h1⟩, k1⟩; replace h1 := hide h1; replace k1 := hide k1)
      | (go_at_call 64; refine (keep_calls h1.out b (by simp) (by simp)).mono ?_; rintro e w2 ⟨rfl, ⟨tv2, ov2, h2⟩, k2⟩; replace h2 := hide h2; replace k2 := hide k2)
      | (go_at_call 50; refine (become_calls h2.out 65 66).mono ?_; rintro e w3 ⟨rfl, ⟨tv3, ov3, h3⟩, k3⟩; replace h3 := hide h3; replace k3 := hide k3))
    first | go_end0 | ((try simp only [Exit.inBlock, Exit.then]); refine bodyPost_ret (results_none rfl _ _ _) rfl ?_)
    obtain ⟨hi1, hf, hp, hen⟩ := hs0.out
    exact ⟨rfl, fits_on h3.out ⟨rfl, rfl, rfl, hi1, rfl, by decide⟩ ⟨hi1, hf, hp, hen⟩ (by simp) (((k1.out).trans k2.out).trans k3.out)⟩
  · rw [idle_name (by omega)]
    rw [h8] at hc
    clear h8
    go_enter Tryd.func51, Tryd.ntmps51
    go_wp2_with (first
      | (go_at_call 63; refine (open_calls h0.out 3).mono ?_; rintro e w1 ⟨rfl, ⟨tv1, ov1, h1⟩, k1⟩; replace h1 := hide h1; replace k1 := hide k1)
      | (go_at_call 64; refine (keep_calls h1.out b (by simp) (by simp)).mono ?_; rintro e w2 ⟨rfl, ⟨tv2, ov2, h2⟩, k2⟩; replace h2 := hide h2; replace k2 := hide k2)
      | (go_at_call 50; refine (become_calls h2.out 65 66).mono ?_; rintro e w3 ⟨rfl, ⟨tv3, ov3, h3⟩, k3⟩; replace h3 := hide h3; replace k3 := hide k3))
    first | go_end0 | ((try simp only [Exit.inBlock, Exit.then]); refine bodyPost_ret (results_none rfl _ _ _) rfl ?_)
    obtain ⟨hi1, hf, hp, hen⟩ := hs0.out
    exact ⟨rfl, fits_on h3.out ⟨rfl, rfl, rfl, hi1, rfl, by decide⟩ ⟨hi1, hf, hp, hen⟩ (by simp) (((k1.out).trans k2.out).trans k3.out)⟩
  · rw [idle_white h8]
    rw [h8] at hc
    clear h8
    go_enter Tryd.func51, Tryd.ntmps51
    go_wp2
    first | go_end0 | ((try simp only [Exit.inBlock, Exit.then]); refine bodyPost_ret (results_none rfl _ _ _) rfl ?_)
    exact ⟨rfl, fits_on h0.out ha0.out hs0.out (by omega) (Kp.refl F w)⟩
  · rw [idle_bad (by omega)]
    rw [h8] at hc
    clear h8
    go_enter Tryd.func51, Tryd.ntmps51
    go_wp2_with (go_at_call 60; refine (fail_calls h0.out 10 i).mono ?_; rintro e w1 ⟨rfl, ⟨tv1, ov1, h1⟩, k1⟩)
    first | go_end0 | ((try simp only [Exit.inBlock, Exit.then]); refine bodyPost_ret (results_none rfl _ _ _) rfl ?_)
    exact ⟨rfl, fits_err h1 ⟨rfl, rfl, hs0.out.2.2.2⟩ k1⟩
  · rw [idle_bad (by omega)]
    rw [h8] at hc
    clear h8
    go_enter Tryd.func51, Tryd.ntmps51
    go_wp2_with (go_at_call 60; refine (fail_calls h0.out 10 i).mono ?_; rintro e w1 ⟨rfl, ⟨tv1, ov1, h1⟩, k1⟩)
    first | go_end0 | ((try simp only [Exit.inBlock, Exit.then]); refine bodyPost_ret (results_none rfl _ _ _) rfl ?_)
    exact ⟨rfl, fits_err h1 ⟨rfl, rfl, hs0.out.2.2.2⟩ k1⟩
  · rw [h8] at hc
    have h80 := hide h8
    clear h8
    go_enter Tryd.func51, Tryd.ntmps51
    go_wp2_with (go_at_call 61; refine (sign_calls h0.out hs0.out hi hl ht b ha0.out h80.out).mono ?_; rintro e w1 ⟨rfl, q1⟩)
    first | go_end0 | ((try simp only [Exit.inBlock, Exit.then]); refine bodyPost_ret (results_none rfl _ _ _) rfl ?_)
    exact ⟨rfl, q1⟩
  · rw [idle_high h8]
    rw [h8] at hc
    clear h8
    go_enter Tryd.func51, Tryd.ntmps51
    go_wp2_with (go_at_call 60; refine (fail_calls h0.out 11 i).mono ?_; rintro e w1 ⟨rfl, ⟨tv1, ov1, h1⟩, k1⟩)
    first | go_end0 | ((try simp only [Exit.inBlock, Exit.then]); refine bodyPost_ret (results_none rfl _ _ _) rfl ?_)
    exact ⟨rfl, fits_err h1 ⟨rfl, rfl, hs0.out.2.2.2⟩ k1⟩
set_option maxRecDepth 100000 in
set_option maxHeartbeats 1600000 in
theorem pass_calls {F : Nat → Prop} {w : World} {g : Nat} {c : Sc} {acc : List UInt8} {ts : List S.Tok} {tv ov : Value} (h : SS F w g c acc ts tv ov) {i : Nat} (hs : Sane c i) (hi : i ≤ 274877906944) (hl : acc.length ≤ i) (ht : ts.length ≤ 2 * i) (b : UInt8) :
    Calls Tryd.prog 83 #[.pointer (some ⟨g, 0, none⟩), .int .u8 b.toNat] w fun e w' => e = .returned (.tuple #[]) ∧ Fits F w w' g i ts ((S.stepIdle b i).pre [S.tok resv c.kind c.beg i acc]) := by
  obtain ⟨hi1, hf, hp, hen⟩ := hs
  subst hi1
  have h0 := hide h
  clear h
  go_enter Tryd.func83, Tryd.ntmps83
  go_wp2_with (first
    | (go_at_call 66; refine (whole_calls h0.out (by omega)).mono ?_; rintro e w1 ⟨rfl, ⟨tv1, ov1, h1⟩, k1⟩; replace h1 := hide h1; replace k1 := hide k1)
    | (go_at_call 25; refine (idle_calls h1.out).mono ?_; rintro e w2 ⟨rfl, ⟨tv2, ov2, h2⟩, k2⟩; replace h2 := hide h2; replace k2 := hide k2)
    | (go_at_call 51; refine (between_calls h2.out ⟨rfl, hf, hp, hen⟩ hi hl (by simp; omega) b ⟨rfl, rfl⟩).mono ?_; rintro e w3 ⟨rfl, q3⟩))
  first | go_end0 | ((try simp only [Exit.inBlock, Exit.then]); refine bodyPost_ret (results_none rfl _ _ _) rfl ?_)
  exact ⟨rfl, fits_pre q3 (k1.out.trans k2.out)⟩
end Go.Proofs.YtjbalgjdcdmjjaaDoor
