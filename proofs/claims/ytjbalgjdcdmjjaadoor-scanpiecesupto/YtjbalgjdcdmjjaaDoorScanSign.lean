/-
  The scanner's methods sign and number.
-/
import Derived.Test.YtjbalgjdcdmjjaaDoorScanFail
namespace Go.Proofs.YtjbalgjdcdmjjaaDoor
open Go.RowKit
set_option linter.unusedVariables false
set_option maxRecDepth 100000 in
set_option maxHeartbeats 1600000 in
theorem sign_40 {F : Nat → Prop} {w : World} {g : Nat} {c : Sc} {acc : List UInt8} {ts : List S.Tok} {tv ov : Value} (h : SS F w g c acc ts tv ov) {i : Nat} (hs : Sane c i) (hi : i ≤ 274877906944) (hl : acc.length ≤ i) (ht : ts.length ≤ 2 * i + 1) (ha : AtS g .idle c acc) :
    Calls Tryd.prog 61 #[.pointer (some ⟨g, 0, none⟩), .int .u8 40] w fun e w' => e = .returned (.tuple #[]) ∧ Fits F w w' g i ts (.go [⟨1, i, i + 1, [40]⟩] .idle) := by
  obtain ⟨hi1, hf, hp, hen⟩ := hs
  subst hi1
  have ew : IntKind.i64.wrap ((c.i : Int) + 1) = ((c.i + 1 : Nat) : Int) := by rw [IntKind.wrap_i64]; omega
  have h0 := hide h
  clear h
  go_enter Tryd.func61, Tryd.ntmps61
  go_wp2_with (first
    | (go_at_call 63; refine (open_calls h0.out 1).mono ?_; rintro e w1 ⟨rfl, ⟨tv1, ov1, h1⟩, k1⟩; have a1 : w1.cell? ⟨g, 2, none⟩ = some (.int .i64 c.i) := h1.cell 2 _ rfl; replace h1 := hide h1; replace k1 := hide k1)
    | (go_at_call 71; refine (tell_calls h1.out _ [40] rfl (c.i + 1) (by omega)).mono ?_; rintro e w2 ⟨rfl, ⟨tv2, ov2, h2⟩, k2⟩; replace h2 := hide h2; replace k2 := hide k2))
  first | go_end0 | ((try simp only [Exit.inBlock, Exit.then]); refine bodyPost_ret (results_none rfl _ _ _) rfl ?_)
  exact ⟨rfl, fits_go (t := [⟨1, c.i, c.i + 1, [40]⟩]) h2.out ha ⟨rfl, hf, hp, hen⟩ (by simp) ((k1.out).trans k2.out)⟩
set_option maxRecDepth 100000 in
set_option maxHeartbeats 1600000 in
theorem sign_41 {F : Nat → Prop} {w : World} {g : Nat} {c : Sc} {acc : List UInt8} {ts : List S.Tok} {tv ov : Value} (h : SS F w g c acc ts tv ov) {i : Nat} (hs : Sane c i) (hi : i ≤ 274877906944) (hl : acc.length ≤ i) (ht : ts.length ≤ 2 * i + 1) (ha : AtS g .idle c acc) :
    Calls Tryd.prog 61 #[.pointer (some ⟨g, 0, none⟩), .int .u8 41] w fun e w' => e = .returned (.tuple #[]) ∧ Fits F w w' g i ts (.go [⟨2, i, i + 1, [41]⟩] .idle) := by
  obtain ⟨hi1, hf, hp, hen⟩ := hs
  subst hi1
  have ew : IntKind.i64.wrap ((c.i : Int) + 1) = ((c.i + 1 : Nat) : Int) := by rw [IntKind.wrap_i64]; omega
  have h0 := hide h
  clear h
  go_enter Tryd.func61, Tryd.ntmps61
  go_wp2_with (first
    | (go_at_call 63; refine (open_calls h0.out 2).mono ?_; rintro e w1 ⟨rfl, ⟨tv1, ov1, h1⟩, k1⟩; have a1 : w1.cell? ⟨g, 2, none⟩ = some (.int .i64 c.i) := h1.cell 2 _ rfl; replace h1 := hide h1; replace k1 := hide k1)
    | (go_at_call 71; refine (tell_calls h1.out _ [41] rfl (c.i + 1) (by omega)).mono ?_; rintro e w2 ⟨rfl, ⟨tv2, ov2, h2⟩, k2⟩; replace h2 := hide h2; replace k2 := hide k2))
  first | go_end0 | ((try simp only [Exit.inBlock, Exit.then]); refine bodyPost_ret (results_none rfl _ _ _) rfl ?_)
  exact ⟨rfl, fits_go (t := [⟨2, c.i, c.i + 1, [41]⟩]) h2.out ha ⟨rfl, hf, hp, hen⟩ (by simp) ((k1.out).trans k2.out)⟩
set_option maxRecDepth 100000 in
set_option maxHeartbeats 1600000 in
theorem sign_34 {F : Nat → Prop} {w : World} {g : Nat} {c : Sc} {acc : List UInt8} {ts : List S.Tok} {tv ov : Value} (h : SS F w g c acc ts tv ov) {i : Nat} (hs : Sane c i) (hi : i ≤ 274877906944) (hl : acc.length ≤ i) (ht : ts.length ≤ 2 * i + 1) :
    Calls Tryd.prog 61 #[.pointer (some ⟨g, 0, none⟩), .int .u8 34] w fun e w' => e = .returned (.tuple #[]) ∧ Fits F w w' g i ts (.go [] (.cont (.str i []))) := by
  obtain ⟨hi1, hf, hp, hen⟩ := hs
  subst hi1
  have hmf : ∀ (fn : Fn) (first cap : Array Value) (w : World), (Instr.makeFunc fn first cap).run Tryd.prog w = .ok (.func fn first cap) w := fun _ _ _ _ => rfl
  have h0 := hide h
  clear h
  go_enter Tryd.func61, Tryd.ntmps61
  go_wp2_with (first
    | (go_at_call 63; refine (open_calls h0.out 9).mono ?_; rintro e w1 ⟨rfl, ⟨tv1, ov1, h1⟩, k1⟩; replace h1 := hide h1; replace k1 := hide k1)
    | (go_at_call 50; refine (become_calls h1.out 72 73).mono ?_; rintro e w2 ⟨rfl, ⟨tv2, ov2, h2⟩, k2⟩; replace h2 := hide h2; replace k2 := hide k2))
  first | go_end0 | ((try simp only [Exit.inBlock, Exit.then]); refine bodyPost_ret (results_none rfl _ _ _) rfl ?_)
  exact ⟨rfl, fits_on h2.out ⟨rfl, rfl, rfl, rfl, rfl⟩ ⟨rfl, hf, hp, hen⟩ (by simp) ((k1.out).trans k2.out)⟩
set_option maxRecDepth 100000 in
set_option maxHeartbeats 1600000 in
theorem sign_124 {F : Nat → Prop} {w : World} {g : Nat} {c : Sc} {acc : List UInt8} {ts : List S.Tok} {tv ov : Value} (h : SS F w g c acc ts tv ov) {i : Nat} (hs : Sane c i) (hi : i ≤ 274877906944) (hl : acc.length ≤ i) (ht : ts.length ≤ 2 * i + 1) :
    Calls Tryd.prog 61 #[.pointer (some ⟨g, 0, none⟩), .int .u8 124] w fun e w' => e = .returned (.tuple #[]) ∧ Fits F w w' g i ts (.go [] (.cont (.bars i []))) := by
  obtain ⟨hi1, hf, hp, hen⟩ := hs
  subst hi1
  have hmf : ∀ (fn : Fn) (first cap : Array Value) (w : World), (Instr.makeFunc fn first cap).run Tryd.prog w = .ok (.func fn first cap) w := fun _ _ _ _ => rfl
  have h0 := hide h
  clear h
  go_enter Tryd.func61, Tryd.ntmps61
  go_wp2_with (first
    | (go_at_call 63; refine (open_calls h0.out 3).mono ?_; rintro e w1 ⟨rfl, ⟨tv1, ov1, h1⟩, k1⟩; replace h1 := hide h1; replace k1 := hide k1)
    | (go_at_call 50; refine (become_calls h1.out 74 75).mono ?_; rintro e w2 ⟨rfl, ⟨tv2, ov2, h2⟩, k2⟩; replace h2 := hide h2; replace k2 := hide k2))
  first | go_end0 | ((try simp only [Exit.inBlock, Exit.then]); refine bodyPost_ret (results_none rfl _ _ _) rfl ?_)
  exact ⟨rfl, fits_on h2.out ⟨rfl, rfl, rfl, rfl, rfl⟩ ⟨rfl, hf, hp, hen⟩ (by simp) ((k1.out).trans k2.out)⟩
set_option maxRecDepth 100000 in
set_option maxHeartbeats 1600000 in
theorem sign_58 {F : Nat → Prop} {w : World} {g : Nat} {c : Sc} {acc : List UInt8} {ts : List S.Tok} {tv ov : Value} (h : SS F w g c acc ts tv ov) {i : Nat} (hs : Sane c i) (hi : i ≤ 274877906944) (hl : acc.length ≤ i) (ht : ts.length ≤ 2 * i + 1) :
    Calls Tryd.prog 61 #[.pointer (some ⟨g, 0, none⟩), .int .u8 58] w fun e w' => e = .returned (.tuple #[]) ∧ Fits F w w' g i ts (.go [] (.colon i)) := by
  obtain ⟨hi1, hf, hp, hen⟩ := hs
  subst hi1
  have hmf : ∀ (fn : Fn) (first cap : Array Value) (w : World), (Instr.makeFunc fn first cap).run Tryd.prog w = .ok (.func fn first cap) w := fun _ _ _ _ => rfl
  have h0 := hide h
  clear h
  go_enter Tryd.func61, Tryd.ntmps61
  go_wp2_with (first
    | (go_at_call 63; refine (open_calls h0.out 10).mono ?_; rintro e w1 ⟨rfl, ⟨tv1, ov1, h1⟩, k1⟩; replace h1 := hide h1; replace k1 := hide k1)
    | (go_at_call 50; refine (become_calls h1.out 76 77).mono ?_; rintro e w2 ⟨rfl, ⟨tv2, ov2, h2⟩, k2⟩; replace h2 := hide h2; replace k2 := hide k2))
  first | go_end0 | ((try simp only [Exit.inBlock, Exit.then]); refine bodyPost_ret (results_none rfl _ _ _) rfl ?_)
  exact ⟨rfl, fits_on h2.out ⟨rfl, rfl, rfl, rfl, rfl⟩ ⟨rfl, hf, hp, hen⟩ (by simp) ((k1.out).trans k2.out)⟩
set_option maxRecDepth 100000 in
set_option maxHeartbeats 1600000 in
theorem sign_35 {F : Nat → Prop} {w : World} {g : Nat} {c : Sc} {acc : List UInt8} {ts : List S.Tok} {tv ov : Value} (h : SS F w g c acc ts tv ov) {i : Nat} (hs : Sane c i) (hi : i ≤ 274877906944) (hl : acc.length ≤ i) (ht : ts.length ≤ 2 * i + 1) :
    Calls Tryd.prog 61 #[.pointer (some ⟨g, 0, none⟩), .int .u8 35] w fun e w' => e = .returned (.tuple #[]) ∧ Fits F w w' g i ts (.go [] (.hash i)) := by
  obtain ⟨hi1, hf, hp, hen⟩ := hs
  subst hi1
  have hmf : ∀ (fn : Fn) (first cap : Array Value) (w : World), (Instr.makeFunc fn first cap).run Tryd.prog w = .ok (.func fn first cap) w := fun _ _ _ _ => rfl
  have h0 := hide h
  clear h
  go_enter Tryd.func61, Tryd.ntmps61
  go_wp2_with (first
    | (go_at_call 63; refine (open_calls h0.out 7).mono ?_; rintro e w1 ⟨rfl, ⟨tv1, ov1, h1⟩, k1⟩; replace h1 := hide h1; replace k1 := hide k1)
    | (go_at_call 64; refine (keep_calls h1.out 35 (by simp) (by simp)).mono ?_; rintro e w2 ⟨rfl, ⟨tv2, ov2, h2⟩, k2⟩; replace h2 := hide h2; replace k2 := hide k2)
    | (go_at_call 50; refine (become_calls h2.out 78 79).mono ?_; rintro e w3 ⟨rfl, ⟨tv3, ov3, h3⟩, k3⟩; replace h3 := hide h3; replace k3 := hide k3))
  first | go_end0 | ((try simp only [Exit.inBlock, Exit.then]); refine bodyPost_ret (results_none rfl _ _ _) rfl ?_)
  exact ⟨rfl, fits_on h3.out ⟨rfl, rfl, rfl, rfl, rfl⟩ ⟨rfl, hf, hp, hen⟩ (by simp) (((k1.out).trans k2.out).trans k3.out)⟩
set_option maxRecDepth 100000 in
set_option maxHeartbeats 1600000 in
theorem sign_59 {F : Nat → Prop} {w : World} {g : Nat} {c : Sc} {acc : List UInt8} {ts : List S.Tok} {tv ov : Value} (h : SS F w g c acc ts tv ov) {i : Nat} (hs : Sane c i) (hi : i ≤ 274877906944) (hl : acc.length ≤ i) (ht : ts.length ≤ 2 * i + 1) :
    Calls Tryd.prog 61 #[.pointer (some ⟨g, 0, none⟩), .int .u8 59] w fun e w' => e = .returned (.tuple #[]) ∧ Fits F w w' g i ts (.go [] (.cont .comment)) := by
  obtain ⟨hi1, hf, hp, hen⟩ := hs
  subst hi1
  have hmf : ∀ (fn : Fn) (first cap : Array Value) (w : World), (Instr.makeFunc fn first cap).run Tryd.prog w = .ok (.func fn first cap) w := fun _ _ _ _ => rfl
  have h0 := hide h
  clear h
  go_enter Tryd.func61, Tryd.ntmps61
  go_wp2_with (first
    | (go_at_call 63; refine (open_calls h0.out 0).mono ?_; rintro e w1 ⟨rfl, ⟨tv1, ov1, h1⟩, k1⟩; replace h1 := hide h1; replace k1 := hide k1)
    | (go_at_call 50; refine (become_calls h1.out 80 52).mono ?_; rintro e w2 ⟨rfl, ⟨tv2, ov2, h2⟩, k2⟩; replace h2 := hide h2; replace k2 := hide k2))
  first | go_end0 | ((try simp only [Exit.inBlock, Exit.then]); refine bodyPost_ret (results_none rfl _ _ _) rfl ?_)
  exact ⟨rfl, fits_on h2.out ⟨rfl, rfl, rfl⟩ ⟨rfl, hf, hp, hen⟩ (by simp) ((k1.out).trans k2.out)⟩
set_option maxRecDepth 100000 in
set_option maxHeartbeats 1600000 in
theorem number_zero {F : Nat → Prop} {w : World} {g : Nat} {c : Sc} {acc : List UInt8} {ts : List S.Tok} {tv ov : Value} (h : SS F w g c acc ts tv ov) {i : Nat} (hs : Sane c i) (hi : i ≤ 274877906944) (hl : acc.length ≤ i) (ht : ts.length ≤ 2 * i + 1) (b : UInt8) (hb : b = 48) :
    Calls Tryd.prog 62 #[.pointer (some ⟨g, 0, none⟩), .int .u8 b.toNat] w fun e w' => e = .returned (.tuple #[]) ∧ Fits F w w' g i ts (.go [] (.zero i [b])) := by
  obtain ⟨hi1, hf, hp, hen⟩ := hs
  subst hi1
  have hmf : ∀ (fn : Fn) (first cap : Array Value) (w : World), (Instr.makeFunc fn first cap).run Tryd.prog w = .ok (.func fn first cap) w := fun _ _ _ _ => rfl
  subst hb
  have h0 := hide h
  clear h
  go_enter Tryd.func62, Tryd.ntmps62
  go_wp2_with (first
    | (go_at_call 63; refine (open_calls h0.out 5).mono ?_; rintro e w1 ⟨rfl, ⟨tv1, ov1, h1⟩, k1⟩; replace h1 := hide h1; replace k1 := hide k1)
    | (go_at_call 64; refine (keep_calls h1.out 48 (by simp) (by simp)).mono ?_; rintro e w2 ⟨rfl, ⟨tv2, ov2, h2⟩, k2⟩; replace h2 := hide h2; replace k2 := hide k2)
    | (go_at_call 50; refine (become_calls h2.out 81 66).mono ?_; rintro e w3 ⟨rfl, ⟨tv3, ov3, h3⟩, k3⟩; replace h3 := hide h3; replace k3 := hide k3))
  first | go_end0 | ((try simp only [Exit.inBlock, Exit.then]); refine bodyPost_ret (results_none rfl _ _ _) rfl ?_)
  exact ⟨rfl, fits_on h3.out ⟨rfl, rfl, rfl, rfl, rfl⟩ ⟨rfl, hf, hp, hen⟩ (by simp) (((k1.out).trans k2.out).trans k3.out)⟩
set_option maxRecDepth 100000 in
set_option maxHeartbeats 1600000 in
theorem number_digit {F : Nat → Prop} {w : World} {g : Nat} {c : Sc} {acc : List UInt8} {ts : List S.Tok} {tv ov : Value} (h : SS F w g c acc ts tv ov) {i : Nat} (hs : Sane c i) (hi : i ≤ 274877906944) (hl : acc.length ≤ i) (ht : ts.length ≤ 2 * i + 1) (b : UInt8) (hb : b ≠ 48) :
    Calls Tryd.prog 62 #[.pointer (some ⟨g, 0, none⟩), .int .u8 b.toNat] w fun e w' => e = .returned (.tuple #[]) ∧ Fits F w w' g i ts (.go [] (.numeral i [b])) := by
  obtain ⟨hi1, hf, hp, hen⟩ := hs
  subst hi1
  have hmf : ∀ (fn : Fn) (first cap : Array Value) (w : World), (Instr.makeFunc fn first cap).run Tryd.prog w = .ok (.func fn first cap) w := fun _ _ _ _ => rfl
  have hb1 : ¬ ((b.toNat : Int) = 48) := fun e => hb (by apply UInt8.toNat_inj.1; have : b.toNat = 48 := (by omega); simpa using this)
  have h0 := hide h
  clear h
  go_enter Tryd.func62, Tryd.ntmps62
  go_wp2_with (first
    | (go_at_call 63; refine (open_calls h0.out 5).mono ?_; rintro e w1 ⟨rfl, ⟨tv1, ov1, h1⟩, k1⟩; replace h1 := hide h1; replace k1 := hide k1)
    | (go_at_call 64; refine (keep_calls h1.out b (by simp) (by simp)).mono ?_; rintro e w2 ⟨rfl, ⟨tv2, ov2, h2⟩, k2⟩; replace h2 := hide h2; replace k2 := hide k2)
    | (go_at_call 50; refine (become_calls h2.out 82 66).mono ?_; rintro e w3 ⟨rfl, ⟨tv3, ov3, h3⟩, k3⟩; replace h3 := hide h3; replace k3 := hide k3))
  first | go_end0 | ((try simp only [Exit.inBlock, Exit.then]); refine bodyPost_ret (results_none rfl _ _ _) rfl ?_)
  exact ⟨rfl, fits_on h3.out ⟨rfl, rfl, rfl, rfl, rfl⟩ ⟨rfl, hf, hp, hen⟩ (by simp) (((k1.out).trans k2.out).trans k3.out)⟩
end Go.Proofs.YtjbalgjdcdmjjaaDoor
