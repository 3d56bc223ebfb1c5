/- Laid together of: ScanFail, ScanSign. -/
import Derived.Test.YtackibimlpkcmaaDoorq13
/- ==== ScanFail ==== -/
namespace Go.Proofs.YtackibimlpkcmaaDoor
open Go.RowKit
set_option linter.unusedVariables false
set_option maxRecDepth 100000 in
theorem noKeyword_calls {F : Nat → Prop} {w : World} {g : Nat} {c : Sc} {acc : List UInt8} {ts : List S.Tok} {tv ov : Value} (h : SS F w g c acc ts tv ov) :
    Calls Tryd.prog 80 #[.pointer (some ⟨g, 0, none⟩)] w fun e w' => e = .returned (.tuple #[]) ∧ Left F w w' g { c with fault := 16, place := c.i } acc ts := by
  have a0 : w.cell? ⟨g, 2, none⟩ = some (.int .i64 c.i) := h.cell 2 _ rfl
  have q := hide (fail_calls h 16 c.i)
  clear h
  go_enter Tryd.func80, Tryd.ntmps80
  go_wp2_with (go_at_call 63; refine q.out.mono ?_; rintro e w1 ⟨rfl, q1⟩)
  first | go_end0 | ((try simp only [Exit.inBlock, Exit.then]); refine bodyPost_ret (results_none rfl _ _ _) rfl ?_)
  exact ⟨rfl, q1⟩
set_option maxRecDepth 100000 in
theorem noNumber_calls {F : Nat → Prop} {w : World} {g : Nat} {c : Sc} {acc : List UInt8} {ts : List S.Tok} {tv ov : Value} (h : SS F w g c acc ts tv ov) :
    Calls Tryd.prog 82 #[.pointer (some ⟨g, 0, none⟩)] w fun e w' => e = .returned (.tuple #[]) ∧ Left F w w' g { c with fault := 12, place := c.i } acc ts := by
  have a0 : w.cell? ⟨g, 2, none⟩ = some (.int .i64 c.i) := h.cell 2 _ rfl
  have q := hide (fail_calls h 12 c.i)
  clear h
  go_enter Tryd.func82, Tryd.ntmps82
  go_wp2_with (go_at_call 63; refine q.out.mono ?_; rintro e w1 ⟨rfl, q1⟩)
  first | go_end0 | ((try simp only [Exit.inBlock, Exit.then]); refine bodyPost_ret (results_none rfl _ _ _) rfl ?_)
  exact ⟨rfl, q1⟩
set_option maxRecDepth 100000 in
theorem noMark_calls {F : Nat → Prop} {w : World} {g : Nat} {c : Sc} {acc : List UInt8} {ts : List S.Tok} {tv ov : Value} (h : SS F w g c acc ts tv ov) :
    Calls Tryd.prog 76 #[.pointer (some ⟨g, 0, none⟩)] w fun e w' => e = .returned (.tuple #[]) ∧ Left F w w' g { c with fault := 14, place := c.beg } acc ts := by
  have a0 : w.cell? ⟨g, 3, none⟩ = some (.int .i64 c.beg) := h.cell 3 _ rfl
  have q := hide (fail_calls h 14 c.beg)
  clear h
  go_enter Tryd.func76, Tryd.ntmps76
  go_wp2_with (go_at_call 63; refine q.out.mono ?_; rintro e w1 ⟨rfl, q1⟩)
  first | go_end0 | ((try simp only [Exit.inBlock, Exit.then]); refine bodyPost_ret (results_none rfl _ _ _) rfl ?_)
  exact ⟨rfl, q1⟩
set_option maxRecDepth 100000 in
theorem noBar_calls {F : Nat → Prop} {w : World} {g : Nat} {c : Sc} {acc : List UInt8} {ts : List S.Tok} {tv ov : Value} (h : SS F w g c acc ts tv ov) :
    Calls Tryd.prog 78 #[.pointer (some ⟨g, 0, none⟩)] w fun e w' => e = .returned (.tuple #[]) ∧ Left F w w' g { c with fault := 15, place := c.beg } acc ts := by
  have a0 : w.cell? ⟨g, 3, none⟩ = some (.int .i64 c.beg) := h.cell 3 _ rfl
  have q := hide (fail_calls h 15 c.beg)
  clear h
  go_enter Tryd.func78, Tryd.ntmps78
  go_wp2_with (go_at_call 63; refine q.out.mono ?_; rintro e w1 ⟨rfl, q1⟩)
  first | go_end0 | ((try simp only [Exit.inBlock, Exit.then]); refine bodyPost_ret (results_none rfl _ _ _) rfl ?_)
  exact ⟨rfl, q1⟩
set_option maxRecDepth 100000 in
theorem noCharacter_calls {F : Nat → Prop} {w : World} {g : Nat} {c : Sc} {acc : List UInt8} {ts : List S.Tok} {tv ov : Value} (h : SS F w g c acc ts tv ov) :
    Calls Tryd.prog 112 #[.pointer (some ⟨g, 0, none⟩)] w fun e w' => e = .returned (.tuple #[]) ∧ Left F w w' g { c with fault := 11, place := c.cbeg } acc ts := by
  have a0 : w.cell? ⟨g, 7, none⟩ = some (.int .i64 c.cbeg) := h.cell 7 _ rfl
  have q := hide (fail_calls h 11 c.cbeg)
  clear h
  go_enter Tryd.func112, Tryd.ntmps112
  go_wp2_with (go_at_call 63; refine q.out.mono ?_; rintro e w1 ⟨rfl, q1⟩)
  first | go_end0 | ((try simp only [Exit.inBlock, Exit.then]); refine bodyPost_ret (results_none rfl _ _ _) rfl ?_)
  exact ⟨rfl, q1⟩
theorem nothing_calls {F : Nat → Prop} {w : World} {g : Nat} {c : Sc} {acc : List UInt8} {ts : List S.Tok} {tv ov : Value} (h : SS F w g c acc ts tv ov) :
    Calls Tryd.prog 55 #[.pointer (some ⟨g, 0, none⟩)] w fun e w' => e = .returned (.tuple #[]) ∧ Left F w w' g c acc ts := by
  have h1 := hide h
  clear h
  go_enter Tryd.func55, Tryd.ntmps55
  go_wp2
  first | go_end0 | ((try simp only [Exit.inBlock, Exit.then]); refine bodyPost_ret (results_none rfl _ _ _) rfl ?_)
  exact ⟨rfl, ⟨_, _, h1.out⟩, Kp.refl F w⟩
end Go.Proofs.YtackibimlpkcmaaDoor
/- ==== ScanSign ==== -/
namespace Go.Proofs.YtackibimlpkcmaaDoor
open Go.RowKit
set_option linter.unusedVariables false
set_option maxRecDepth 100000 in
set_option maxHeartbeats 1600000 in
theorem sign_40 {F : Nat → Prop} {w : World} {g : Nat} {c : Sc} {acc : List UInt8} {ts : List S.Tok} {tv ov : Value} (h : SS F w g c acc ts tv ov) {i : Nat} (hs : Sane c i) (hi : i ≤ 274877906944) (hl : acc.length ≤ i) (ht : ts.length ≤ 2 * i + 1) (ha : AtS g .idle c acc) :
    Calls Tryd.prog 64 #[.pointer (some ⟨g, 0, none⟩), .int .u8 40] w fun e w' => e = .returned (.tuple #[]) ∧ Fits F w w' g i ts (.go [⟨1, i, i + 1, [40]⟩] .idle) := by
  obtain ⟨hi1, hf, hp, hen⟩ := hs
  subst hi1
  have ew : IntKind.i64.wrap ((c.i : Int) + 1) = ((c.i + 1 : Nat) : Int) := by rw [IntKind.wrap_i64]; omega
  have h0 := hide h
  clear h
  go_enter Tryd.func64, Tryd.ntmps64
  go_wp2_with (first
    | (go_at_call 66; refine (open_calls h0.out 1).mono ?_; rintro e w1 ⟨rfl, ⟨tv1, ov1, h1⟩, k1⟩; have a1 : w1.cell? ⟨g, 2, none⟩ = some (.int .i64 c.i) := h1.cell 2 _ rfl; replace h1 := hide h1; replace k1 := hide k1)
    | (go_at_call 74; refine (tell_calls h1.out _ [40] rfl (c.i + 1) (by omega)).mono ?_; rintro e w2 ⟨rfl, ⟨tv2, ov2, h2⟩, k2⟩; replace h2 := hide h2; replace k2 := hide k2))
  first | go_end0 | ((try simp only [Exit.inBlock, Exit.then]); refine bodyPost_ret (results_none rfl _ _ _) rfl ?_)
  exact ⟨rfl, fits_go (t := [⟨1, c.i, c.i + 1, [40]⟩]) h2.out ha ⟨rfl, hf, hp, hen⟩ (by simp) ((k1.out).trans k2.out)⟩
set_option maxRecDepth 100000 in
set_option maxHeartbeats 1600000 in
theorem sign_41 {F : Nat → Prop} {w : World} {g : Nat} {c : Sc} {acc : List UInt8} {ts : List S.Tok} {tv ov : Value} (h : SS F w g c acc ts tv ov) {i : Nat} (hs : Sane c i) (hi : i ≤ 274877906944) (hl : acc.length ≤ i) (ht : ts.length ≤ 2 * i + 1) (ha : AtS g .idle c acc) :
    Calls Tryd.prog 64 #[.pointer (some ⟨g, 0, none⟩), .int .u8 41] w fun e w' => e = .returned (.tuple #[]) ∧ Fits F w w' g i ts (.go [⟨2, i, i + 1, [41]⟩] .idle) := by
  obtain ⟨hi1, hf, hp, hen⟩ := hs
  subst hi1
  have ew : IntKind.i64.wrap ((c.i : Int) + 1) = ((c.i + 1 : Nat) : Int) := by rw [IntKind.wrap_i64]; omega
  have h0 := hide h
  clear h
  go_enter Tryd.func64, Tryd.ntmps64
  go_wp2_with (first
    | (go_at_call 66; refine (open_calls h0.out 2).mono ?_; rintro e w1 ⟨rfl, ⟨tv1, ov1, h1⟩, k1⟩; have a1 : w1.cell? ⟨g, 2, none⟩ = some (.int .i64 c.i) := h1.cell 2 _ rfl; replace h1 := hide h1; replace k1 := hide k1)
    | (go_at_call 74; refine (tell_calls h1.out _ [41] rfl (c.i + 1) (by omega)).mono ?_; rintro e w2 ⟨rfl, ⟨tv2, ov2, h2⟩, k2⟩; replace h2 := hide h2; replace k2 := hide k2))
  first | go_end0 | ((try simp only [Exit.inBlock, Exit.then]); refine bodyPost_ret (results_none rfl _ _ _) rfl ?_)
  exact ⟨rfl, fits_go (t := [⟨2, c.i, c.i + 1, [41]⟩]) h2.out ha ⟨rfl, hf, hp, hen⟩ (by simp) ((k1.out).trans k2.out)⟩
set_option maxRecDepth 100000 in
set_option maxHeartbeats 1600000 in
theorem sign_34 {F : Nat → Prop} {w : World} {g : Nat} {c : Sc} {acc : List UInt8} {ts : List S.Tok} {tv ov : Value} (h : SS F w g c acc ts tv ov) {i : Nat} (hs : Sane c i) (hi : i ≤ 274877906944) (hl : acc.length ≤ i) (ht : ts.length ≤ 2 * i + 1) :
    Calls Tryd.prog 64 #[.pointer (some ⟨g, 0, none⟩), .int .u8 34] w fun e w' => e = .returned (.tuple #[]) ∧ Fits F w w' g i ts (.go [] (.cont (.str i []))) := by
  obtain ⟨hi1, hf, hp, hen⟩ := hs
  subst hi1
  have hmf : ∀ (fn : Fn) (first cap : Array Value) (w : World), (Instr.makeFunc fn first cap).run Tryd.prog w = .ok (.func fn first cap) w := fun _ _ _ _ => rfl
  have h0 := hide h
  clear h
  go_enter Tryd.func64, Tryd.ntmps64
  go_wp2_with (first
    | (go_at_call 66; refine (open_calls h0.out 9).mono ?_; rintro e w1 ⟨rfl, ⟨tv1, ov1, h1⟩, k1⟩; replace h1 := hide h1; replace k1 := hide k1)
    | (go_at_call 53; refine (become_calls h1.out 75 76).mono ?_; rintro e w2 ⟨rfl, ⟨tv2, ov2, h2⟩, k2⟩; replace h2 := hide h2; replace k2 := hide k2))
  first | go_end0 | ((try simp only [Exit.inBlock, Exit.then]); refine bodyPost_ret (results_none rfl _ _ _) rfl ?_)
  exact ⟨rfl, fits_on h2.out ⟨rfl, rfl, rfl, rfl, rfl⟩ ⟨rfl, hf, hp, hen⟩ (by simp) ((k1.out).trans k2.out)⟩
set_option maxRecDepth 100000 in
set_option maxHeartbeats 1600000 in
theorem sign_124 {F : Nat → Prop} {w : World} {g : Nat} {c : Sc} {acc : List UInt8} {ts : List S.Tok} {tv ov : Value} (h : SS F w g c acc ts tv ov) {i : Nat} (hs : Sane c i) (hi : i ≤ 274877906944) (hl : acc.length ≤ i) (ht : ts.length ≤ 2 * i + 1) :
    Calls Tryd.prog 64 #[.pointer (some ⟨g, 0, none⟩), .int .u8 124] w fun e w' => e = .returned (.tuple #[]) ∧ Fits F w w' g i ts (.go [] (.cont (.bars i []))) := by
  obtain ⟨hi1, hf, hp, hen⟩ := hs
  subst hi1
  have hmf : ∀ (fn : Fn) (first cap : Array Value) (w : World), (Instr.makeFunc fn first cap).run Tryd.prog w = .ok (.func fn first cap) w := fun _ _ _ _ => rfl
  have h0 := hide h
  clear h
  go_enter Tryd.func64, Tryd.ntmps64
  go_wp2_with (first
    | (go_at_call 66; refine (open_calls h0.out 3).mono ?_; rintro e w1 ⟨rfl, ⟨tv1, ov1, h1⟩, k1⟩; replace h1 := hide h1; replace k1 := hide k1)
    | (go_at_call 53; refine (become_calls h1.out 77 78).mono ?_; rintro e w2 ⟨rfl, ⟨tv2, ov2, h2⟩, k2⟩; replace h2 := hide h2; replace k2 := hide k2))
  first | go_end0 | ((try simp only [Exit.inBlock, Exit.then]); refine bodyPost_ret (results_none rfl _ _ _) rfl ?_)
  exact ⟨rfl, fits_on h2.out ⟨rfl, rfl, rfl, rfl, rfl⟩ ⟨rfl, hf, hp, hen⟩ (by simp) ((k1.out).trans k2.out)⟩
set_option maxRecDepth 100000 in
set_option maxHeartbeats 1600000 in
theorem sign_58 {F : Nat → Prop} {w : World} {g : Nat} {c : Sc} {acc : List UInt8} {ts : List S.Tok} {tv ov : Value} (h : SS F w g c acc ts tv ov) {i : Nat} (hs : Sane c i) (hi : i ≤ 274877906944) (hl : acc.length ≤ i) (ht : ts.length ≤ 2 * i + 1) :
    Calls Tryd.prog 64 #[.pointer (some ⟨g, 0, none⟩), .int .u8 58] w fun e w' => e = .returned (.tuple #[]) ∧ Fits F w w' g i ts (.go [] (.colon i)) := by
  obtain ⟨hi1, hf, hp, hen⟩ := hs
  subst hi1
  have hmf : ∀ (fn : Fn) (first cap : Array Value) (w : World), (Instr.makeFunc fn first cap).run Tryd.prog w = .ok (.func fn first cap) w := fun _ _ _ _ => rfl
  have h0 := hide h
  clear h
  go_enter Tryd.func64, Tryd.ntmps64
  go_wp2_with (first
    | (go_at_call 66; refine (open_calls h0.out 10).mono ?_; rintro e w1 ⟨rfl, ⟨tv1, ov1, h1⟩, k1⟩; replace h1 := hide h1; replace k1 := hide k1)
    | (go_at_call 53; refine (become_calls h1.out 79 80).mono ?_; rintro e w2 ⟨rfl, ⟨tv2, ov2, h2⟩, k2⟩; replace h2 := hide h2; replace k2 := hide k2))
  first | go_end0 | ((try simp only [Exit.inBlock, Exit.then]); refine bodyPost_ret (results_none rfl _ _ _) rfl ?_)
  exact ⟨rfl, fits_on h2.out ⟨rfl, rfl, rfl, rfl, rfl⟩ ⟨rfl, hf, hp, hen⟩ (by simp) ((k1.out).trans k2.out)⟩
set_option maxRecDepth 100000 in
set_option maxHeartbeats 1600000 in
theorem sign_35 {F : Nat → Prop} {w : World} {g : Nat} {c : Sc} {acc : List UInt8} {ts : List S.Tok} {tv ov : Value} (h : SS F w g c acc ts tv ov) {i : Nat} (hs : Sane c i) (hi : i ≤ 274877906944) (hl : acc.length ≤ i) (ht : ts.length ≤ 2 * i + 1) :
    Calls Tryd.prog 64 #[.pointer (some ⟨g, 0, none⟩), .int .u8 35] w fun e w' => e = .returned (.tuple #[]) ∧ Fits F w w' g i ts (.go [] (.hash i)) := by
  obtain ⟨hi1, hf, hp, hen⟩ := hs
  subst hi1
  have hmf : ∀ (fn : Fn) (first cap : Array Value) (w : World), (Instr.makeFunc fn first cap).run Tryd.prog w = .ok (.func fn first cap) w := fun _ _ _ _ => rfl
  have h0 := hide h
  clear h
  go_enter Tryd.func64, Tryd.ntmps64
  go_wp2_with (first
    | (go_at_call 66; refine (open_calls h0.out 7).mono ?_; rintro e w1 ⟨rfl, ⟨tv1, ov1, h1⟩, k1⟩; replace h1 := hide h1; replace k1 := hide k1)
    | (go_at_call 67; refine (keep_calls h1.out 35 (by simp) (by simp)).mono ?_; rintro e w2 ⟨rfl, ⟨tv2, ov2, h2⟩, k2⟩; replace h2 := hide h2; replace k2 := hide k2)
    | (go_at_call 53; refine (become_calls h2.out 81 82).mono ?_; rintro e w3 ⟨rfl, ⟨tv3, ov3, h3⟩, k3⟩; replace h3 := hide h3; replace k3 := hide k3))
  first | go_end0 | ((try simp only [Exit.inBlock, Exit.then]); refine bodyPost_ret (results_none rfl _ _ _) rfl ?_)
  exact ⟨rfl, fits_on h3.out ⟨rfl, rfl, rfl, rfl, rfl⟩ ⟨rfl, hf, hp, hen⟩ (by simp) (((k1.out).trans k2.out).trans k3.out)⟩
set_option maxRecDepth 100000 in
set_option maxHeartbeats 1600000 in
theorem sign_59 {F : Nat → Prop} {w : World} {g : Nat} {c : Sc} {acc : List UInt8} {ts : List S.Tok} {tv ov : Value} (h : SS F w g c acc ts tv ov) {i : Nat} (hs : Sane c i) (hi : i ≤ 274877906944) (hl : acc.length ≤ i) (ht : ts.length ≤ 2 * i + 1) :
    Calls Tryd.prog 64 #[.pointer (some ⟨g, 0, none⟩), .int .u8 59] w fun e w' => e = .returned (.tuple #[]) ∧ Fits F w w' g i ts (.go [] (.cont .comment)) := by
  obtain ⟨hi1, hf, hp, hen⟩ := hs
  subst hi1
  have hmf : ∀ (fn : Fn) (first cap : Array Value) (w : World), (Instr.makeFunc fn first cap).run Tryd.prog w = .ok (.func fn first cap) w := fun _ _ _ _ => rfl
  have h0 := hide h
  clear h
  go_enter Tryd.func64, Tryd.ntmps64
  go_wp2_with (first
    | (go_at_call 66; refine (open_calls h0.out 0).mono ?_; rintro e w1 ⟨rfl, ⟨tv1, ov1, h1⟩, k1⟩; replace h1 := hide h1; replace k1 := hide k1)
    | (go_at_call 53; refine (become_calls h1.out 83 55).mono ?_; rintro e w2 ⟨rfl, ⟨tv2, ov2, h2⟩, k2⟩; replace h2 := hide h2; replace k2 := hide k2))
  first | go_end0 | ((try simp only [Exit.inBlock, Exit.then]); refine bodyPost_ret (results_none rfl _ _ _) rfl ?_)
  exact ⟨rfl, fits_on h2.out ⟨rfl, rfl, rfl⟩ ⟨rfl, hf, hp, hen⟩ (by simp) ((k1.out).trans k2.out)⟩
set_option maxRecDepth 100000 in
set_option maxHeartbeats 1600000 in
theorem number_zero {F : Nat → Prop} {w : World} {g : Nat} {c : Sc} {acc : List UInt8} {ts : List S.Tok} {tv ov : Value} (h : SS F w g c acc ts tv ov) {i : Nat} (hs : Sane c i) (hi : i ≤ 274877906944) (hl : acc.length ≤ i) (ht : ts.length ≤ 2 * i + 1) (b : UInt8) (hb : b = 48) :
    Calls Tryd.prog 65 #[.pointer (some ⟨g, 0, none⟩), .int .u8 b.toNat] w fun e w' => e = .returned (.tuple #[]) ∧ Fits F w w' g i ts (.go [] (.zero i [b])) := by
  obtain ⟨hi1, hf, hp, hen⟩ := hs
  subst hi1
  have hmf : ∀ (fn : Fn) (first cap : Array Value) (w : World), (Instr.makeFunc fn first cap).run Tryd.prog w = .ok (.func fn first cap) w := fun _ _ _ _ => rfl
  subst hb
  have h0 := hide h
  clear h
  go_enter Tryd.func65, Tryd.ntmps65
  go_wp2_with (first
    | (go_at_call 66; refine (open_calls h0.out 5).mono ?_; rintro e w1 ⟨rfl, ⟨tv1, ov1, h1⟩, k1⟩; replace h1 := hide h1; replace k1 := hide k1)
    | (go_at_call 67; refine (keep_calls h1.out 48 (by simp) (by simp)).mono ?_; rintro e w2 ⟨rfl, ⟨tv2, ov2, h2⟩, k2⟩; replace h2 := hide h2; replace k2 := hide k2)
    | (go_at_call 53; refine (become_calls h2.out 84 69).mono ?_; rintro e w3 ⟨rfl, ⟨tv3, ov3, h3⟩, k3⟩; replace h3 := hide h3; replace k3 := hide k3))
  first | go_end0 | ((try simp only [Exit.inBlock, Exit.then]); refine bodyPost_ret (results_none rfl _ _ _) rfl ?_)
  exact ⟨rfl, fits_on h3.out ⟨rfl, rfl, rfl, rfl, rfl⟩ ⟨rfl, hf, hp, hen⟩ (by simp) (((k1.out).trans k2.out).trans k3.out)⟩
set_option maxRecDepth 100000 in
set_option maxHeartbeats 1600000 in
theorem number_digit {F : Nat → Prop} {w : World} {g : Nat} {c : Sc} {acc : List UInt8} {ts : List S.Tok} {tv ov : Value} (h : SS F w g c acc ts tv ov) {i : Nat} (hs : Sane c i) (hi : i ≤ 274877906944) (hl : acc.length ≤ i) (ht : ts.length ≤ 2 * i + 1) (b : UInt8) (hb : b ≠ 48) :
    Calls Tryd.prog 65 #[.pointer (some ⟨g, 0, none⟩), .int .u8 b.toNat] w fun e w' => e = .returned (.tuple #[]) ∧ Fits F w w' g i ts (.go [] (.numeral i [b])) := by
  obtain ⟨hi1, hf, hp, hen⟩ := hs
  subst hi1
  have hmf : ∀ (fn : Fn) (first cap : Array Value) (w : World), (Instr.makeFunc fn first cap).run Tryd.prog w = .ok (.func fn first cap) w := fun _ _ _ _ => rfl
  have hb1 : ¬ ((b.toNat : Int) = 48) := fun e => hb (by apply UInt8.toNat_inj.1; have : b.toNat = 48 := (by omega); simpa using this)
  have h0 := hide h
  clear h
  go_enter Tryd.func65, Tryd.ntmps65
  go_wp2_with (first
    | (go_at_call 66; refine (open_calls h0.out 5).mono ?_; rintro e w1 ⟨rfl, ⟨tv1, ov1, h1⟩, k1⟩; replace h1 := hide h1; replace k1 := hide k1)
    | (go_at_call 67; refine (keep_calls h1.out b (by simp) (by simp)).mono ?_; rintro e w2 ⟨rfl, ⟨tv2, ov2, h2⟩, k2⟩; replace h2 := hide h2; replace k2 := hide k2)
    | (go_at_call 53; refine (become_calls h2.out 85 69).mono ?_; rintro e w3 ⟨rfl, ⟨tv3, ov3, h3⟩, k3⟩; replace h3 := hide h3; replace k3 := hide k3))
  first | go_end0 | ((try simp only [Exit.inBlock, Exit.then]); refine bodyPost_ret (results_none rfl _ _ _) rfl ?_)
  exact ⟨rfl, fits_on h3.out ⟨rfl, rfl, rfl, rfl, rfl⟩ ⟨rfl, hf, hp, hen⟩ (by simp) (((k1.out).trans k2.out).trans k3.out)⟩
end Go.Proofs.YtackibimlpkcmaaDoor
