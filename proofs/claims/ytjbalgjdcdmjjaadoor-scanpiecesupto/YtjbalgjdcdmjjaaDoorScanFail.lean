/-
  The scanner's methods that end a text with an error.
-/
import Derived.Test.YtjbalgjdcdmjjaaDoorScanState
namespace Go.Proofs.YtjbalgjdcdmjjaaDoor
open Go.RowKit
set_option linter.unusedVariables false
set_option maxRecDepth 100000 in
theorem noKeyword_calls {F : Nat → Prop} {w : World} {g : Nat} {c : Sc} {acc : List UInt8} {ts : List S.Tok} {tv ov : Value} (h : SS F w g c acc ts tv ov) :
    Calls Tryd.prog 77 #[.pointer (some ⟨g, 0, none⟩)] w fun e w' => e = .returned (.tuple #[]) ∧ Left F w w' g { c with fault := 16, place := c.i } acc ts := by
  have a0 : w.cell? ⟨g, 2, none⟩ = some (.int .i64 c.i) := h.cell 2 _ rfl
  have q := hide (fail_calls h 16 c.i)
  clear h
  go_enter Tryd.func77, Tryd.ntmps77
  go_wp2_with (go_at_call 60; refine q.out.mono ?_; rintro e w1 ⟨rfl, q1⟩)
  first | go_end0 | ((try simp only [Exit.inBlock, Exit.then]); refine bodyPost_ret (results_none rfl _ _ _) rfl ?_)
  exact ⟨rfl, q1⟩
set_option maxRecDepth 100000 in
theorem noNumber_calls {F : Nat → Prop} {w : World} {g : Nat} {c : Sc} {acc : List UInt8} {ts : List S.Tok} {tv ov : Value} (h : SS F w g c acc ts tv ov) :
    Calls Tryd.prog 79 #[.pointer (some ⟨g, 0, none⟩)] w fun e w' => e = .returned (.tuple #[]) ∧ Left F w w' g { c with fault := 12, place := c.i } acc ts := by
  have a0 : w.cell? ⟨g, 2, none⟩ = some (.int .i64 c.i) := h.cell 2 _ rfl
  have q := hide (fail_calls h 12 c.i)
  clear h
  go_enter Tryd.func79, Tryd.ntmps79
  go_wp2_with (go_at_call 60; refine q.out.mono ?_; rintro e w1 ⟨rfl, q1⟩)
  first | go_end0 | ((try simp only [Exit.inBlock, Exit.then]); refine bodyPost_ret (results_none rfl _ _ _) rfl ?_)
  exact ⟨rfl, q1⟩
set_option maxRecDepth 100000 in
theorem noMark_calls {F : Nat → Prop} {w : World} {g : Nat} {c : Sc} {acc : List UInt8} {ts : List S.Tok} {tv ov : Value} (h : SS F w g c acc ts tv ov) :
    Calls Tryd.prog 73 #[.pointer (some ⟨g, 0, none⟩)] w fun e w' => e = .returned (.tuple #[]) ∧ Left F w w' g { c with fault := 14, place := c.beg } acc ts := by
  have a0 : w.cell? ⟨g, 3, none⟩ = some (.int .i64 c.beg) := h.cell 3 _ rfl
  have q := hide (fail_calls h 14 c.beg)
  clear h
  go_enter Tryd.func73, Tryd.ntmps73
  go_wp2_with (go_at_call 60; refine q.out.mono ?_; rintro e w1 ⟨rfl, q1⟩)
  first | go_end0 | ((try simp only [Exit.inBlock, Exit.then]); refine bodyPost_ret (results_none rfl _ _ _) rfl ?_)
  exact ⟨rfl, q1⟩
set_option maxRecDepth 100000 in
theorem noBar_calls {F : Nat → Prop} {w : World} {g : Nat} {c : Sc} {acc : List UInt8} {ts : List S.Tok} {tv ov : Value} (h : SS F w g c acc ts tv ov) :
    Calls Tryd.prog 75 #[.pointer (some ⟨g, 0, none⟩)] w fun e w' => e = .returned (.tuple #[]) ∧ Left F w w' g { c with fault := 15, place := c.beg } acc ts := by
  have a0 : w.cell? ⟨g, 3, none⟩ = some (.int .i64 c.beg) := h.cell 3 _ rfl
  have q := hide (fail_calls h 15 c.beg)
  clear h
  go_enter Tryd.func75, Tryd.ntmps75
  go_wp2_with (go_at_call 60; refine q.out.mono ?_; rintro e w1 ⟨rfl, q1⟩)
  first | go_end0 | ((try simp only [Exit.inBlock, Exit.then]); refine bodyPost_ret (results_none rfl _ _ _) rfl ?_)
  exact ⟨rfl, q1⟩
set_option maxRecDepth 100000 in
theorem noCharacter_calls {F : Nat → Prop} {w : World} {g : Nat} {c : Sc} {acc : List UInt8} {ts : List S.Tok} {tv ov : Value} (h : SS F w g c acc ts tv ov) :
    Calls Tryd.prog 109 #[.pointer (some ⟨g, 0, none⟩)] w fun e w' => e = .returned (.tuple #[]) ∧ Left F w w' g { c with fault := 11, place := c.cbeg } acc ts := by
  have a0 : w.cell? ⟨g, 7, none⟩ = some (.int .i64 c.cbeg) := h.cell 7 _ rfl
  have q := hide (fail_calls h 11 c.cbeg)
  clear h
  go_enter Tryd.func109, Tryd.ntmps109
  go_wp2_with (go_at_call 60; refine q.out.mono ?_; rintro e w1 ⟨rfl, q1⟩)
  first | go_end0 | ((try simp only [Exit.inBlock, Exit.then]); refine bodyPost_ret (results_none rfl _ _ _) rfl ?_)
  exact ⟨rfl, q1⟩
theorem nothing_calls {F : Nat → Prop} {w : World} {g : Nat} {c : Sc} {acc : List UInt8} {ts : List S.Tok} {tv ov : Value} (h : SS F w g c acc ts tv ov) :
    Calls Tryd.prog 52 #[.pointer (some ⟨g, 0, none⟩)] w fun e w' => e = .returned (.tuple #[]) ∧ Left F w w' g c acc ts := by
  have h1 := hide h
  clear h
  go_enter Tryd.func52, Tryd.ntmps52
  go_wp2
  first | go_end0 | ((try simp only [Exit.inBlock, Exit.then]); refine bodyPost_ret (results_none rfl _ _ _) rfl ?_)
  exact ⟨rfl, ⟨_, _, h1.out⟩, Kp.refl F w⟩
end Go.Proofs.YtjbalgjdcdmjjaaDoor
