/-
  The scanner's states: within a character.
-/
import Derived.Test.YtjbalgjdcdmjjaaDoorScanCont
namespace Go.Proofs.YtjbalgjdcdmjjaaDoor
open Go.RowKit
set_option linter.unusedVariables false
set_option maxRecDepth 100000 in
set_option maxHeartbeats 1600000 in
theorem inCharacter_calls {F : Nat → Prop} {w : World} {g : Nat} {c : Sc} {acc : List UInt8} {ts : List S.Tok} {tv ov : Value} (h : SS F w g c acc ts tv ov) {i : Nat} (hs : Sane c i) (hi : i ≤ 274877906944) (hl : acc.length ≤ i) (ht : ts.length ≤ 2 * i) (b : UInt8) {q : S.Cont} {st n lo tp : Nat} (ha : AtS g (.char q st n lo tp) c acc) :
    Calls Tryd.prog 110 #[.pointer (some ⟨g, 0, none⟩), .int .u8 b.toNat] w fun e w' => e = .returned (.tuple #[]) ∧ Fits F w w' g i ts (S.step resv (.char q st n lo tp) b i) := by
  obtain ⟨ha1, ha2, rfl, rfl, rfl, rfl, ha3, hn1, hn2, hn3, hn4⟩ := ha
  have hmf : ∀ (fn : Fn) (first cap : Array Value) (w : World), (Instr.makeFunc fn first cap).run Tryd.prog w = .ok (.func fn first cap) w := fun _ _ _ _ => rfl
  have h0 := hide h
  have hs0 := hide hs
  have e : S.step resv (.char q c.cbeg c.left c.low c.top) b i = if b.toNat < c.low ∨ c.top < b.toNat then .err [] 11 c.cbeg else if c.left = 1 then .go [] (.cont (S.keepC q b)) else .go [] (.char (S.keepC q b) c.cbeg (c.left - 1) 0x80 0xBF) := rfl
  rw [e]
  clear e
  replace ha1 := hide ha1
  replace ha2 := hide ha2
  obtain ⟨K1, K2, e1, e2⟩ := ha3.mv
  obtain ⟨-, -, -, -, -, -, -, c7, c8, c9, c10, c11, c12, -⟩ := h.cells
  clear h hs
  by_cases d1 : b.toNat < c.low
  · rw [if_pos (.inl d1)]
    have d2 : (b.toNat : Int) < c.low := by omega
    go_enter Tryd.func110, Tryd.ntmps110
    go_wp2_with (go_at_call 109; refine (noCharacter_calls h0.out).mono ?_; rintro e w1 ⟨rfl, ⟨tv1, ov1, h1⟩, k1⟩)
    first | go_end0 | ((try simp only [Exit.inBlock, Exit.then]); refine bodyPost_ret (results_none rfl _ _ _) rfl ?_)
    exact ⟨rfl, fits_err h1 ⟨rfl, rfl, hs0.out.2.2.2⟩ k1⟩
  have d2 : ¬ (b.toNat : Int) < c.low := by omega
  by_cases d3 : c.top < b.toNat
  · rw [if_pos (.inr d3)]
    have d4 : (c.top : Int) < b.toNat := by omega
    go_enter Tryd.func110, Tryd.ntmps110
    go_wp2_with (go_at_call 109; refine (noCharacter_calls h0.out).mono ?_; rintro e w1 ⟨rfl, ⟨tv1, ov1, h1⟩, k1⟩)
    first | go_end0 | ((try simp only [Exit.inBlock, Exit.then]); refine bodyPost_ret (results_none rfl _ _ _) rfl ?_)
    exact ⟨rfl, fits_err h1 ⟨rfl, rfl, hs0.out.2.2.2⟩ k1⟩
  have d4 : ¬ (c.top : Int) < b.toNat := by omega
  rw [if_neg (by omega)]
  clear d1 d3
  have hkeep : ∃ acc2, AtC g (S.keepC q b) c.cstep c.cstop c.kind c.beg acc2 ∧ acc2.length ≤ i + 1 ∧ Hid (Calls Tryd.prog 64 #[.pointer (some ⟨g, 0, none⟩), .int .u8 b.toNat] w fun e w' => e = .returned (.tuple #[]) ∧ Left F w w' g c acc2 ts) := by
    rcases q with ⟨⟩ | ⟨bg, a⟩ | ⟨bg, a⟩
    · obtain ⟨x1, x2, x3⟩ := ha3
      exact ⟨acc, ⟨x1, x2, x3⟩, by omega, keep_none h0.out b x3⟩
    · obtain ⟨x1, x2, x3, x4, x5⟩ := ha3
      exact ⟨acc ++ [b], ⟨x1, x2, x3, x4, by rw [x5]⟩, by simp; omega, keep_calls h0.out b (by omega) (by omega)⟩
    · obtain ⟨x1, x2, x3, x4, x5⟩ := ha3
      exact ⟨acc ++ [b], ⟨x1, x2, x3, x4, by rw [x5]⟩, by simp; omega, keep_calls h0.out b (by omega) (by omega)⟩
  obtain ⟨acc2, ha4, hl2, qk⟩ := hkeep
  clear ha3
  have ew : IntKind.i64.wrap ((c.left : Int) - 1) = ((c.left - 1 : Nat) : Int) := by rw [IntKind.wrap_i64]; omega
  by_cases d5 : c.left = 1
  · rw [if_pos d5]
    have e5 : c.left - 1 = 0 := by omega
    go_enter Tryd.func110, Tryd.ntmps110
    go_wp2_with (go_at_call 64; refine qk.out.mono ?_; rintro e w1 ⟨rfl, ⟨tv1, ov1, h1⟩, k1⟩; obtain ⟨f0, f1, f2, f3, f4, f5, f6, f7, f8, f9, f10, f11, f12, f13⟩ := h1.cells; have fz := h1.frozen; have h2 := hide (((h1.set 9 (.int .u8 128) { c with low := 128 } rfl).set 10 (.int .u8 191) { c with low := 128, top := 191 } rfl).set 8 (.int .i64 ((c.left - 1 : Nat) : Int)) { c with low := 128, top := 191, left := c.left - 1 } rfl); have k2 := hide (((k1.set h1.mine 9 (.int .u8 128)).set h1.mine 10 (.int .u8 191)).set h1.mine 8 (.int .i64 ((c.left - 1 : Nat) : Int))); clear h1 k1 f0 f1 f2 f3 f4 f5 f6 f7 f13; rw [e1] at f11; rw [e2] at f12; rw [e5] at h2 k2; rw [d5] at f8; unfold mv at f11 f12)
    go_region_with (go_at_call 50; refine (become_calls h2.out.drew K1 K2).mono ?_; rintro e w3 ⟨rfl, ⟨tv3, ov3, h3⟩, k3⟩)
    all_goals first | go_end0 | ((try simp only [Exit.inBlock, Exit.then]); refine bodyPost_ret (results_none rfl _ _ _) rfl ?_)
    all_goals exact ⟨rfl, fits_on h3 (q := .cont (S.keepC q b)) (by rw [e1, e2] at ha4; exact ha4) hs0.out hl2 (k2.out.drew.trans k3)⟩
  · rw [if_neg d5]
    have e5 : ¬ ((c.left - 1 : Nat) : Int) = 0 := by omega
    go_enter Tryd.func110, Tryd.ntmps110
    go_wp2_with (go_at_call 64; refine qk.out.mono ?_; rintro e w1 ⟨rfl, ⟨tv1, ov1, h1⟩, k1⟩; obtain ⟨f0, f1, f2, f3, f4, f5, f6, f7, f8, f9, f10, f11, f12, f13⟩ := h1.cells; have fz := h1.frozen; have h2 := hide (((h1.set 9 (.int .u8 128) { c with low := 128 } rfl).set 10 (.int .u8 191) { c with low := 128, top := 191 } rfl).set 8 (.int .i64 ((c.left - 1 : Nat) : Int)) { c with low := 128, top := 191, left := c.left - 1 } rfl); have k2 := hide (((k1.set h1.mine 9 (.int .u8 128)).set h1.mine 10 (.int .u8 191)).set h1.mine 8 (.int .i64 ((c.left - 1 : Nat) : Int))); clear h1 k1 f0 f1 f2 f3 f4 f5 f6 f7 f13)
    first | go_end0 | ((try simp only [Exit.inBlock, Exit.then]); refine bodyPost_ret (results_none rfl _ _ _) rfl ?_)
    exact ⟨rfl, fits_on h2.out (q := .char (S.keepC q b) c.cbeg (c.left - 1) 0x80 0xBF) ⟨ha1.out, ha2.out, rfl, rfl, rfl, rfl, ha4, by omega, by omega, by decide, by decide⟩ hs0.out hl2 k2.out⟩
end Go.Proofs.YtjbalgjdcdmjjaaDoor
