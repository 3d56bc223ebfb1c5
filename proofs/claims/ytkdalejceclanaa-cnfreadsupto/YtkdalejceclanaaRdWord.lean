/-
  Package words: isBreak, isWhite, skip, Word.
-/
import Derived.Test.YtkdalejceclanaaTextBase
import Derived.Test.YtkdalejceclanaaRdMath
import Derived.Deep.RegionHeld3
import Derived.Deep.DeepCutAuto
namespace Go.RowKit
theorem Below.then_grown {w w1 w2 : World} {r : Option Nat} (h : Below w.heap.size w w1) (q : w1.grownBy w2 r) (hr : ∀ g, r = some g → w.heap.size ≤ g) : Below w.heap.size w w2 :=
  h.trans ⟨q.os, q.tape, q.output, q.size, fun k hk => q.block k (Nat.lt_of_lt_of_le hk h.size) (fun e => by have := hr k e.symm; omega)⟩
theorem Below.then_below {w w1 w2 : World} (h : Below w.heap.size w w1) (q : Below w1.heap.size w1 w2) : Below w.heap.size w w2 := h.trans (q.mono h.size)
end Go.RowKit
namespace Go.Proofs.Ytkdalejceclanaa
open Go.RowKit
set_option linter.unusedVariables false
theorem below_drewN {n : Nat} {w w' : World} (h : Below n w w') (k : Nat) : Below n w (w'.drewN k) := ⟨h.os, h.tape, h.output, h.size, h.block⟩
theorem unhide {p : Prop} (h : Hid p) : p := h
theorem beq_no {a b : Int} (h : a ≠ b) : (a == b) = false := by simpa using h
theorem bne_no {a b : Int} (h : a ≠ b) : (a != b) = true := by simpa using h
theorem u8_eq {b : UInt8} {n : Nat} (hn : n < 256) (h : b.toNat = n) : b = UInt8.ofNat n := UInt8.toNat_inj.1 (by rw [h]; simp; omega)
theorem u8_ne {b c : UInt8} (h : b ≠ c) : ((b.toNat : Int) == (c.toNat : Int)) = false := by
  refine beq_no (fun e => h (UInt8.toNat_inj.1 (by omega)))
theorem brk_iff (b : UInt8) : RD.brk b = decide (b.toNat = 10 ∨ b.toNat = 13) := by
  unfold RD.brk
  by_cases h1 : b = 10
  · subst h1; rfl
  · by_cases h2 : b = 13
    · subst h2; rfl
    · have e1 : b.toNat ≠ 10 := fun e => h1 (UInt8.toNat_inj.1 e)
      have e2 : b.toNat ≠ 13 := fun e => h2 (UInt8.toNat_inj.1 e)
      simp [h1, h2, e1, e2]
theorem white_iff (b : UInt8) : RD.white b = decide (b.toNat = 10 ∨ b.toNat = 13 ∨ b.toNat = 9 ∨ b.toNat = 32) := by
  unfold RD.white
  rw [brk_iff]
  by_cases h1 : b = 9
  · subst h1; rfl
  · by_cases h2 : b = 32
    · subst h2; rfl
    · have e1 : b.toNat ≠ 9 := fun e => h1 (UInt8.toNat_inj.1 e)
      have e2 : b.toNat ≠ 32 := fun e => h2 (UInt8.toNat_inj.1 e)
      simp [h1, h2, e1, e2]
set_option maxRecDepth 100000 in
set_option maxHeartbeats 1600000 in
theorem isBreak_calls (w : World) (b : UInt8) : Calls Try.prog 114 #[.int .u8 (b.toNat : Int)] w fun e w' => e = .returned (.bool (RD.brk b)) ∧ w' = w := by
  rw [brk_iff]
  generalize b.toNat = n
  by_cases h1 : n = 10
  · subst h1
    go_enter Try.func114, Try.ntmps114
    go_wp2
    go_ret
    exact ⟨rfl, rfl⟩
  · have t1 : ((n : Int) == 10) = false := beq_no (by omega)
    by_cases h2 : n = 13
    · subst h2
      go_enter Try.func114, Try.ntmps114
      go_wp2
      go_ret
      exact ⟨rfl, rfl⟩
    · have t2 : ((n : Int) == 13) = false := beq_no (by omega)
      rw [decide_eq_false (by omega)]
      clear h1 h2
      go_enter Try.func114, Try.ntmps114
      go_wp2
      go_ret
      exact ⟨rfl, rfl⟩
set_option maxRecDepth 100000 in
set_option maxHeartbeats 1600000 in
theorem isWhite_calls (w : World) (b : UInt8) : Calls Try.prog 105 #[.int .u8 (b.toNat : Int)] w fun e w' => e = .returned (.bool (RD.white b)) ∧ w' = w := by
  have q := isBreak_calls w b
  obtain ⟨r, hr⟩ : ∃ r, RD.white b = r := ⟨_, rfl⟩
  rw [hr]
  cases hb : RD.brk b
  · rw [hb] at q
    replace q := hide q
    have e : r = decide (b.toNat = 9 ∨ b.toNat = 32) := by
      rw [← hr, white_iff]
      rw [brk_iff] at hb
      have := of_decide_eq_false hb
      congr 1
      simp only [eq_iff_iff]
      omega
    replace e := hide e
    clear hr hb
    generalize b.toNat = n at *
    by_cases h1 : n = 9
    · have E : Hid (r = true) := e.out.trans (decide_eq_true (.inl h1))
      subst h1
      clear e
      go_enter Try.func105, Try.ntmps105
      go_wp2_with (go_at_call 114; refine q.out.mono ?_; rintro e w' ⟨rfl, rfl⟩)
      go_ret
      exact ⟨by rw [E.out]; rfl, rfl⟩
    · have t1 : ((n : Int) == 9) = false := beq_no (by omega)
      by_cases h2 : n = 32
      · have E : Hid (r = true) := e.out.trans (decide_eq_true (.inr h2))
        subst h2
        clear e h1
        go_enter Try.func105, Try.ntmps105
        go_wp2_with (go_at_call 114; refine q.out.mono ?_; rintro e w' ⟨rfl, rfl⟩)
        go_ret
        exact ⟨by rw [E.out]; rfl, rfl⟩
      · have E : Hid (r = false) := e.out.trans (decide_eq_false (by omega))
        have t2 : ((n : Int) == 32) = false := beq_no (by omega)
        clear e h1 h2
        go_enter Try.func105, Try.ntmps105
        go_wp2_with (go_at_call 114; refine q.out.mono ?_; rintro e w' ⟨rfl, rfl⟩)
        go_ret
        exact ⟨by rw [E.out]; rfl, rfl⟩
  · rw [hb] at q
    replace q := hide q
    have E : Hid (r = true) := by
      show _ = _
      rw [← hr]
      unfold RD.white
      rw [hb]
      rfl
    clear hr hb
    go_enter Try.func105, Try.ntmps105
    go_wp2_with (go_at_call 114; refine q.out.mono ?_; rintro e w' ⟨rfl, rfl⟩)
    go_ret
    exact ⟨by rw [E.out]; rfl, rfl⟩
/-- A reader in memory: its text, where it met a word last, where it goes on. -/
def RDR (w : World) (g : Nat) (s : ByteArray) (a n : Nat) : Prop := w.heap[g]? = some (.cells #[.string s, .int .i64 (a : Int), .int .i64 (n : Int)] 132 (0, 0))
theorem RDR.cells {w : World} {g : Nat} {s : ByteArray} {a n : Nat} (h : RDR w g s a n) : (w.cell? ⟨g, 0, none⟩ = some (.string s) ∧ w.cell? ⟨g, 1, none⟩ = some (.int .i64 (a : Int)) ∧ w.cell? ⟨g, 2, none⟩ = some (.int .i64 (n : Int))) ∧ w.frozen? ⟨g, 1, none⟩ = false ∧ w.frozen? ⟨g, 2, none⟩ = false := by
  refine ⟨⟨?_, ?_, ?_⟩, ?_, ?_⟩
  · rw [cell_of_row _ _ _ _ _ _ h]; rfl
  · rw [cell_of_row _ _ _ _ _ _ h]; rfl
  · rw [cell_of_row _ _ _ _ _ _ h]; rfl
  · exact frozen_of_row _ _ _ _ _ h
  · exact frozen_of_row _ _ _ _ _ h
theorem RDR.lt {w : World} {g : Nat} {s : ByteArray} {a n : Nat} (h : RDR w g s a n) : g < w.heap.size := (Array.getElem?_eq_some_iff.1 h).1
theorem com_at {t : List UInt8} {i : Nat} (h : (t.getD i 0).toNat ≠ 99) : RD.com t i = false := by
  unfold RD.com
  have : (t.getD i 0 == 99) = false := by
    rw [beq_eq_false_iff_ne]
    intro e
    rw [e] at h
    exact h rfl
  rw [this]
  rfl
theorem com_zero {t : List UInt8} (h : (t.getD 0 0).toNat = 99) : RD.com t 0 = true := by
  unfold RD.com RD.begins
  rw [show t.getD 0 0 = 99 from UInt8.toNat_inj.1 h]
  rfl
theorem com_pos {t : List UInt8} {i : Nat} (h : (t.getD (i + 1) 0).toNat = 99) : RD.com t (i + 1) = RD.brk (t.getD i 0) := by
  unfold RD.com RD.begins
  rw [show t.getD (i + 1) 0 = 99 from UInt8.toNat_inj.1 h]
  simp
set_option maxRecDepth 100000 in
set_option maxHeartbeats 8000000 in
theorem skip_calls (w : World) (g : Nat) (s : ByteArray) (t : List UInt8) (a n i : Nat) (hs : s.data.toList = t) (R : RDR w g s a n) (hl : t.length ≤ 140737488355328) (hi : i ≤ t.length) :
    Calls Try.prog 104 #[.pointer (some ⟨g, 0, none⟩), .int .i64 (i : Int)] w fun e w' => e = .returned (.int .i64 (RD.skip t i : Nat)) ∧ w' = w := by
  have hz := hide (size_of s t hs)
  obtain ⟨⟨c0, -, -⟩, -⟩ := R.cells
  have HL := hide hs
  have zz : (s.size : Int) = (t.length : Int) := by have := hz.out; omega
  clear R hs
  obtain ⟨A, hA⟩ : ∃ A, RD.skip t i = A := ⟨_, rfl⟩
  rw [hA]
  have E0 : Hid (RD.skipF t (t.length - i) i false = A) := hA
  clear hA
  go_enter Try.func104, Try.ntmps104
  go_wp2_with fail
  go_loop [1, 5] (fun x c => ∃ (k : Nat) (cc : Bool), x = .int .i64 (k : Int) ∧ c = .bool cc ∧ k ≤ t.length ∧ Hid (RD.skipF t (t.length - k) k cc = A)) (fun x _ => t.length - (intOf x).toNat)
  case atStart => exact ⟨i, false, rfl, rfl, hi, E0⟩
  case round =>
    clear E0
    obtain ⟨k, cc, rfl, rfl, hk, HA⟩ := hrel
    by_cases hlt : k < t.length
    · have hks : k < s.size := by have := hz.out; omega
      have hb := byteAt s t HL.out k hks
      have ST := hide (RD.skipF_at t cc hlt)
      have k0 : (0 : Int) ≤ (k : Int) := by omega
      have k1 : (k : Int) < (t.length : Int) := by omega
      obtain ⟨b, hbb⟩ : ∃ b, t.getD k 0 = b := ⟨_, rfl⟩
      rw [hbb] at hb
      have q := isBreak_calls w b
      have p := hide (isWhite_calls w b)
      have hbb' := hide hbb
      rw [hbb] at ST
      cases h1 : RD.brk b
      · rw [h1] at q
        replace q := hide q
        have ST2 : Hid (A = if RD.com t k then RD.skipF t (t.length - (k + 1)) (k + 1) true else if !cc && !RD.white b then k else RD.skipF t (t.length - (k + 1)) (k + 1) cc) := by
          show _ = _
          rw [← HA.out, ST.out, h1]
          rfl
        clear ST HA hbb h1
        -- a comment?
        by_cases h2 : b.toNat = 99
        · by_cases h3 : k = 0
          · have C : RD.com t k = true := by rw [h3]; exact com_zero (by rw [← h3, hbb'.out]; exact h2)
            have ST3 : Hid (RD.skipF t (t.length - (k + 1)) (k + 1) true = A) := by show _ = _; rw [ST2.out, C]; rfl
            have t1 : ((b.toNat : Int) == 99) = true := by rw [h2]; rfl
            have t2 : ((k : Int) == 0) = true := by rw [h3]; rfl
            clear ST2 C h3 h2 p
            go_wp2_with (go_at_call 114; refine q.out.mono ?_; rintro e w' ⟨rfl, rfl⟩)
            go_round
            case rel => exact ⟨k + 1, true, by go_num, rfl, by omega, ST3⟩
            case measure => simp [intOf]; omega
          · obtain ⟨j, rfl⟩ : ∃ j, k = j + 1 := ⟨k - 1, by omega⟩
            have C : RD.com t (j + 1) = RD.brk (t.getD j 0) := com_pos (by rw [hbb'.out]; exact h2)
            have hjs : j < s.size := by omega
            have hb2 := byteAt s t HL.out j hjs
            generalize t.getD j 0 = b2 at *
            have t1 : ((b.toNat : Int) == 99) = true := by rw [h2]; rfl
            have t2 : (((j + 1 : Nat) : Int) == 0) = false := beq_no (by omega)
            have t2' : ((j : Int) + 1 == 0) = false := beq_no (by omega)
            have t3 : IntKind.i64.wrap ((j : Int) + 1 - 1) = (j : Int) := by rw [IntKind.wrap_i64]; omega
            have j0 : (0 : Int) ≤ (j : Int) := by omega
            have q2 := isBreak_calls w b2
            have hw : RD.white b = false := by rw [white_iff, h2]; rfl
            rw [hw] at p
            cases h4 : RD.brk b2
            · rw [h4] at q2 C
              replace q2 := hide q2
              have ST3 : Hid (A = if !cc then j + 1 else RD.skipF t (t.length - (j + 1 + 1)) (j + 1 + 1) cc) := by
                show _ = _
                rw [ST2.out, C, hw]
                cases cc <;> rfl
              clear ST2 C h3 h2 hw h4
              cases cc
              · have E : Hid (A = j + 1) := ST3.out
                clear ST3
                go_wp2_with (first
                  | (go_at_call_of 114 (Value.int .u8 (b2.toNat : Int)); have y := tok; refine q2.out.mono ?_; rintro e w' ⟨rfl, rfl⟩)
                  | (go_at_call 114; refine q.out.mono ?_; rintro e w' ⟨rfl, rfl⟩; have tok : Hid True := trivial)
                  | (go_at_call 105; refine p.out.mono ?_; rintro e w' ⟨rfl, rfl⟩))
                go_ret
                exact ⟨by rw [E.out]; rfl, rfl⟩
              · have E : Hid (RD.skipF t (t.length - (j + 1 + 1)) (j + 1 + 1) true = A) := ST3.out.symm
                clear ST3
                go_wp2_with (first
                  | (go_at_call_of 114 (Value.int .u8 (b2.toNat : Int)); have y := tok; refine q2.out.mono ?_; rintro e w' ⟨rfl, rfl⟩)
                  | (go_at_call 114; refine q.out.mono ?_; rintro e w' ⟨rfl, rfl⟩; have tok : Hid True := trivial))
                go_round
                case rel => exact ⟨j + 1 + 1, true, by go_num, rfl, by omega, E⟩
                case measure => simp [intOf]; omega
            · rw [h4] at q2 C
              replace q2 := hide q2
              have E : Hid (RD.skipF t (t.length - (j + 1 + 1)) (j + 1 + 1) true = A) := by
                show _ = _
                rw [ST2.out, C]
                rfl
              clear ST2 C h3 h2 hw h4
              go_wp2_with (first
                | (go_at_call_of 114 (Value.int .u8 (b2.toNat : Int)); have y := tok; refine q2.out.mono ?_; rintro e w' ⟨rfl, rfl⟩)
                | (go_at_call 114; refine q.out.mono ?_; rintro e w' ⟨rfl, rfl⟩; have tok : Hid True := trivial))
              go_round
              case rel => exact ⟨j + 1 + 1, true, by go_num, rfl, by omega, E⟩
              case measure => simp [intOf]; omega
        · have C : RD.com t k = false := com_at (by rw [hbb'.out]; exact h2)
          have t1 : ((b.toNat : Int) == 99) = false := beq_no (by omega)
          have ST3 : Hid (A = if !cc && !RD.white b then k else RD.skipF t (t.length - (k + 1)) (k + 1) cc) := by
            show _ = _
            rw [ST2.out, C]
            rfl
          clear ST2 C h2
          cases cc
          · cases hw : RD.white b
            · rw [hw] at p ST3
              have E : Hid (A = k) := ST3.out
              clear ST3
              go_wp2_with (first
                | (go_at_call 114; refine q.out.mono ?_; rintro e w' ⟨rfl, rfl⟩)
                | (go_at_call 105; refine p.out.mono ?_; rintro e w' ⟨rfl, rfl⟩))
              go_ret
              exact ⟨by rw [E.out]; rfl, rfl⟩
            · rw [hw] at p ST3
              have E : Hid (RD.skipF t (t.length - (k + 1)) (k + 1) false = A) := ST3.out.symm
              clear ST3
              go_wp2_with (first
                | (go_at_call 114; refine q.out.mono ?_; rintro e w' ⟨rfl, rfl⟩)
                | (go_at_call 105; refine p.out.mono ?_; rintro e w' ⟨rfl, rfl⟩))
              go_round
              case rel => exact ⟨k + 1, false, by go_num, rfl, by omega, E⟩
              case measure => simp [intOf]; omega
          · have E : Hid (RD.skipF t (t.length - (k + 1)) (k + 1) true = A) := ST3.out.symm
            clear ST3 p
            go_wp2_with (go_at_call 114; refine q.out.mono ?_; rintro e w' ⟨rfl, rfl⟩)
            go_round
            case rel => exact ⟨k + 1, true, by go_num, rfl, by omega, E⟩
            case measure => simp [intOf]; omega
      · rw [h1] at q
        replace q := hide q
        have E : Hid (RD.skipF t (t.length - (k + 1)) (k + 1) false = A) := by
          show _ = _
          rw [← HA.out, ST.out, h1]
          rfl
        clear ST HA hbb h1 p
        go_wp2_with (go_at_call 114; refine q.out.mono ?_; rintro e w' ⟨rfl, rfl⟩)
        go_round
        case rel => exact ⟨k + 1, false, by go_num, rfl, by omega, E⟩
        case measure => simp [intOf]; omega
    · obtain rfl : k = t.length := by omega
      have E : Hid (A = t.length) := by show _ = _; rw [← HA.out, RD.skipF_end t cc (Nat.le_refl _)]
      clear HA hlt hk
      go_wp2
      go_ret
      exact ⟨by rw [E.out]; rfl, rfl⟩
end Go.Proofs.Ytkdalejceclanaa
