/-
  The document's side of scan: strings and quoted symbols.
-/
import Derived.Test.YtjbalgjdcdmjjaaDoorRefScan4
namespace Go.Proofs.YtjbalgjdcdmjjaaDoor
open Go.RowKit
set_option linter.unusedVariables false
/-- What the calls of the document tell of a place: the token, the error, its place. -/
def oneT (r : S.DR) : S.Tok := match r with | .inl (t, _) => t | .inr _ => tk0
def oneE (r : S.DR) : Nat := match r with | .inl _ => 0 | .inr (e, _) => e
def oneP (r : S.DR) : Nat := match r with | .inl _ => 0 | .inr (_, p) => p
def tkAgg (t : S.Tok) : Value := .agg #[.int .i64 t.kind, .int .i64 t.beg, .int .i64 t.fin, .string ⟨t.text.toArray⟩]
def oneV (r : S.DR) : Value := .tuple #[tkAgg (oneT r), .int .i64 (oneE r), .int .i64 (oneP r)]
theorem dBars_bar {g : Nat} {a t : List UInt8} {i : Nat} : S.dBars g a (124 :: t) i = .inl (⟨3, g, i + 1, a⟩, t) := by
  rw [S.dBars]; simp
theorem dBars_back {g : Nat} {a t : List UInt8} {i : Nat} : S.dBars g a (92 :: t) i = .inr (15, i) := by
  rw [S.dBars]; simp
theorem dBars_ctl {g : Nat} {a t : List UInt8} {i : Nat} {b : UInt8} (h1 : b ≠ 124) (h2 : b ≠ 92) (h3 : S.ctl b = true) : S.dBars g a (b :: t) i = .inr (10, i) := by
  rw [S.dBars]; simp [h1, h2, h3]
theorem dBars_bad {g : Nat} {a t : List UInt8} {i : Nat} {b : UInt8} (h1 : b ≠ 124) (h2 : b ≠ 92) (h3 : S.ctl b = false) (h4 : S.chr (b :: t) = 0) : S.dBars g a (b :: t) i = .inr (11, i) := by
  rw [S.dBars]; simp [h1, h2, h3, h4]
theorem dBars_step {g : Nat} {a t : List UInt8} {i : Nat} {b : UInt8} (h1 : b ≠ 124) (h2 : b ≠ 92) (h3 : S.ctl b = false) (h4 : S.chr (b :: t) ≠ 0) : S.dBars g a (b :: t) i = S.dBars g (a ++ (b :: t).take (S.chr (b :: t))) ((b :: t).drop (S.chr (b :: t))) (i + S.chr (b :: t)) := by
  rw [S.dBars]; simp [h1, h2, h3, h4]
theorem take_more (l : List UInt8) (i k n : Nat) (h1 : i + 1 ≤ k) (h2 : k + n ≤ l.length) : (l.take (k + n)).drop (i + 1) = (l.take k).drop (i + 1) ++ (l.drop k).take n := by
  rw [List.take_add, List.drop_append, List.length_take, Nat.min_eq_left (by omega), show i + 1 - k = 0 from by omega, List.drop_zero]
theorem extract_eq {s : ByteArray} {l : List UInt8} (hs : s.data.toList = l) (a b : Nat) : s.extract a b = ⟨((l.take b).drop a).toArray⟩ := by
  have h := extract_mid hs a b
  generalize s.extract a b = x at h
  cases x with
  | mk d => simp at h; rw [← h]
theorem run_midL (s : ByteArray) (l : List UInt8) (hs : s.data.toList = l) (i j : Int) (a b : Nat) (hi : i = a) (hj : j = b) (h1 : a ≤ b) (h2 : b ≤ s.size) (W : World) :
    (Instr.sliceAt 9 (.string s) (some (.int .i64 i)) (some (.int .i64 j)) none).run Tryd.prog W = .ok (.string ⟨((l.take b).drop a).toArray⟩) W := by
  rw [← extract_eq hs a b]
  exact run_mid s i j a b hi hj h1 h2 W
set_option maxRecDepth 100000 in
set_option maxHeartbeats 1600000 in
theorem bars_calls (w : World) (s : ByteArray) (l : List UInt8) (hs : s.data.toList = l) (hl : l.length ≤ 1073741824) (i : Nat) (hi : i < l.length) :
    Calls Tryd.prog 43 #[.string s, .int .i64 i] w fun e w' => e = .returned (oneV (S.dBars i [] (l.drop (i + 1)) (i + 1))) ∧ Below w.heap.size w w' := by
  have hn := size_of s l hs
  have hz : s.size ≤ 1073741824 := by omega
  have hat := hide (fun (k : Nat) (h : k < s.size) => byteAt s l hs k h)
  have qc := hide (fun W k (hk : k < l.length) => char_calls W s l hs hl k hk)
  have hi0 : i < s.size := by omega
  obtain ⟨R, hR⟩ : ∃ R, S.dBars i [] (l.drop (i + 1)) (i + 1) = R := ⟨_, rfl⟩
  rw [hR]
  have hR0 : Hid (S.dBars i ((l.take (i + 1)).drop (i + 1)) (l.drop (i + 1)) (i + 1) = R) := by
    rw [show (l.take (i + 1)).drop (i + 1) = [] from by simp]
    exact hR
  replace hn := hide hn
  have hs' := hide hs
  clear hs hl hi hR
  have B0 : Hid (Below w.heap.size w (w.alloc (.cells #[.int .i64 0, .int .i64 0, .int .i64 0, .string ⟨#[]⟩] 66))) := (Below.refl _ w).alloc (Nat.le_refl _) _
  go_enter Tryd.func43, Tryd.ntmps43
  go_wp2
  go_loop [7] (fun j => ∃ k : Nat, i + 1 ≤ k ∧ k ≤ s.size ∧ j = .int .i64 k ∧ Hid (S.dBars i ((l.take k).drop (i + 1)) (l.drop k) k = R)) (fun j => s.size - (intOf j).toNat)
  case atStart => exact ⟨i + 1, by omega, by omega, by go_num, hR0⟩
  case round =>
    clear hR0
    obtain ⟨k, hk1, hk2, rfl, hR⟩ := hrel
    by_cases hlt : k < s.size
    · have hll : k < l.length := by rw [← hn.out]; exact hlt
      have hb : s[k]'hlt = l.getD k 0 := hat.out k hlt
      have ed := drop_cons l k hll
      obtain ⟨b, hb2⟩ : ∃ b, l.getD k 0 = b := ⟨_, rfl⟩
      rw [hb2] at hb ed
      have hR2 := hR.out
      rw [ed] at hR2
      by_cases c124 : b = 124
      · subst c124
        have e1 : Hid (R = .inl (⟨3, i, k + 1, (l.take k).drop (i + 1)⟩, l.drop (k + 1))) := by rw [← hR2]; exact dBars_bar
        have sm := fun W => run_midL s l hs'.out ((i : Int) + 1) (k : Int) (i + 1) k (by omega) rfl hk1 hk2 W
        clear hR hR2 ed hb2
        generalize (l.take k).drop (i + 1) = x at e1 sm
        go_wp2
        refine bodyPost_ret (v := .tuple #[.agg #[.int .i64 3, .int .i64 i, .int .i64 ((k : Int) + 1), .string ⟨x.toArray⟩], .int .i64 0, .int .i64 0]) (by simp [results, Tryd.results43, go_sem]) rfl ?_
        exact ⟨by rw [e1.out]; rfl, (Below.refl _ w).alloc (Nat.le_refl _) _⟩
      have n124 : ¬ (b.toNat : Int) = 124 := ne_byte (by decide) c124
      by_cases c92 : b = 92
      · subst c92
        have e1 : Hid (R = .inr (15, k)) := by rw [← hR2]; exact dBars_back
        clear hR hR2 ed hb2
        go_wp2
        refine bodyPost_ret (v := .tuple #[.agg #[.int .i64 0, .int .i64 0, .int .i64 0, .string ⟨#[]⟩], .int .i64 15, .int .i64 k]) (by simp [results, Tryd.results43, go_sem]) rfl ?_
        exact ⟨by rw [e1.out]; rfl, (Below.refl _ w).alloc (Nat.le_refl _) _⟩
      have n92 : ¬ (b.toNat : Int) = 92 := ne_byte (by decide) c92
      have qt := hide (fun W => rControl_calls W b)
      cases hct : S.ctl b with
      | true =>
        rw [hct] at qt
        have e1 : Hid (R = .inr (10, k)) := by rw [← hR2]; exact dBars_ctl c124 c92 hct
        clear hR hR2 ed hb2 hct c124 c92
        go_wp2_with (go_at_call 40; refine (qt.out _).mono ?_; rintro e w2 ⟨rfl, rfl⟩)
        refine bodyPost_ret (v := .tuple #[.agg #[.int .i64 0, .int .i64 0, .int .i64 0, .string ⟨#[]⟩], .int .i64 10, .int .i64 k]) (by simp [results, Tryd.results43, go_sem]) rfl ?_
        exact ⟨by rw [e1.out]; rfl, (Below.refl _ w).alloc (Nat.le_refl _) _⟩
      | false =>
        rw [hct] at qt
        have qd := fun W => qc.out W k hll
        rw [ed] at qd
        obtain ⟨n, hnn⟩ : ∃ n, S.chr (b :: l.drop (k + 1)) = n := ⟨_, rfl⟩
        rw [hnn] at qd
        replace qd := hide qd
        by_cases h0 : n = 0
        · subst h0
          have e1 : Hid (R = .inr (11, k)) := by rw [← hR2]; exact dBars_bad c124 c92 hct hnn
          clear hR hR2 ed hb2 hct c124 c92 hnn
          go_wp2_with (first
            | (go_at_call 40; refine (qt.out _).mono ?_; rintro e w2 ⟨rfl, rfl⟩)
            | (go_at_call 41; refine (qd.out _).mono ?_; rintro e w2 ⟨rfl, rfl⟩))
          refine bodyPost_ret (v := .tuple #[.agg #[.int .i64 0, .int .i64 0, .int .i64 0, .string ⟨#[]⟩], .int .i64 11, .int .i64 k]) (by simp [results, Tryd.results43, go_sem]) rfl ?_
          exact ⟨by rw [e1.out]; rfl, (Below.refl _ w).alloc (Nat.le_refl _) _⟩
        · rw [dBars_step c124 c92 hct (by rw [hnn]; exact h0)] at hR2
          have hle := chr_pos_le (b := b) (t := l.drop (k + 1)) (by rw [hnn]; exact h0)
          rw [hnn] at hR2 hle
          rw [← ed] at hR2
          rw [List.length_drop] at hle
          have hmn : k + n ≤ s.size := by have := hn.out; omega
          have hR4 : Hid (S.dBars i ((l.take (k + n)).drop (i + 1)) (l.drop (k + n)) (k + n) = R) := by
            rw [← take_more l i k n hk1 (by have := hn.out; omega), List.drop_drop] at hR2
            exact hR2
          have h01 : ¬ (n : Int) = 0 := by omega
          have hn1 : 1 ≤ n := hle.1
          clear hR2 ed hb2 hR hct c124 c92 hnn hle
          go_wp2_with (first
            | (go_at_call 40; refine (qt.out _).mono ?_; rintro e w2 ⟨rfl, rfl⟩)
            | (go_at_call 41; refine (qd.out _).mono ?_; rintro e w2 ⟨rfl, rfl⟩))
          go_round
          case rel => exact ⟨k + n, by omega, by omega, by go_num, hR4⟩
          case measure => simp [intOf]; omega
    · have e1 : Hid (R = .inr (15, i)) := by
        have hk3 : k = l.length := by have := hn.out; omega
        have h := hR.out
        rw [hk3, List.drop_length, S.dBars] at h
        exact h.symm
      clear hR
      go_wp2
      refine bodyPost_ret (v := .tuple #[.agg #[.int .i64 0, .int .i64 0, .int .i64 0, .string ⟨#[]⟩], .int .i64 15, .int .i64 i]) (by simp [results, Tryd.results43, go_sem]) rfl ?_
      exact ⟨by rw [e1.out]; rfl, (Below.refl _ w).alloc (Nat.le_refl _) _⟩
end Go.Proofs.YtjbalgjdcdmjjaaDoor
