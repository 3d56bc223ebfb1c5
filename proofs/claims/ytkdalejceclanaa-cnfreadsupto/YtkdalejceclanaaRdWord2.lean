/-
  Package words: New, At, Word.
-/
import Derived.Test.YtkdalejceclanaaRdWord
namespace Go.Proofs.Ytkdalejceclanaa
open Go.RowKit
set_option linter.unusedVariables false
/-- Nothing but the block g changes, and what is new. -/
structure KG (g : Nat) (w w' : World) : Prop where
  os : w'.os = w.os
  tape : w'.tape = w.tape
  output : w'.output = w.output
  size : w.heap.size ≤ w'.heap.size
  block : ∀ k, k < w.heap.size → k ≠ g → w'.heap[k]? = w.heap[k]?
theorem KG.refl (g : Nat) (w : World) : KG g w w := ⟨rfl, rfl, rfl, Nat.le_refl _, fun _ _ _ => rfl⟩
theorem KG.trans {g : Nat} {a b c : World} (h : KG g a b) (k : KG g b c) : KG g a c :=
  ⟨k.os.trans h.os, k.tape.trans h.tape, k.output.trans h.output, Nat.le_trans h.size k.size, fun i hi hg => (k.block i (Nat.lt_of_lt_of_le hi h.size) hg).trans (h.block i hi hg)⟩
theorem KG.drewN {g : Nat} {a b : World} (h : KG g a b) (n : Nat) : KG g a (b.drewN n) := ⟨h.os, h.tape, h.output, h.size, h.block⟩
theorem KG.set {g : Nat} {a b : World} (h : KG g a b) (i : Nat) (v : Value) : KG g a (b.setCell ⟨g, i, none⟩ v) :=
  h.trans ⟨rfl, rfl, rfl, by simp [World.setCell], fun k _ hk => heap_setCell_other b ⟨g, i, none⟩ k v (fun c => hk c)⟩
theorem KG.of_below {g : Nat} {a b : World} (h : Below a.heap.size a b) : KG g a b := ⟨h.os, h.tape, h.output, h.size, fun k hk _ => h.block k hk⟩
theorem KG.below {g B : Nat} {a b : World} (h : KG g a b) (hB : B ≤ g) (hs : B ≤ a.heap.size) : Below B a b := ⟨h.os, h.tape, h.output, h.size, fun k hk => h.block k (by omega) (by omega)⟩
theorem RDR.keep {w w' : World} {g : Nat} {s : ByteArray} {a n : Nat} (h : RDR w g s a n) (q : Below w.heap.size w w') : RDR w' g s a n := (q.block g h.lt).trans h
theorem RDR.drewN {w : World} {g : Nat} {s : ByteArray} {a n : Nat} (h : RDR w g s a n) (k : Nat) : RDR (w.drewN k) g s a n := h
theorem RDR.at1 {w : World} {g : Nat} {s : ByteArray} {a n : Nat} (h : RDR w g s a n) (x : Nat) : RDR (w.setCell ⟨g, 1, none⟩ (.int .i64 (x : Int))) g s x n := by
  unfold RDR
  rw [heap_setCell_same w g 1 _ _ _ h]
  rfl
theorem RDR.at2 {w : World} {g : Nat} {s : ByteArray} {a n : Nat} (h : RDR w g s a n) (x : Nat) : RDR (w.setCell ⟨g, 2, none⟩ (.int .i64 (x : Int))) g s a x := by
  unfold RDR
  rw [heap_setCell_same w g 2 _ _ _ h]
  rfl
/-- Where a reader goes on. -/
def nxt (w : World) (g : Nat) : Nat := match w.cell? ⟨g, 2, none⟩ with
  | some (.int _ x) => x.toNat
  | _ => 0
theorem nxt_eq {w : World} {g : Nat} {s : ByteArray} {a n : Nat} (h : RDR w g s a n) : nxt w g = n := by
  unfold nxt
  rw [h.cells.1.2.2]
  exact Int.toNat_natCast n
theorem extract_piece (s : ByteArray) (t : List UInt8) (hs : s.data.toList = t) (x : Nat × Nat) : (s.extract x.1 x.2).data.toList = RD.piece t x := by
  unfold RD.piece
  rw [ByteArray.data_extract, Array.toList_extract, hs, List.extract_eq_take_drop, List.drop_take]
set_option maxRecDepth 100000 in
set_option maxHeartbeats 8000000 in
theorem word_calls (w : World) (g : Nat) (s : ByteArray) (t : List UInt8) (a n : Nat) (hs : s.data.toList = t) (R : RDR w g s a n) (hl : t.length ≤ 140737488355328) (hn : n ≤ t.length) :
    Calls Try.prog 78 #[.pointer (some ⟨g, 0, none⟩)] w fun e w' => e = .returned (.string (s.extract (RD.skip t n) (RD.we t (RD.skip t n)))) ∧ RDR w' g s (RD.skip t n) (RD.we t (RD.skip t n)) ∧ KG g w w' := by
  have hz := hide (size_of s t hs)
  have q := hide (skip_calls w g s t a n n hs R hl hn)
  obtain ⟨⟨c0, c1, c2⟩, z1, z2⟩ := R.cells
  have HL := hide hs
  have zz : (s.size : Int) = (t.length : Int) := by have := hz.out; omega
  have hA : Hid (RD.skip t n ≤ t.length) := RD.skip_le t hn
  clear hs hn
  generalize RD.skip t n = A at *
  obtain ⟨E, hE⟩ : ∃ E, RD.we t A = E := ⟨_, rfl⟩
  rw [hE]
  have E0 := hide hE
  have hEA : Hid (A ≤ E) := by show _ ≤ _; rw [← hE]; exact RD.we_ge t A
  have hEL : Hid (E ≤ t.length) := by show _ ≤ _; rw [← hE]; exact RD.we_le t hA.out
  clear hE
  have R1 := hide (R.at1 A)
  have K1 := hide ((KG.refl g w).set 1 (.int .i64 (A : Int)))
  go_enter Try.func78, Try.ntmps78
  go_upto_region 2 with (go_at_call 104; refine q.out.mono ?_; rintro e w' ⟨rfl, hw'⟩; subst w')
  clear c0 c1 c2 z1 z2 q R
  generalize w.setCell ⟨g, 1, none⟩ (.int .i64 (A : Int)) = w1 at *
  obtain ⟨⟨c0, c1, c2⟩, z1, z2⟩ := R1.out.cells
  have R2 := hide (R1.out.at2 A)
  have K2 := hide (K1.out.set 2 (.int .i64 (A : Int)))
  go_wp2_with fail
  clear c0 c1 c2 z1 z2 R1 K1
  generalize w1.setCell ⟨g, 2, none⟩ (.int .i64 (A : Int)) = w2 at *
  go_loopw [] (fun wr => ∃ k : Nat, A ≤ k ∧ k ≤ t.length ∧ Hid (RD.we t k = E) ∧ Hid (RDR wr g s A k) ∧ Hid (KG g w wr)) (fun wr => t.length - nxt wr g)
  case atStart => exact ⟨A, Nat.le_refl _, hA.out, E0, R2, K2⟩
  case round =>
    clear E0 R2 K2
    obtain ⟨k, hAk, hk, HE, RR, KK⟩ := hrel
    obtain ⟨⟨c0, c1, c2⟩, z1, z2⟩ := RR.out.cells
    have hnx := hide (nxt_eq RR.out)
    by_cases hlt : k < t.length
    · have hks : k < s.size := by have := hz.out; omega
      have hb := byteAt s t HL.out k hks
      have ST := hide (RD.weF_at t hlt)
      have k0 : (0 : Int) ≤ (k : Int) := by omega
      have k1 : (k : Int) < (t.length : Int) := by omega
      have k2 : decide ((k : Int) < (t.length : Int)) = true := decide_eq_true k1
      have k3 : (k : Int) < (s.size : Int) := by omega
      generalize t.getD k 0 = b at *
      have p := fun m => isWhite_calls (wr.drewN m) b
      cases hw : RD.white b
      · rw [hw] at p ST
        have p' := hide p
        have E1 : Hid (RD.we t (k + 1) = E) := by show _ = _; rw [← HE.out, ST.out]; rfl
        clear p hw ST HE
        have RN := hide (fun m => (RR.out.drewN m).at2 (k + 1))
        have KN := hide (fun m => (KK.out.drewN m).set 2 (.int .i64 ((k + 1 : Nat) : Int)))
        clear RR KK
        go_wp2_with fail
        go_quiet ((go_at_call 105; exact Calls.quiet_of_same (unhide p' _)))
        go_wp2_with fail
        go_roundw
        case rel => exact ⟨k + 1, by omega, by omega, E1, RN.out _, KN.out _⟩
        case measure =>
          have e : nxt ((wr.drewN nq).setCell ⟨g, 2, none⟩ (.int .i64 ((k : Int) + 1))) g = k + 1 := nxt_eq (RN.out nq)
          have := hnx.out
          omega
      · rw [hw] at p ST
        have p' := hide p
        have E1 : Hid (k = E) := by show _ = _; rw [← HE.out, ST.out]; rfl
        clear p hw ST HE
        have hE := E1.out
        subst hE
        have RN := hide (fun m => RR.out.drewN m)
        have KN := hide (fun m => KK.out.drewN m)
        have a0 : (0 : Int) ≤ (A : Int) := by omega
        have a1 : (A : Int) ≤ (k : Int) := by omega
        have a2 : (k : Int) ≤ (t.length : Int) := by omega
        clear RR KK hnx
        go_wp2_with fail
        go_quiet ((go_at_call 105; exact Calls.quiet_of_same (unhide p' _)))
        go_wp2_with fail
        go_quiet (fail)
        go_wp2_with fail
        go_ret
        exact ⟨rfl, RN.out 0, (KN.out _).drewN _⟩
    · obtain rfl : k = t.length := by omega
      have hE : t.length = E := by rw [← HE.out, RD.we_end t (Nat.le_refl _)]
      subst hE
      have RN := hide (fun m => RR.out.drewN m)
      have KN := hide (fun m => KK.out.drewN m)
      have a0 : (0 : Int) ≤ (A : Int) := by omega
      have a1 : (A : Int) ≤ (t.length : Int) := by omega
      clear RR KK hnx HE
      go_wp2_with fail
      go_quiet (fail)
      go_wp2_with fail
      go_quiet (fail)
      go_wp2_with fail
      go_ret
      exact ⟨rfl, RN.out 0, (KN.out _).drewN _⟩
end Go.Proofs.Ytkdalejceclanaa
