/-
  The law ScanTokens.
-/
import Derived.Test.YtgfibagkeflakaaDoorScanSame
namespace Go.Proofs.YtgfibagkeflakaaDoor
open Go.RowKit
set_option linter.unusedVariables false
/-- A list of tokens that may be written over. -/
def MK (B : Nat) (w : World) (a : Option Addr) (n : Nat) : Prop := 0 < n → ∃ g cur T, a = some ⟨g, 0, none⟩ ∧ B ≤ g ∧ w.heap[g]? = some (.cells cur T (0, 0)) ∧ n * 4 ≤ cur.size
theorem mk_of {B : Nat} {w : World} {T : TypeId} {a : Option Addr} {n m cap : Nat} {xs : List Value} (h : w.ownsRow B T 4 (.slice a n cap) m xs) : MK B w a n := by
  intro hn
  rcases h.2 with ⟨e, rfl⟩ | ⟨g, cap', cur, e, hB, hb, h3, h4, h5, h6⟩
  · cases e
    omega
  · cases e
    exact ⟨g, cur, T, rfl, hB, hb, by rw [h5]; exact Nat.mul_le_mul_right 4 h3⟩
theorem MK.at_ {B : Nat} {w : World} {a : Option Addr} {n k : Nat} (h : MK B w a n) (hk : k < n) : ∃ g, a = some ⟨g, 0, none⟩ ∧ B ≤ g ∧ (∀ j, w.frozen? ⟨g, j, none⟩ = false) ∧ (∃ u, w.cell? ⟨g, k * 4, none⟩ = some u) ∧ (∃ u, w.cell? ⟨g, k * 4 + 1, none⟩ = some u) ∧ (∃ u, w.cell? ⟨g, k * 4 + 2, none⟩ = some u) ∧ (∃ u, w.cell? ⟨g, k * 4 + 3, none⟩ = some u) := by
  obtain ⟨g, cur, T, rfl, hB, hb, hz⟩ := h (by omega)
  have c : ∀ j, j < cur.size → ∃ u, w.cell? ⟨g, j, none⟩ = some u := fun j hj => ⟨cur[j], by rw [cell_of_row _ _ j _ _ (0, 0) hb]; exact Array.getElem?_eq_getElem hj⟩
  exact ⟨g, rfl, hB, fun j => frozen_of_row w g j cur T hb, c _ (by omega), c _ (by omega), c _ (by omega), c _ (by omega)⟩
theorem MK.set {B : Nat} {w : World} {g n : Nat} (h : MK B w (some ⟨g, 0, none⟩) n) (j : Nat) (u : Value) : MK B (w.setCell ⟨g, j, none⟩ u) (some ⟨g, 0, none⟩) n := by
  intro hn
  obtain ⟨g', cur, T, e, hB, hb, hz⟩ := h hn
  cases e
  exact ⟨g, _, T, rfl, hB, heap_setCell_same w g j cur T u hb, by simpa using hz⟩
set_option maxRecDepth 100000 in
set_option maxHeartbeats 600000 in
theorem scanTokens_calls (w : World) (hc : Cls w) (hr : Rsv w) (s : ByteArray) (l : List UInt8) (hs : s.data.toList = l) (hl : l.length ≤ 1073741824) :
    Calls Tryd.prog 6 #[.string s] w fun e w' => e = .returned (.bool true) ∧ Below w.heap.size w w' := by
  have q0 := hide (rtokens_calls w hr s l hs hl)
  have q1 := hide (fun W (hW : Cls W) => tokens_calls W hW s l hs (by omega))
  have hm := run_many l
  obtain ⟨O, hO⟩ : ∃ O, S.run resv .idle l 0 = O := ⟨_, rfl⟩
  rw [hO] at q0 q1 hm
  obtain ⟨ts, e, p⟩ := O
  simp only at q0 q1 hm
  obtain ⟨n, hn⟩ : ∃ n, ts.length = n := ⟨_, rfl⟩
  rw [hn] at hm
  have hn1 : n ≤ 4294967298 := by omega
  have qs := hide (fun W va vb (ha : TRow W va ts) (hb : TRow W vb ts) => same_calls W va vb ts ha hb (by rw [hn]; exact hn1))
  have hcH := hide hc
  have hnH := hide hn
  clear hc hr hs hl hO hm hn
  go_enter Tryd.func6, Tryd.ntmps6
  go_wp2_with (first
    | (go_at_call 16; refine q0.out.mono ?_; rintro x w1 ⟨v1, rfl, u1, b1⟩; have C1 := hide (hcH.out.below b1); have t1 := hide (ownsRow.trow u1); obtain ⟨a1, cp1, rfl, n1, n1'⟩ := t1.out.shape; simp only [hnH.out] at n1 t1; rw [hnH.out]; replace b1 := hide b1; clear u1 q0)
    | (go_at_call 10; have y := C1; clear y; refine (q1.out _ C1.out).mono ?_; rintro x w2 ⟨v2, rfl, u2, b2⟩; have t2 := hide (ownsRow.trow u2); obtain ⟨a2, cp2, rfl, n2, n2'⟩ := t2.out.shape; have k2 := hide (mk_of u2); simp only [hnH.out] at n2 t2 k2; rw [hnH.out]; have q2 := hide (qs.out w2 _ _ t2.out (t1.out.below b2)); replace b2 := hide b2; clear u2)
    | (go_at_call 17; refine q2.out.mono ?_; rintro x w3 ⟨rfl, b3⟩; replace b3 := hide b3; clear q2))
  have K3 : Hid (MK w1.heap.size w3 a2 n) := by
    intro h0
    obtain ⟨g, cur, T, e1, e2, e3, e4⟩ := k2.out h0
    exact ⟨g, cur, T, e1, e2, (b3.out.block g (Array.getElem?_eq_some_iff.1 e3).1).trans e3, e4⟩
  have B3 : Hid (Below w1.heap.size w1 w3) := b2.out.then_below b3.out
  clear k2 t2
  go_loopw [9] (fun j wr => ∃ k : Nat, k ≤ n ∧ j = .int .i64 k ∧ Hid (Below w1.heap.size w1 wr) ∧ Hid (MK w1.heap.size wr a2 n)) (fun j _ => n - (intOf j).toNat)
  case atStart => exact ⟨0, Nat.zero_le _, rfl, B3, K3⟩
  case round =>
    clear B3 K3
    obtain ⟨k, hk, rfl, hB, hK⟩ := hrel
    by_cases hlt : k < n
    · obtain ⟨g, rfl, hg, fz, ⟨u0, c0⟩, ⟨u1, c1⟩, ⟨u2, c2⟩, ⟨u3, c3⟩⟩ := hK.out.at_ hlt
      have f0 := fz (k * 4)
      have f1 := fz (k * 4 + 1)
      have f2 := fz (k * 4 + 2)
      have f3 := fz (k * 4 + 3)
      have i1 : (k : Int) < n := by omega
      clear fz
      go_wp2
      go_roundw
      case rel => exact ⟨k + 1, by omega, by go_num, (((hB.out.setCell hg _).setCell hg _).setCell hg _).setCell hg _, (((hK.out.set _ _).set _ _).set _ _).set _ _⟩
      case measure => simp [intOf]; omega
    · have i1 : ¬ (k : Int) < n := by omega
      have C4 : Hid (Cls wr) := C1.out.below hB.out
      have q4 := hide (q1.out wr C4.out)
      go_wp2_with (first
        | (go_at_call 10; refine q4.out.mono ?_; rintro x w5 ⟨v5, rfl, u5, b5⟩; have t5 := hide (ownsRow.trow u5); obtain ⟨a5, cp5, rfl, n5, n5'⟩ := t5.out.shape; simp only [hnH.out] at n5 t5; rw [hnH.out]; have q6 := hide (qs.out w5 _ _ t5.out ((t1.out.below hB.out).below b5)); replace b5 := hide b5; clear u5)
        | (go_at_call 17; refine q6.out.mono ?_; rintro x w6 ⟨rfl, b6⟩; replace b6 := hide b6; clear q6))
      go_ret
      exact ⟨rfl, (b1.out.then_below hB.out).then_below (b5.out.then_below b6.out)⟩
end Go.Proofs.YtgfibagkeflakaaDoor
