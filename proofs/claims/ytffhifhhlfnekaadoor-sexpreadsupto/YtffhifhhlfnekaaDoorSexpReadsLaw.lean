/-
  The law SexpReads.
-/
import Derived.Test.YtffhifhhlfnekaaDoorRefRead
namespace Go.Proofs.YtffhifhhlfnekaaDoor
open Go.RowKit
set_option linter.unusedVariables false
theorem NRow.shape {w : World} {v : Value} {ns : List X.N} (h : NRow w v ns) : ∃ a cap, v = .slice a ns.length cap ∧ ns.length ≤ cap ∧ cap ≤ 9223372036854775807 := by
  obtain ⟨a, cap, rfl, h1, h2, h4⟩ := h
  exact ⟨a, cap, rfl, h1, h2⟩
theorem NRow.at_ {w : World} {a : Option Addr} {n cap : Nat} {ns : List X.N} (h : NRow w (.slice a n cap) ns) {j : Nat} (hj : j < ns.length) :
    ∃ b off, a = some ⟨b, off, none⟩ ∧ w.cell? ⟨b, off + j * 5, none⟩ = some (.int .i64 (ns.getD j X.n0).kind) ∧
      w.cell? ⟨b, off + j * 5 + 1, none⟩ = some (.int .i64 (ns.getD j X.n0).beg) ∧
      w.cell? ⟨b, off + j * 5 + 2, none⟩ = some (.int .i64 (ns.getD j X.n0).fin) ∧
      w.cell? ⟨b, off + j * 5 + 3, none⟩ = some (.int .i64 (ns.getD j X.n0).size) ∧
      w.cell? ⟨b, off + j * 5 + 4, none⟩ = some (.string ⟨(ns.getD j X.n0).text.toArray⟩) := by
  obtain ⟨a', cap', e, h1, h2, h4⟩ := h
  cases e
  obtain ⟨b, off, rfl, hc⟩ := h4 (by intro e; rw [e] at hj; simp at hj)
  exact ⟨b, off, rfl, hc j hj⟩
set_option maxRecDepth 100000 in
set_option maxHeartbeats 600000 in
theorem sameN_calls (w : World) (va vb : Value) (ns : List X.N) (ha : NRow w va ns) (hb : NRow w vb ns) :
    Calls Tryd.prog 11 #[va, vb] w fun e w' => e = .returned (.bool true) ∧ Below w.heap.size w w' := by
  obtain ⟨LL, hLL⟩ : ∃ n, ns.length = n := ⟨_, rfl⟩
  obtain ⟨a1, cp1, rfl, n1, n1'⟩ := ha.shape
  obtain ⟨a2, cp2, rfl, n2, n2'⟩ := hb.shape
  have t1 := hide ha
  have t2 := hide hb
  rw [hLL] at n1 n2 t1 t2 ⊢
  have hLh := hide hLL
  clear ha hb hLL
  have B0 : Hid (Below w.heap.size w w) := Below.refl _ w
  go_enter Tryd.func11, Tryd.ntmps11
  go_wp2
  go_loopw [5] (fun j wr => ∃ k : Nat, k ≤ LL ∧ j = .int .i64 k ∧ Hid (Below w.heap.size w wr)) (fun j _ => LL - (intOf j).toNat)
  case atStart => exact ⟨0, Nat.zero_le _, rfl, B0⟩
  case round =>
    clear B0
    obtain ⟨k, hk, rfl, hB⟩ := hrel
    by_cases hlt : k < LL
    · have T1 := t1.out.below hB.out
      obtain ⟨g1, f1, rfl, x0, x1, x2, x3, x4⟩ := T1.at_ (j := k) (by rw [hLh.out]; exact hlt)
      have T2 := t2.out.below hB.out
      obtain ⟨g2, f2, rfl, y0, y1, y2, y3, y4⟩ := T2.at_ (j := k) (by rw [hLh.out]; exact hlt)
      generalize ns.getD k X.n0 = t at x0 x1 x2 x3 x4 y0 y1 y2 y3 y4
      have i1 : (k : Int) < LL := by omega
      clear T1 T2
      go_wp2
      go_quiet (fail)
      go_wp2
      go_roundw
      case rel => exact ⟨k + 1, by omega, by go_num, below_drewN hB.out _⟩
      case measure => simp [intOf]; omega
    · go_wp2
      go_ret
      exact ⟨rfl, hB.out⟩
set_option maxRecDepth 100000 in
set_option maxHeartbeats 600000 in
theorem no_calls (w : World) (z : Int) : Calls Tryd.prog 12 #[.int .i64 z] w fun e w' => e = .returned (.int .i64 z) ∧ w' = w := by
  go_enter Tryd.func12, Tryd.ntmps12
  go_wp2
  go_ret
  exact ⟨rfl, rfl⟩
set_option maxRecDepth 100000 in
set_option maxHeartbeats 600000 in
theorem sexpReads_calls (w : World) (hc : Cls w) (hr : Rsv w) (s : ByteArray) (l : List UInt8) (hs : s.data.toList = l) (hl : l.length ≤ 1073741824) :
    Calls Tryd.prog 3 #[.string s] w fun e w' => e = .returned (.bool true) ∧ Below w.heap.size w w' := by
  have hd := X.out_doc (S.run resv .idle l 0).1 (S.run resv .idle l 0).2.1 (S.run resv .idle l 0).2.2 (S.run_place resv l .idle 0)
  have q0 := hide (sexpRead_calls w hc s l hs hl _ rfl)
  have q1 := hide (fun W (hW : Rsv W) => sread_calls W hW s l hs hl _ rfl)
  rw [← hd] at q1
  obtain ⟨o, ho⟩ : ∃ o, X.out (S.run resv .idle l 0).1 (S.run resv .idle l 0).2.1 (S.run resv .idle l 0).2.2 = o := ⟨_, rfl⟩
  rw [ho] at q0 q1
  obtain ⟨ns, e, p⟩ := o
  simp only at q0 q1
  have hrH := hide hr
  clear hc hr hs hl ho hd
  go_enter Tryd.func3, Tryd.ntmps3
  go_wp2_with (first
    | (go_at_call 9; refine q0.out.mono ?_; rintro x w1 ⟨v1, rfl, r1, b1⟩; replace r1 := hide r1; replace b1 := hide b1; clear q0)
    | (go_at_call 10; refine (q1.out w1 (hrH.out.below b1.out)).mono ?_; rintro x w2 ⟨v2, rfl, r2, b2⟩; have q2 := hide (sameN_calls w2 v1 v2 ns (r1.out.below b2) r2); replace b2 := hide b2; clear r2)
    | (go_at_call 11; refine q2.out.mono ?_; rintro x w3 ⟨rfl, b3⟩; replace b3 := hide b3; clear q2)
    | (go_at_call 12; refine (no_calls _ _).mono ?_; rintro x w4 ⟨rfl, rfl⟩))
  go_ret
  exact ⟨rfl, (b1.out.then_below b2.out).then_below b3.out⟩
end Go.Proofs.YtffhifhhlfnekaaDoor
