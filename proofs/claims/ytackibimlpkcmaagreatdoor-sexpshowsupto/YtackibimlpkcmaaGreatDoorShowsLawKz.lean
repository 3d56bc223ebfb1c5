/-
  The law SexpShows.
-/
import Derived.Test.YtackibimlpkcmaaGreatDoorKz34
import Derived.Test.YtackibimlpkcmaaGreatDoorKz35
import Derived.Test.YtackibimlpkcmaaGreatDoorSexpRowsKz
/- ==== ShowsLaw ==== -/
namespace Go.Proofs.YtackibimlpkcmaaGreatDoor
open Go.RowKit
set_option linter.unusedVariables false
set_option maxRecDepth 100000 in
set_option maxHeartbeats 600000 in
theorem sameNd_calls (w : World) (Ba Bb : Nat) (va vb : Value) (ns : List Nd) (ha : Nds Ba w va ns) (hb : Nds Bb w vb ns) (hBa : Ba ≤ w.heap.size) (hBb : Bb ≤ w.heap.size) :
    Calls Tryz.prog 9 #[va, vb] w fun e w' => e = .returned (.bool true) ∧ Below w.heap.size w w' := by
  obtain ⟨LL, hLL⟩ : ∃ n, ns.length = n := ⟨_, rfl⟩
  have t1 := hide ha
  have t2 := hide hb
  obtain ⟨a1, cp1, rfl, n1, n1', -⟩ := ha
  obtain ⟨a2, cp2, rfl, n2, n2', -⟩ := hb
  rw [hLL] at n1 n2 t1 t2 ⊢
  have hLh := hide hLL
  clear hLL
  have B0 : Hid (Below w.heap.size w w) := Below.refl _ w
  go_enter Tryz.func9, Tryz.ntmps9
  go_wp2
  go_loopw [5] (fun j wr => ∃ k : Nat, k ≤ LL ∧ j = .int .i64 k ∧ Hid (Below w.heap.size w wr)) (fun j _ => LL - (intOf j).toNat)
  case atStart => exact ⟨0, Nat.zero_le _, rfl, B0⟩
  case round =>
    clear B0
    obtain ⟨k, hk, rfl, hB⟩ := hrel
    by_cases hlt : k < LL
    · have T1 := t1.out.below (hB.out.mono hBa)
      obtain ⟨g1, f1, rfl, -, x0, x1, x2, x3, x4⟩ := T1.at_ (j := k) (by rw [hLh.out]; exact hlt)
      have T2 := t2.out.below (hB.out.mono hBb)
      obtain ⟨g2, f2, rfl, -, y0, y1, y2, y3, y4⟩ := T2.at_ (j := k) (by rw [hLh.out]; exact hlt)
      generalize ns.getD k Nd.z = t at x0 x1 x2 x3 x4 y0 y1 y2 y3 y4
      have i1 : (k : Int) < LL := by omega
      clear T1 T2
      go_wp2
      go_quiet (fail)
      go_wp2
      go_roundw
      case rel => exact ⟨k + 1, by omega, by go_num, below_drewN hB.out _⟩
      case measure => simp [intOf]; omega
    · go_wp2
      go_ret
      exact ⟨rfl, hB.out⟩
set_option maxRecDepth 100000 in
set_option maxHeartbeats 4000000 in
theorem sexpShows_calls (w : World) (hc : Cls w) (hr : Rsv w) (hm : Mx w) (v : Value) (ns : List Nd) (h : Nds w.heap.size w v ns) (hlen : ns.length ≤ 1048576) (hwt : wt ns ≤ 33554432) :
    Calls Tryz.prog 3 #[v] w fun e w' => e = .returned (.bool true) ∧ Below w.heap.size w w' := by
  have hN := hide h
  have hT := hide (fun k (hk : k < ns.length) => Nat.le_trans (lnt_tot ns k) hwt)
  have q0 := hide (copied_calls w w.heap.size v ns h (Nat.le_refl _))
  have hcH := hide hc
  have hmH := hide hm
  have hrH := hide hr
  have te : (showE ns == showE ns) = true := by simp
  obtain ⟨V, hV⟩ : ∃ V : ByteArray, (⟨(showV ns).toArray⟩ : ByteArray) = V := ⟨_, rfl⟩
  obtain ⟨E, hE⟩ : ∃ E, showE ns = E := ⟨_, rfl⟩
  have q1 := hide (fun W (q : Below w.heap.size w W) u (hu : Nds W.heap.size W u ns) => show_calls W (cls_below hcH.out q) (hmH.out.below q) W.heap.size u ns hu (Nat.le_refl _) hlen hT.out)
  have q2 := hide (fun W (q : Below w.heap.size w W) => rshow_calls W (hrH.out.below q) w.heap.size v ns (hN.out.below q) q.size hlen hT.out)
  rw [hV, hE] at q1 q2
  rw [hE] at te
  clear hc hm hr h hV hE hwt
  go_enter Tryz.func3, Tryz.ntmps3
  go_wp2_with (first
    | (go_at_call 5; refine q0.out.mono ?_; rintro e w1 ⟨⟨r, rfl, N1⟩, b1⟩; replace N1 := hide N1; replace b1 := hide b1)
    | (go_at_call 6; refine (q1.out w1 b1.out _ N1.out).mono ?_; rintro e w2 ⟨rfl, b2⟩; have B2 := hide (b1.out.then_below b2); have N2 := hide (N1.out.below b2); have s2 := hide b2.size; clear b2)
    | (go_at_call 7; refine (q2.out w2 B2.out).mono ?_; rintro e w3 ⟨rfl, b3⟩; have B3 := hide (B2.out.then_below b3); have N3 := hide (N2.out.below (b3.mono s2.out)); have s3 := hide (Nat.le_trans s2.out b3.size); clear b3)
    | (go_at_call 8; refine (no_calls _ _).mono ?_; rintro e w4 ⟨rfl, hw4⟩; subst w4)
    | (go_at_call 9; refine (sameNd_calls w3 w1.heap.size w.heap.size _ _ ns N3.out (hN.out.below B3.out) s3.out B3.out.size).mono ?_; rintro e w5 ⟨rfl, b5⟩; replace b5 := hide b5))
  go_ret
  exact ⟨rfl, B3.out.then_below b5.out⟩
end Go.Proofs.YtackibimlpkcmaaGreatDoor
