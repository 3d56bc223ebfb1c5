/-
  The document's 'after'.
-/
import Derived.Test.YtnkhdfliiaieeaaNodeBase
namespace Go.Proofs.Ytnkhdfliiaieeaa
open Go.RowKit
set_option linter.unusedVariables false
set_option maxRecDepth 100000 in
set_option maxHeartbeats 1600000 in
theorem after_calls (w : World) (B : Nat) (v : Value) (ns : List Nd) (h : Nds B w v ns) (i : Nat) (hi : i < ns.length) (top : Nat) (htop : top ≤ ns.length) :
    Calls Try.prog 18 #[v, .int .i64 i, .int .i64 top] w fun e w' =>
      (((ns.getD i Nd.z).ok i top ∧ e = .returned (.int .i64 (i + (ns.getD i Nd.z).size))) ∨ (¬ (ns.getD i Nd.z).ok i top ∧ e = .returned (.int .i64 (-1)))) ∧ Below w.heap.size w w' := by
  have hne : ns ≠ [] := by intro e; rw [e] at hi; simp at hi
  obtain ⟨a, cap, rfl, h1, h2, h3, h4⟩ := h
  obtain ⟨b, off, rfl, hb, hc⟩ := h4 hne
  obtain ⟨c0, c1, c2, c3, c4⟩ := hc i hi
  clear hc h4 h3 hne
  generalize ns.getD i Nd.z = x at *
  generalize ns.length = n at *
  obtain ⟨kd, ps, fn, sz, tx⟩ := x
  by_cases hk : kd = 1
  · subst hk
    by_cases ht : tx.toList = []
    · have ht2 := ht
      by_cases hs1 : sz < 1
      · have hs2 := hs1
        have hno : Hid (¬ Nd.ok ⟨1, ps, fn, sz, tx⟩ i top) := by simp [Hid, Nd.ok, *]; try omega
        go_enter Try.func18, Try.ntmps18
        go_wp2
        go_ret
        exact ⟨Or.inr ⟨hno.out, rfl⟩, (Below.refl _ w).alloc (Nat.le_refl _) _⟩
      by_cases hs2 : (top : Int) - i < sz
      · have hs3 := hs2
        have hno : Hid (¬ Nd.ok ⟨1, ps, fn, sz, tx⟩ i top) := by simp [Hid, Nd.ok, *]; try omega
        go_enter Try.func18, Try.ntmps18
        go_wp2
        go_ret
        exact ⟨Or.inr ⟨hno.out, rfl⟩, (Below.refl _ w).alloc (Nat.le_refl _) _⟩
      · have hs3 := hs2
        have hyes : Hid (Nd.ok ⟨1, ps, fn, sz, tx⟩ i top) := by simp [Hid, Nd.ok, *]; try omega
        go_enter Try.func18, Try.ntmps18
        go_wp2
        go_ret
        exact ⟨Or.inl ⟨hyes.out, rfl⟩, (Below.refl _ w).alloc (Nat.le_refl _) _⟩
    · have hno : Hid (¬ Nd.ok ⟨1, ps, fn, sz, tx⟩ i top) := by simp [Hid, Nd.ok, ht]
      go_enter Try.func18, Try.ntmps18
      go_wp2
      go_ret
      exact ⟨Or.inr ⟨hno.out, rfl⟩, (Below.refl _ w).alloc (Nat.le_refl _) _⟩
  by_cases k3 : kd < 3
  · have k4 := k3
    have hno : Hid (¬ Nd.ok ⟨kd, ps, fn, sz, tx⟩ i top) := by simp [Hid, Nd.ok, *]; try omega
    go_enter Try.func18, Try.ntmps18
    go_wp2
    go_ret
    exact ⟨Or.inr ⟨hno.out, rfl⟩, (Below.refl _ w).alloc (Nat.le_refl _) _⟩
  by_cases k10 : 10 < kd
  · have k4 := k10
    have hno : Hid (¬ Nd.ok ⟨kd, ps, fn, sz, tx⟩ i top) := by simp [Hid, Nd.ok, *]; try omega
    go_enter Try.func18, Try.ntmps18
    go_wp2
    go_ret
    exact ⟨Or.inr ⟨hno.out, rfl⟩, (Below.refl _ w).alloc (Nat.le_refl _) _⟩
  by_cases hs : sz = 1
  · subst hs
    have hyes : Hid (Nd.ok ⟨kd, ps, fn, 1, tx⟩ i top) := by simp [Hid, Nd.ok, *]; try omega
    go_enter Try.func18, Try.ntmps18
    go_wp2
    go_ret
    exact ⟨Or.inl ⟨hyes.out, rfl⟩, (Below.refl _ w).alloc (Nat.le_refl _) _⟩
  · have k4 := k10
    have hno : Hid (¬ Nd.ok ⟨kd, ps, fn, sz, tx⟩ i top) := by simp [Hid, Nd.ok, *]; try omega
    go_enter Try.func18, Try.ntmps18
    go_wp2
    go_ret
    exact ⟨Or.inr ⟨hno.out, rfl⟩, (Below.refl _ w).alloc (Nat.le_refl _) _⟩
end Go.Proofs.Ytnkhdfliiaieeaa
