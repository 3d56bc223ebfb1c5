/-
  sameInts; the pairs of calls that only tell; both orders together.
-/
import Derived.Test.YtigbclhkmjcjjaaRefRel
namespace Go.Proofs.Ytigbclhkmjcjjaa
open Go.RowKit
set_option linter.unusedVariables false
/-- A list of numbers. -/
def IRow (w : World) (v : Value) (l : List Nat) : Prop := ∃ a cap, v = .slice a l.length cap ∧ ∀ j, j < l.length → ∃ g, a = some ⟨g, 0, none⟩ ∧ w.cell? ⟨g, j, none⟩ = some (.int .i64 (l.getD j 0 : Nat))
theorem owns_irow {w : World} {base : Nat} {v : Value} {l : List Nat} (h : w.ownsRow base 3 1 v l.length (l.map fun x : Nat => Value.int .i64 (x : Int))) : IRow w v l := by
  rcases id h.2 with ⟨rfl, e⟩ | ⟨g, cap, cur, rfl, hB, hg, hr⟩
  · exact ⟨none, 0, by rw [e], fun j hj => by omega⟩
  · refine ⟨some ⟨g, 0, none⟩, cap, rfl, fun j hj => ⟨g, rfl, ?_⟩⟩
    rw [h.cellAt j (by omega), List.getElem?_map, List.getElem?_eq_getElem hj, List.getD_eq_getElem?_getD, List.getElem?_eq_getElem hj]
    rfl
set_option maxRecDepth 100000 in
set_option maxHeartbeats 4000000 in
theorem sameInts_calls (w : World) (va vb : Value) (l : List Nat) (ha : IRow w va l) (hb : IRow w vb l) (hl : l.length ≤ 1000000) : Calls Try.prog 15 #[va, vb] w fun e w' => e = .returned (.bool true) ∧ ∃ m, w' = w.drewN m := by
  obtain ⟨a, ca, rfl, ha⟩ := ha
  obtain ⟨b, cb, rfl, hb⟩ := hb
  replace ha := hide ha
  replace hb := hide hb
  go_enter Try.func15, Try.ntmps15
  go_wp2_with fail
  go_loopw [5] (fun i wr => ∃ j : Nat, i = .int .i64 (j : Int) ∧ j ≤ l.length ∧ Hid (∃ m, wr = w.drewN m)) (fun i _ => l.length - (intOf i).toNat)
  case atStart => exact ⟨0, rfl, Nat.zero_le _, ⟨0, rfl⟩⟩
  case round =>
    obtain ⟨j, rfl, hj, HW⟩ := hrel
    have HWn : Hid (∀ m', ∃ m, wr.drewN m' = w.drewN m) := by
      intro m'
      obtain ⟨m, e⟩ := HW.out
      exact ⟨m + m', by rw [e]; exact World.drewN_drewN _ _ _⟩
    by_cases hlt : j < l.length
    · obtain ⟨ga, rfl, c1⟩ := ha.out j hlt
      obtain ⟨gb, rfl, c2⟩ := hb.out j hlt
      have c1 : wr.cell? ⟨ga, j, none⟩ = some (.int .i64 (l.getD j 0 : Nat)) := by
        obtain ⟨m, e⟩ := HW.out
        rw [e]
        exact c1
      have c2 : wr.cell? ⟨gb, j, none⟩ = some (.int .i64 (l.getD j 0 : Nat)) := by
        obtain ⟨m, e⟩ := HW.out
        rw [e]
        exact c2
      generalize l.getD j 0 = x at *
      have g1 : (j : Int) < (l.length : Int) := by omega
      go_wp2_with fail
      go_quiet (fail)
      go_wp2
      go_roundw
      case rel => exact ⟨j + 1, by go_num, by omega, HWn.out _⟩
      case measure => simp [intOf]; omega
    · obtain rfl : j = l.length := by omega
      clear hlt hj
      go_wp2
      go_ret
      exact ⟨rfl, HW.out⟩
/- Calls that only tell. -/
def scoreOf (n : Nat) (s : OS) (v : Int) : Nat := if v < 1 ∨ (n : Int) < v then 0 else s.A.getD v.toNat 0
theorem score_inr {n : Nat} {s : OS} {v : Nat} (h1 : 1 ≤ v) (h2 : v ≤ n) : scoreOf n s (v : Int) = s.A.getD v 0 := by
  unfold scoreOf
  rw [if_neg (by omega), Int.toNat_natCast]
theorem scoreP (w : World) (o : Oid) (s : OS) (h : Good w o s) (v : Int) : Calls Try.prog 24 #[optr o, .int .i64 v] w fun e w' => e = .returned (.tuple #[.int .u32 (scoreOf o.n s v : Nat), .int .i64 (errOf o.n v)]) ∧ w' = w := by
  rcases in_or_out o v with ⟨n, rfl, h1, h2⟩ | hv
  · rw [err_ok h1 h2, score_inr h1 h2]
    exact score_calls w o s h.ord n h1 h2
  · rw [err_bad hv, show scoreOf o.n s v = 0 from if_pos hv]
    exact score_bad w o s h.ord v hv
theorem scoreR (W : World) (o : Oid) (q : Rid) (hq : q.n = o.n) (s : OS) (t : RS) (r : Rel o.n s t) (h : ROrd W q t) (v : Int) : Calls Try.prog 42 #[rptr q, .int .i64 v] W fun e w' => e = .returned (.tuple #[.int .i64 (scoreOf o.n s v : Nat), .int .i64 (errOf o.n v)]) ∧ ∃ m, w' = W.drewN m := by
  rcases in_or_out o v with ⟨n, rfl, h1, h2⟩ | hv
  · rw [err_ok h1 h2, score_inr h1 h2, ← r.acts n h1 h2]
    exact rscore_calls W q t h n h1 (by omega)
  · rw [err_bad hv, show scoreOf o.n s v = 0 from if_pos hv]
    refine (rscore_bad W q t h v (by rw [hq]; exact hv)).mono ?_
    rintro e w' ⟨rfl, rfl⟩
    exact ⟨rfl, 0, rfl⟩
def hasOf (n : Nat) (s : OS) (v : Int) : Bool := if v < 1 ∨ (n : Int) < v then false else decide (s.pl.getD v.toNat 0 ≠ -1)
theorem hasP (w : World) (o : Oid) (s : OS) (h : Good w o s) (v : Int) : Calls Try.prog 17 #[optr o, .int .i64 v] w fun e w' => e = .returned (.tuple #[.bool (hasOf o.n s v), .int .i64 (errOf o.n v)]) ∧ w' = w := by
  rcases in_or_out o v with ⟨n, rfl, h1, h2⟩ | hv
  · rw [err_ok h1 h2, show hasOf o.n s (n : Int) = decide (s.pl.getD n 0 ≠ -1) by unfold hasOf; rw [if_neg (by omega), Int.toNat_natCast]]
    exact has_calls w o s h.ord n h1 h2
  · rw [err_bad hv, show hasOf o.n s v = false from if_pos hv]
    exact has_bad w o s h.ord v hv
theorem hasR (W : World) (o : Oid) (q : Rid) (hq : q.n = o.n) (s : OS) (t : RS) (r : Rel o.n s t) (h : ROrd W q t) (v : Int) : Calls Try.prog 45 #[rptr q, .int .i64 v] W fun e w' => e = .returned (.tuple #[.bool (hasOf o.n s v), .int .i64 (errOf o.n v)]) ∧ ∃ m, w' = W.drewN m := by
  rcases in_or_out o v with ⟨n, rfl, h1, h2⟩ | hv
  · have e : hasOf o.n s (n : Int) = t.W.getD n false := by
      unfold hasOf
      rw [if_neg (by omega), Int.toNat_natCast]
      have := r.waits n h1 h2
      cases ht : t.W.getD n false
      · rw [ht] at this
        exact decide_eq_false (fun z => by have := this.2 z; cases this)
      · exact decide_eq_true (this.1 ht)
    rw [err_ok h1 h2, e]
    exact rhas_calls W q t h n h1 (by omega)
  · rw [err_bad hv, show hasOf o.n s v = false from if_pos hv]
    refine (rhas_bad W q t h v (by rw [hq]; exact hv)).mono ?_
    rintro e w' ⟨rfl, rfl⟩
    exact ⟨rfl, 0, rfl⟩
def phaseOf (n : Nat) (s : OS) (v : Int) : Bool := if v < 1 ∨ (n : Int) < v then false else s.ph.getD v.toNat false
theorem phaseP (w : World) (o : Oid) (s : OS) (h : Good w o s) (v : Int) : Calls Try.prog 48 #[optr o, .int .i64 v] w fun e w' => e = .returned (.tuple #[.bool (phaseOf o.n s v), .int .i64 (errOf o.n v)]) ∧ w' = w := by
  rcases in_or_out o v with ⟨n, rfl, h1, h2⟩ | hv
  · rw [err_ok h1 h2, show phaseOf o.n s (n : Int) = s.ph.getD n false by unfold phaseOf; rw [if_neg (by omega), Int.toNat_natCast]]
    exact phase_calls w o s h.ord n h1 h2
  · rw [err_bad hv, show phaseOf o.n s v = false from if_pos hv]
    exact phase_bad w o s h.ord v hv
theorem phaseR (W : World) (o : Oid) (q : Rid) (hq : q.n = o.n) (s : OS) (t : RS) (r : Rel o.n s t) (h : ROrd W q t) (v : Int) : Calls Try.prog 49 #[rptr q, .int .i64 v] W fun e w' => e = .returned (.tuple #[.bool (phaseOf o.n s v), .int .i64 (errOf o.n v)]) ∧ ∃ m, w' = W.drewN m := by
  rcases in_or_out o v with ⟨n, rfl, h1, h2⟩ | hv
  · rw [err_ok h1 h2, show phaseOf o.n s (n : Int) = t.U.getD n false by unfold phaseOf; rw [if_neg (by omega), Int.toNat_natCast, r.ups n h1 h2]]
    exact rphase_calls W q t h n h1 (by omega)
  · rw [err_bad hv, show phaseOf o.n s v = false from if_pos hv]
    refine (rphase_bad W q t h v (by rw [hq]; exact hv)).mono ?_
    rintro e w' ⟨rfl, rfl⟩
    exact ⟨rfl, 0, rfl⟩
/-- Both orders. -/
structure Both (w : World) (o : Oid) (s : OS) (q : Rid) (t : RS) : Prop where
  good : Good w o s
  fit : Fit s
  rord : ROrd w q t
  hn : q.n = o.n
  rel : Rel o.n s t
  apart : ∀ b, b ∈ blks o → b ∉ rblks q
section
variable {w w' : World} {o : Oid} {s s' : OS} {q : Rid} {t t' : RS}
theorem Both.keep {S : List Nat} (h : Both w o s q t) (c : Chg S w w') (h1 : ∀ b, b ∈ blks o → b ∉ S) (h2 : ∀ b, b ∈ rblks q → b ∉ S) : Both w' o s q t :=
  ⟨h.good.keep c h1, h.fit, h.rord.keep c h2, h.hn, h.rel, h.apart⟩
theorem Both.drewN (h : Both w o s q t) (m : Nat) : Both (w.drewN m) o s q t := ⟨h.good.drewN m, h.fit, h.rord.drewN m, h.hn, h.rel, h.apart⟩
/-- The program's order has changed: the document's is as it was. -/
theorem Both.ref {w1 : World} (h : Both w o s q t) (c : Chg (blks o) w w1) : ROrd w1 q t := h.rord.keep c (fun b hb hc => h.apart b hc hb)
/-- Then the document's. -/
theorem Both.next {w1 w2 : World} (h : Both w o s q t) (g : Good w1 o s') (f : Fit s') (r2 : ROrd w2 q t') (c2 : Chg (rblks q) w1 w2) (r : Rel o.n s' t') : Both w2 o s' q t' :=
  ⟨g.keep c2 h.apart, f, r2, h.hn, r, h.apart⟩
theorem chg_left {w1 : World} (c : Chg (blks o) w w1) : Chg (blks o ++ rblks q) w w1 := c.mono (fun b hb => List.mem_append_left _ hb)
theorem chg_right {w1 : World} (c : Chg (rblks q) w w1) : Chg (blks o ++ rblks q) w w1 := c.mono (fun b hb => List.mem_append_right _ hb)
theorem ROrd.notin {g : Nat} {c : Array Value} (h : ROrd w q t) (hg : w.heap[g]? = some (.cells c 45 (0, 0))) : g ∉ rblks q := by
  intro hb
  obtain ⟨h1, ⟨c2, h2, _⟩, ⟨c3, h3, _⟩, ⟨c4, h4, _⟩, _⟩ := h
  simp only [rblks, List.mem_cons, List.not_mem_nil, or_false] at hb
  rcases hb with rfl | rfl | rfl | rfl
  · rw [h1] at hg; cases hg
  · rw [h2] at hg; cases hg
  · rw [h3] at hg; cases hg
  · rw [h4] at hg; cases hg
end
end Go.Proofs.Ytigbclhkmjcjjaa
