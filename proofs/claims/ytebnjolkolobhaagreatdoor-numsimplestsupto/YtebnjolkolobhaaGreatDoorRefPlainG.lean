/-
  The document's side (arbiterref1): plain, the simplest number above one bound and below another.
-/
import Derived.Test.YtebnjolkolobhaaGreatDoorRefPosG
import Derived.Test.YtebnjolkolobhaaGreatDoorSimQ
import Derived.Test.YtebnjolkolobhaaGreatDoorSimSizeG
/- ==== RefPlain ==== -/
namespace Go.Proofs.YtebnjolkolobhaaGreatDoor
open Go.RowKit
set_option linter.unusedVariables false
/-- A bound above in memory. -/
def ED (w : World) (v : Value) (is : Bool) (n d : Nat) : Prop :=
  ∃ (s : Bool) (na : Option Addr) (nl nc : Nat) (da : Option Addr) (dl dc : Nat), v = .agg #[.bool is, .bool s, .slice na nl nc, .slice da dl dc] ∧ (is = true → RR w (.agg #[.bool s, .slice na nl nc, .slice da dl dc]) false n d)
theorem ED.below {w w' : World} {v : Value} {is : Bool} {n d : Nat} (h : ED w v is n d) (b : Below w.heap.size w w') : ED w' v is n d := by
  obtain ⟨s, na, nl, nc, da, dl, dc, rfl, h1⟩ := h
  exact ⟨s, na, nl, nc, da, dl, dc, rfl, fun e => (h1 e).below b⟩
/-- One rational in a box of its own. -/
def OneRR (w1 wx : World) (g : Nat) (na : Option Addr) (nl nc : Nat) (da : Option Addr) (dl dc : Nat) (n d : Nat) : Prop :=
  wx.heap[g]? = some (.cells #[.bool false, .slice na nl nc, .slice da dl dc] 59 (0, 0)) ∧ RR wx (.agg #[.bool false, .slice na nl nc, .slice da dl dc]) false n d ∧ w1.heap.size ≤ g ∧ Below w1.heap.size w1 wx
theorem or_alloc {w1 w2 : World} {na : Option Addr} {nl nc : Nat} {da : Option Addr} {dl dc : Nat} {n d : Nat} (bw : Below w1.heap.size w1 w2) (h : RR w2 (.agg #[.bool false, .slice na nl nc, .slice da dl dc]) false n d) :
    OneRR w1 (w2.alloc (.cells #[.bool false, .slice na nl nc, .slice da dl dc] 59)) w2.heap.size na nl nc da dl dc n d :=
  ⟨heap_alloc_new _ _, h.below (alloc_below _ _), bw.size, bw.then_below (alloc_below _ _)⟩
theorem rr_past {w w' : World} {na : Option Addr} {nl nc : Nat} {da : Option Addr} {dl dc : Nat} {n d g : Nat} {x : Bool} {ya : Option Addr} {yl yc : Nat} {za : Option Addr} {zl zc : Nat} {t : TypeId} (h : RR w (.agg #[.bool false, .slice na nl nc, .slice da dl dc]) false n d) (hg : w.heap[g]? = some (.cells #[.bool x, .slice ya yl yc, .slice za zl zc] t (0, 0))) (q : w.grownBy w' (some g)) :
    RR w' (.agg #[.bool false, .slice na nl nc, .slice da dl dc]) false n d := by
  obtain ⟨a1, a2, a3, b1, b2, b3, e, m1, m2⟩ := h
  exact ⟨a1, a2, a3, b1, b2, b3, e, m1.past hg q, m2.past hg q⟩
theorem box3_store {w : World} {g : Nat} {x y z : Value} {t : TypeId} (h : w.heap[g]? = some (.cells #[x, y, z] t (0, 0))) (a b c : Value) : (((w.setCell ⟨g, 0, none⟩ a).setCell ⟨g, 1, none⟩ b).setCell ⟨g, 2, none⟩ c).heap[g]? = some (.cells #[a, b, c] t (0, 0)) := by
  simp only [World.setCell, Array.getElem?_modify, if_pos, h, Option.map_some]
  simp
theorem or_set {w1 w2 : World} {na : Option Addr} {nl nc : Nat} {da : Option Addr} {dl dc : Nat} {n d h : Nat} (bw : Below w1.heap.size w1 w2) (hq : RR w2 (.agg #[.bool false, .slice na nl nc, .slice da dl dc]) false n d) (AZ : w2.heap[h]? = some (.cells #[.bool false, .slice none 0 0, .slice none 0 0] 59 (0, 0))) (hh : w1.heap.size ≤ h) :
    OneRR w1 (((w2.setCell ⟨h, 0, none⟩ (.bool false)).setCell ⟨h, 1, none⟩ (.slice na nl nc)).setCell ⟨h, 2, none⟩ (.slice da dl dc)) h na nl nc da dl dc n d := by
  have q := set3 w2 h (.bool false) (.slice na nl nc) (.slice da dl dc)
  exact ⟨box3_store AZ _ _ _, rr_past hq AZ q, hh, bw.then_grown q (by rintro _ ⟨⟩; exact hh)⟩
theorem bel_set3 {w W : World} {g : Nat} {a b c : Value} (h : Below w.heap.size w W) (hg : w.heap.size ≤ g) : Below w.heap.size w (((W.setCell ⟨g, 0, none⟩ a).setCell ⟨g, 1, none⟩ b).setCell ⟨g, 2, none⟩ c) := h.then_grown (set3 _ _ _ _ _) (by rintro _ ⟨⟩; exact hg)
theorem cells3_keep {w W W2 : World} {a1 a2 a3 : Addr} {v1 v2 v3 : Value} (h : W.cell? a1 = some v1 ∧ W.cell? a2 = some v2 ∧ W.cell? a3 = some v3 ∧ Below w.heap.size w W) (b : Below W.heap.size W W2) : W2.cell? a1 = some v1 ∧ W2.cell? a2 = some v2 ∧ W2.cell? a3 = some v3 ∧ Below w.heap.size w W2 := by
  obtain ⟨h1, h2, h3, h5⟩ := h
  exact ⟨by rw [b.cell (World.block_lt_of_cell? W _ h1)]; exact h1, by rw [b.cell (World.block_lt_of_cell? W _ h2)]; exact h2, by rw [b.cell (World.block_lt_of_cell? W _ h3)]; exact h3, h5.then_below b⟩
theorem rn_past4 {w w' : World} {v : Value} {n g : Nat} {x x' : Bool} {ya : Option Addr} {yl yc : Nat} {za : Option Addr} {zl zc : Nat} {t : TypeId} (h : RN w v n) (hg : w.heap[g]? = some (.cells #[.bool x, .bool x', .slice ya yl yc, .slice za zl zc] t (0, 0))) (q : w.grownBy w' (some g)) : RN w' v n := by
  obtain ⟨l, hr, hd⟩ := h
  refine ⟨l, hr.kept q (fun g' e => ?_), hd⟩
  cases e
  obtain ⟨ao, cap, rfl, h1, h2, h3, h4⟩ := hr
  intro hl a m c e
  obtain ⟨b, off, rfl, hc⟩ := h4 hl
  cases e
  intro hbg
  have h0 := hc 0 (List.length_pos_iff.2 hl)
  have hbg' : b = g := hbg
  subst hbg'
  rw [cell_of_row w b (off + 0) _ t (0, 0) hg] at h0
  match hoff : off + 0, h0 with
  | 0, h0 => simp at h0
  | 1, h0 => simp at h0
  | 2, h0 => simp at h0
  | 3, h0 => simp at h0
  | k + 4, h0 => simp at h0
theorem rr_past4 {w w' : World} {na : Option Addr} {nl nc : Nat} {da : Option Addr} {dl dc : Nat} {n d g : Nat} {x y : Bool} {ya : Option Addr} {yl yc : Nat} {za : Option Addr} {zl zc : Nat} {t : TypeId} (h : RR w (.agg #[.bool false, .slice na nl nc, .slice da dl dc]) false n d) (hg : w.heap[g]? = some (.cells #[.bool x, .bool y, .slice ya yl yc, .slice za zl zc] t (0, 0))) (q : w.grownBy w' (some g)) :
    RR w' (.agg #[.bool false, .slice na nl nc, .slice da dl dc]) false n d := by
  obtain ⟨a1, a2, a3, b1, b2, b3, e, m1, m2⟩ := h
  exact ⟨a1, a2, a3, b1, b2, b3, e, rn_past4 m1 hg q, rn_past4 m2 hg q⟩
theorem cell_past {W W' : World} {g x j : Nat} {v : Value} (q : W.grownBy W' (some g)) (hx : x ≠ g) (h : W.cell? ⟨x, j, none⟩ = some v) : W'.cell? ⟨x, j, none⟩ = some v := by
  rw [World.cell?_of_block (a := ⟨x, j, none⟩) (q.block x (World.block_lt_of_cell? W _ h) (by simpa using hx))]
  exact h
theorem keep6_set4 {w W : World} {g1 g2 H : Nat} {v1 v2 v3 v4 v5 v6 a b c d : Value} (h : W.cell? ⟨g1, 0, none⟩ = some v1 ∧ W.cell? ⟨g1, 1, none⟩ = some v2 ∧ W.cell? ⟨g1, 2, none⟩ = some v3 ∧ W.cell? ⟨g2, 0, none⟩ = some v4 ∧ W.cell? ⟨g2, 1, none⟩ = some v5 ∧ W.cell? ⟨g2, 2, none⟩ = some v6 ∧ Below w.heap.size w W) (n1 : g1 ≠ H) (n2 : g2 ≠ H) (hH : w.heap.size ≤ H) :
    ((((W.setCell ⟨H, 0, none⟩ a).setCell ⟨H, 1, none⟩ b).setCell ⟨H, 2, none⟩ c).setCell ⟨H, 3, none⟩ d).cell? ⟨g1, 0, none⟩ = some v1 ∧ ((((W.setCell ⟨H, 0, none⟩ a).setCell ⟨H, 1, none⟩ b).setCell ⟨H, 2, none⟩ c).setCell ⟨H, 3, none⟩ d).cell? ⟨g1, 1, none⟩ = some v2 ∧ ((((W.setCell ⟨H, 0, none⟩ a).setCell ⟨H, 1, none⟩ b).setCell ⟨H, 2, none⟩ c).setCell ⟨H, 3, none⟩ d).cell? ⟨g1, 2, none⟩ = some v3 ∧ ((((W.setCell ⟨H, 0, none⟩ a).setCell ⟨H, 1, none⟩ b).setCell ⟨H, 2, none⟩ c).setCell ⟨H, 3, none⟩ d).cell? ⟨g2, 0, none⟩ = some v4 ∧ ((((W.setCell ⟨H, 0, none⟩ a).setCell ⟨H, 1, none⟩ b).setCell ⟨H, 2, none⟩ c).setCell ⟨H, 3, none⟩ d).cell? ⟨g2, 1, none⟩ = some v5 ∧ ((((W.setCell ⟨H, 0, none⟩ a).setCell ⟨H, 1, none⟩ b).setCell ⟨H, 2, none⟩ c).setCell ⟨H, 3, none⟩ d).cell? ⟨g2, 2, none⟩ = some v6 ∧ Below w.heap.size w ((((W.setCell ⟨H, 0, none⟩ a).setCell ⟨H, 1, none⟩ b).setCell ⟨H, 2, none⟩ c).setCell ⟨H, 3, none⟩ d) := by
  obtain ⟨h1, h2, h3, h4, h5, h6, hb⟩ := h
  have q := box4_grown W H a b c d
  exact ⟨cell_past q n1 h1, cell_past q n1 h2, cell_past q n1 h3, cell_past q n2 h4, cell_past q n2 h5, cell_past q n2 h6, bel_set4 hb hH⟩
theorem keep6_set3 {w W : World} {g1 g2 H : Nat} {v1 v2 v3 v4 v5 v6 a b c : Value} (h : W.cell? ⟨g1, 0, none⟩ = some v1 ∧ W.cell? ⟨g1, 1, none⟩ = some v2 ∧ W.cell? ⟨g1, 2, none⟩ = some v3 ∧ W.cell? ⟨g2, 0, none⟩ = some v4 ∧ W.cell? ⟨g2, 1, none⟩ = some v5 ∧ W.cell? ⟨g2, 2, none⟩ = some v6 ∧ Below w.heap.size w W) (n1 : g1 ≠ H) (n2 : g2 ≠ H) (hH : w.heap.size ≤ H) :
    (((W.setCell ⟨H, 0, none⟩ a).setCell ⟨H, 1, none⟩ b).setCell ⟨H, 2, none⟩ c).cell? ⟨g1, 0, none⟩ = some v1 ∧ (((W.setCell ⟨H, 0, none⟩ a).setCell ⟨H, 1, none⟩ b).setCell ⟨H, 2, none⟩ c).cell? ⟨g1, 1, none⟩ = some v2 ∧ (((W.setCell ⟨H, 0, none⟩ a).setCell ⟨H, 1, none⟩ b).setCell ⟨H, 2, none⟩ c).cell? ⟨g1, 2, none⟩ = some v3 ∧ (((W.setCell ⟨H, 0, none⟩ a).setCell ⟨H, 1, none⟩ b).setCell ⟨H, 2, none⟩ c).cell? ⟨g2, 0, none⟩ = some v4 ∧ (((W.setCell ⟨H, 0, none⟩ a).setCell ⟨H, 1, none⟩ b).setCell ⟨H, 2, none⟩ c).cell? ⟨g2, 1, none⟩ = some v5 ∧ (((W.setCell ⟨H, 0, none⟩ a).setCell ⟨H, 1, none⟩ b).setCell ⟨H, 2, none⟩ c).cell? ⟨g2, 2, none⟩ = some v6 ∧ Below w.heap.size w (((W.setCell ⟨H, 0, none⟩ a).setCell ⟨H, 1, none⟩ b).setCell ⟨H, 2, none⟩ c) := by
  obtain ⟨h1, h2, h3, h4, h5, h6, hb⟩ := h
  have q := set3 W H a b c
  exact ⟨cell_past q n1 h1, cell_past q n1 h2, cell_past q n1 h3, cell_past q n2 h4, cell_past q n2 h5, cell_past q n2 h6, bel_set3 hb hH⟩
theorem NB_lt {x X K : Nat} (h : x ≤ X) (hX : (X : Int) < M.NB ^ K) : (x : Int) < M.NB ^ K := Int.lt_of_le_of_lt (by exact_mod_cast h) hX
/-- What plain answers, at pairs. -/
def PlainAt (K X lu ll hu hl : Nat) : Prop :=
  Nat.gcd lu ll = 1 → (hl ≠ 0 → Nat.gcd hu hl = 1) → lu ≤ X → ll ≤ X → hu ≤ X → hl ≤ X → ∀ (w : World) (vlo ve : Value), RR w vlo false lu ll → ED w ve (decide (hl ≠ 0)) hu hl →
    Calls Tryz.prog 90 #[vlo, ve] w fun e w' => (∃ v, e = .returned v ∧ RR w' v false (M.smp lu ll hu hl).1 (M.smp lu ll hu hl).2) ∧ Below w.heap.size w w'
set_option maxRecDepth 100000 in
set_option maxHeartbeats 8000000 in
theorem plain_top (K X : Nat) (kX : ((2 * X : Nat) : Int) < M.NB ^ K) (hK : 2 * K + 1 ≤ 17592186044) (hK1 : 1 ≤ K) (lu ll hu hl : Nat) (bt : M.Bt lu ll hu hl) (ht : (lu / ll + 1) * hl < hu) : PlainAt K X lu ll hu hl := by
  intro g1 g2 b1 b2 b3 b4 w vlo ve hlo hhi
  rw [M.smp_top ht]
  have hlo' := hlo
  have hhi' := hhi
  obtain ⟨na, nl, nc, da, dl, dc, rfl, -, -⟩ := hlo
  obtain ⟨sh, pa, pl, pc, ra, rl, rc, rfl, -⟩ := hhi
  obtain ⟨is, his⟩ : ∃ is, decide (hl ≠ 0) = is := ⟨_, rfl⟩
  rw [his] at hhi'
  rw [his]
  obtain ⟨A0, C0, R0, B0⟩ := three_new' w (.cells #[.bool false, .slice na nl nc, .slice da dl dc] 59) (.cells #[.bool is, .bool sh, .slice pa pl pc, .slice ra rl rc] 61) (.cells #[.bool false, .slice none 0 0, .slice none 0 0] 59)
  have HLO := hide (hlo'.below B0)
  have HHI := hide (hhi'.below B0)
  have hll : 0 < ll := bt.1
  have hx1 : 1 ≤ 2 * X := by omega
  have kx : ((X : Nat) : Int) < M.NB ^ K := NB_lt (by omega) kX
  have hw : lu / ll ≤ lu := Nat.div_le_self _ _
  have hw1 : lu / ll + 1 ≤ 2 * X := by omega
  replace kX := hide kX
  have HT := hide ht
  have HIS := hide his
  clear hlo' hhi' ht his
  go_enter Tryz.func90, Tryz.ntmps90
  go_upto_region 1 with fail
  generalize (((w.alloc (.cells #[.bool false, .slice na nl nc, .slice da dl dc] 59)).alloc (.cells #[.bool is, .bool sh, .slice pa pl pc, .slice ra rl rc] 61)).alloc (.cells #[.bool false, .slice none 0 0, .slice none 0 0] 59)) = W1 at *
  have QB := hide (rbelow_pos W1 _ lu ll K HLO.out hll (NB_lt b1 kx) (NB_lt b2 kx) (by omega) hK1)
  obtain ⟨i0, i1, i2, -, -, -⟩ := box3 A0
  have R0h := hide R0
  have C0h := hide C0
  have B0h := hide B0
  clear R0 C0 B0 A0
  go_upto_region 2 with (go_at_call 131; refine QB.out.mono ?_; rintro e wa ⟨⟨v, rfl, hf⟩, ba⟩; have hf' := hf; obtain ⟨fa, fl, fc, ga, gl, gc, rfl, -, -⟩ := hf')
  have B2 := ba.then_below (alloc_below wa (.cells #[.bool false, .slice fa fl fc, .slice ga gl gc] 59))
  have F2 := hide (heap_alloc_new wa (.cells #[.bool false, .slice fa fl fc, .slice ga gl gc] 59))
  have HF := hide (hf.below (alloc_below wa (.cells #[.bool false, .slice fa fl fc, .slice ga gl gc] 59)))
  have R2 := hide (kept_block R0h.out B2)
  have C2 := hide (kept_block C0h.out B2)
  have D2 := hide (B0h.out.then_below B2)
  have HI2 := hide (HHI.out.below B2)
  generalize wa.alloc (.cells #[.bool false, .slice fa fl fc, .slice ga gl gc] 59) = W2 at *
  have hn5 : Hid (wa.heap.size ≠ w.heap.size + 1 + 1) := fun e => by have h1 := (Array.getElem?_eq_some_iff.1 R0h.out).1; have h2 := ba.size; omega
  generalize wa.heap.size = g5 at *
  clear QB R0h C0h B0h HHI HLO B2 ba hf i0 i1 i2
  have QW := hide (fun W => rwhole_calls W 1 (by decide))
  have QP := hide (fun W v (h : Below W2.heap.size W2 W) (hv : RR W v false 1 1) => rplus_pos W _ v (lu / ll) 1 1 1 K (lu / ll + 1) 1 (HF.out.below h) hv Nat.one_pos Nat.one_pos (NB_lt (Nat.le_trans hw b1) kx) (NB_lt hx1 kX.out) (NB_lt hx1 kX.out) (NB_lt hx1 kX.out) hK hK1 (by simp) (by simp))
  obtain ⟨i0, i1, i2, -, -, -⟩ := box3 F2.out
  have S0 := hide (And.intro i0 (And.intro i1 (And.intro i2 (Below.refl W2.heap.size W2))))
  clear i0 i1 i2
  go_cut [6] (fun sx wx => ∃ (gx : Nat) (a : Option Addr) (al ac : Nat) (d : Option Addr) (dl dc : Nat), sx = .pointer (some ⟨gx, 0, none⟩) ∧ Hid (OneRR W2 wx gx a al ac d dl dc (lu / ll + 1) 1))
  case first =>
    go_region_held3
      (fun w' => w'.cell? ⟨g5, 0, none⟩ = some (.bool false) ∧ w'.cell? ⟨g5, 1, none⟩ = some (.slice fa fl fc) ∧ w'.cell? ⟨g5, 2, none⟩ = some (.slice ga gl gc) ∧ Below W2.heap.size W2 w')
      (exact cells3_keep (w := W2) S0.out (by first | with_reducible exact bel_drew bel_refl | with_reducible exact bel_drew (bel_alloc (bel_refl)) | with_reducible exact bel_alloc (bel_drew bel_refl) | with_reducible exact Ba | with_reducible exact bel_alloc (Ba) | with_reducible exact bw | with_reducible exact bel_alloc (bw) | with_reducible exact bel_set3 (bw) (by omega) | with_reducible exact bel_alloc (bel_alloc (bw)) | with_reducible exact bel_set3 (bel_alloc (bw)) (by omega) | with_reducible exact bel_alloc (bel_set3 (bw) (by omega)) | with_reducible exact bel_set3 (bel_set3 (bw) (by omega)) (by omega)))
      (first
        | (go_at_call 89; refine (QW.out _).mono ?_; rintro e wa ⟨⟨v, rfl, hv⟩, ba⟩; have hv' := hv; obtain ⟨ea, el, ec, qa, ql, qc, rfl, -, -⟩ := hv'; have Ba : Below W2.heap.size W2 wa := Below.then_below (by first | with_reducible exact bel_drew bel_refl | with_reducible exact bel_drew (bel_alloc (bel_refl)) | with_reducible exact bel_alloc (bel_drew bel_refl)) ba; have sa : W2.heap.size ≤ wa.heap.size := Ba.size; (first | (have AZ0 : wa.heap[W2.heap.size]? = some (.cells #[.bool false, .slice none 0 0, .slice none 0 0] 59 (0, 0)) := kept_block (by exact heap_alloc_new W2 (.cells #[.bool false, .slice none 0 0, .slice none 0 0] 59)) ba; have lAZ0 : W2.heap.size < wa.heap.size := (Array.getElem?_eq_some_iff.1 AZ0).1; have nAZ0 : W2.heap.size ≠ wa.heap.size := Nat.ne_of_lt lAZ0; have mAZ0 : wa.heap.size ≠ W2.heap.size := Nat.ne_of_gt lAZ0) | skip))
        | (go_at_call 130; refine (QP.out _ _ (by first | with_reducible exact Ba | with_reducible exact bel_alloc (Ba)) (hv.below (by first | with_reducible exact bel_refl | with_reducible exact bel_alloc (bel_refl)))).mono ?_; rintro e wb ⟨⟨v, rfl, hb⟩, bb⟩; have hb' := hb; obtain ⟨s1, s2, s3, s4, s5, s6, rfl, -, -⟩ := hb'; have BAB : Below wa.heap.size wa wb := Below.then_below (by first | with_reducible exact bel_refl | with_reducible exact bel_alloc (bel_refl)) bb; have bw : Below W2.heap.size W2 wb := Ba.then_below BAB; have sb : wa.heap.size ≤ wb.heap.size := BAB.size; have sab : W2.heap.size ≤ wb.heap.size := bw.size; (first | (have AK0 : wb.heap[W2.heap.size]? = some (.cells #[.bool false, .slice none 0 0, .slice none 0 0] 59 (0, 0)) := kept_block AZ0 BAB; obtain ⟨cAK00, cAK01, cAK02, zAK00, zAK01, zAK02⟩ := box3 AK0; have lAK0 : W2.heap.size < wb.heap.size := (Array.getElem?_eq_some_iff.1 AK0).1; have nAK0 : W2.heap.size ≠ wb.heap.size := Nat.ne_of_lt lAK0; have mAK0 : wb.heap.size ≠ W2.heap.size := Nat.ne_of_gt lAK0) | skip); (first | (have AY0 : wb.heap[wa.heap.size]? = some (.cells #[.bool false, .slice none 0 0, .slice none 0 0] 59 (0, 0)) := kept_block (by with_reducible exact heap_alloc_new wa (.cells #[.bool false, .slice none 0 0, .slice none 0 0] 59)) bb; obtain ⟨cAY00, cAY01, cAY02, zAY00, zAY01, zAY02⟩ := box3 AY0; have lAY0 : wa.heap.size < wb.heap.size := (Array.getElem?_eq_some_iff.1 AY0).1; have nAY0 : wa.heap.size ≠ wb.heap.size := Nat.ne_of_lt lAY0; have mAY0 : wb.heap.size ≠ wa.heap.size := Nat.ne_of_gt lAY0) | skip)))
    all_goals (go_wp2_with fail; go_meet)
    all_goals first
      | with_reducible exact ⟨_, s1, s2, s3, s4, s5, s6, rfl, hide (or_alloc bw hb)⟩
      | with_reducible exact ⟨_, s1, s2, s3, s4, s5, s6, rfl, hide (or_set bw hb AK0 (by omega))⟩
      | with_reducible exact ⟨_, s1, s2, s3, s4, s5, s6, rfl, hide (or_set bw hb AY0 (by omega))⟩
  case rest =>
  obtain ⟨g6, s1, s2, s3, s4, s5, s6, rfl, T⟩ := hcut
  rename World => W3
  obtain ⟨p6, hn, h6, B3⟩ := T.out
  have D3 := hide (D2.out.then_below B3)
  have R3 := hide (kept_block R2.out B3)
  have C3 := hide (kept_block C2.out B3)
  have HI3 := hide (HI2.out.below B3)
  have P6 := hide p6
  have HN := hide hn
  clear T S0 QW QP D2 R2 C2 HI2 F2 HF p6 hn h6 B3
  cases is with
  | false =>
    obtain ⟨j0, j1, j2, j3⟩ := (box4 C3.out).1
    obtain ⟨i0, i1, i2, -, -, -⟩ := box3 P6.out
    obtain ⟨z0, z1, z2, f0, f1, f2⟩ := box3 R3.out
    go_wp2
    refine bodyPost_ret (v := .agg #[.bool false, .slice s1 s2 s3, .slice s4 s5 s6]) (by simp [results, Tryz.results90, go_sem, z0, z1, z2]) rfl ?_
    have q := set3 W3 (w.heap.size + 1 + 1) (.bool false) (.slice s1 s2 s3) (.slice s4 s5 s6)
    exact ⟨⟨_, rfl, rr_past HN.out R3.out q⟩, D3.out.then_grown q (by rintro g ⟨⟩; omega)⟩
  | true =>
    have h0 : hl ≠ 0 := of_decide_eq_true HIS.out
    obtain ⟨s, na', nl', nc', da', dl', dc', e, hr⟩ := HI3.out
    have hr' := hr rfl
    simp only [Value.agg.injEq, Array.mk.injEq, List.cons.injEq, Value.bool.injEq, Value.slice.injEq, true_and, and_true] at e
    obtain ⟨rfl, ⟨rfl, rfl, rfl⟩, rfl, rfl, rfl⟩ := e
    have hsh : sh = false := by
      obtain ⟨_, _, _, _, _, _, e2, -, -⟩ := hr'
      simp only [Value.agg.injEq, Array.mk.injEq, List.cons.injEq, Value.bool.injEq] at e2
      exact e2.1
    subst hsh
    have QC := hide (rcompare_pos W3 _ _ (lu / ll + 1) 1 hu hl K HN.out hr' Nat.one_pos (Nat.pos_of_ne_zero h0) (NB_lt hw1 kX.out) (NB_lt hx1 kX.out) (NB_lt b3 kx) (NB_lt b4 kx) hK hK1)
    have hlt : (lu / ll + 1) * hl < hu * 1 := by rw [Nat.mul_one]; exact HT.out
    have HLT := hide hlt
    clear hr hr' HI3 hlt
    obtain ⟨j0, j1, j2, j3⟩ := (box4 C3.out).1
    obtain ⟨i0, i1, i2, -, -, -⟩ := box3 P6.out
    go_wp2_with (go_at_call 44; refine QC.out.mono ?_; rintro e wa ⟨⟨c, rfl, hc, -⟩, ba⟩; have hneg := hc.2 HLT.out; obtain ⟨i0, i1, i2, -, -, -⟩ := box3 (kept_block P6.out ba); have Rz := kept_block R3.out ba; obtain ⟨z0, z1, z2, f0, f1, f2⟩ := box3 Rz; replace hc := hide hc)
    refine bodyPost_ret (v := .agg #[.bool false, .slice s1 s2 s3, .slice s4 s5 s6]) (by simp [results, Tryz.results90, go_sem, z0, z1, z2]) rfl ?_
    have q := set3 wa (w.heap.size + 1 + 1) (.bool false) (.slice s1 s2 s3) (.slice s4 s5 s6)
    exact ⟨⟨_, rfl, rr_past (HN.out.below ba) Rz q⟩, (D3.out.then_below ba).then_grown q (by rintro g ⟨⟩; omega)⟩
end Go.Proofs.YtebnjolkolobhaaGreatDoor
