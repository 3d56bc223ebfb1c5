/-
  arbiterlaw4.heads: what must come at any rate comes.
-/
import Derived.Test.YtjbalgjdcdmjjaaDoorShowAll
import Derived.Test.YtjbalgjdcdmjjaaDoorSexpRows
import Derived.Test.YtjbalgjdcdmjjaaDoorToNdC
/- ==== Heads ==== -/
namespace Go.Proofs.YtjbalgjdcdmjjaaDoor
open Go.RowKit
set_option linter.unusedVariables false
def hdT : List UInt8 := [32, 40, 102, 32, 40, 41, 32, 124, 98, 32, 99, 124, 41]
def hdN : List X.N := [⟨1, 1, 13, 4, []⟩, ⟨3, 2, 3, 1, [102]⟩, ⟨1, 4, 6, 1, []⟩, ⟨3, 7, 12, 1, [98, 32, 99]⟩]
theorem hd_read : X.out (S.run resv .idle hdT 0).1 (S.run resv .idle hdT 0).2.1 (S.run resv .idle hdT 0).2.2 = (hdN, 0, 0) := by kernel_rfl
theorem hd_wr : S.wr [98, 32, 99] = true := by
  have c1 : S.chr [98, 32, 99] = 1 := by decide +kernel
  have c2 : S.chr [32, 99] = 1 := by decide +kernel
  have c3 : S.chr [99] = 1 := by decide +kernel
  rw [S.wr_on (by decide +kernel) (by rw [c1]; decide), c1]
  show S.wr [32, 99] = true
  rw [S.wr_on (by decide +kernel) (by rw [c2]; decide), c2]
  show S.wr [99] = true
  rw [S.wr_on (by decide +kernel) (by rw [c3]; decide), c3]
  exact S.wr_nil
theorem hd_bar : S.spl resv 3 [98, 32, 99] = some [124, 98, 32, 99, 124] := by
  show S.quo resv [98, 32, 99] = _
  unfold S.quo
  rw [if_neg (by decide +kernel), hd_wr]
  rfl
theorem hd_jn : S.jn resv none (jk (lnt (hdN.map toNd) 0)) = some [40, 102, 32, 40, 41, 32, 124, 98, 32, 99, 124, 41] := by
  have e : jk (lnt (hdN.map toNd) 0) = [(1, [40]), (3, [102]), (1, [40]), (2, [41]), (3, [98, 32, 99]), (2, [41])] := by decide +kernel
  have s1 : S.spl resv 1 [40] = some [40] := by decide +kernel
  have s2 : S.spl resv 2 [41] = some [41] := by decide +kernel
  have s3 : S.spl resv 3 [102] = some [102] := by decide +kernel
  rw [e]
  simp only [S.jn, s1, s2, s3, hd_bar]
  decide +kernel
theorem hd_show : showV (hdN.map toNd) = [40, 102, 32, 40, 41, 32, 124, 98, 32, 99, 124, 41, 10] ∧ showE (hdN.map toNd) = 0 := by
  have hf : forestB (hdN.map toNd) = true := by decide +kernel
  have hk : kl (hdN.map toNd) (hdN.map toNd).length (hdN.map toNd).length 0 = [0] := by decide +kernel
  have hA : showA (hdN.map toNd) = some [40, 102, 32, 40, 41, 32, 124, 98, 32, 99, 124, 41, 10] := by
    unfold showA
    rw [hk, shw, hd_jn]
    rfl
  unfold showV showE
  rw [hf, hA]
  exact ⟨rfl, rfl⟩
theorem hd_kids : kidsC (hdN.map toNd) 0 = 0 ∧ kidsX (hdN.map toNd) 0 = [1, 2, 3] := by decide +kernel
theorem hd_tot : ∀ k, k < (hdN.map toNd).length → jtot (lnt (hdN.map toNd) k) ≤ 33554432 := by decide +kernel
set_option maxRecDepth 100000 in
set_option maxHeartbeats 1000000 in
theorem heads_calls (w : World) (hc : Cls w) (hm : Mx w) :
    Calls Tryd.prog 12 #[] w fun e w' => e = .returned (.bool true) ∧ Below w.heap.size w w' := by
  have q0 := hide (sexpRead_calls w hc ⟨hdT.toArray⟩ hdT rfl (by decide) (hdN, 0, 0) hd_read.symm)
  have hmH := hide hm
  have hcH := hide hc
  clear hm hc
  go_enter Tryd.func12, Tryd.ntmps12
  go_wp2_with fail
  refine q0.out.mono ?_
  rintro x w1 ⟨v1, rfl, r1, b1⟩
  have hc1 := hide (cls_below hcH.out b1)
  have hm1 := hide (hmH.out.below b1)
  have n1 := hide (r1.nds (by decide))
  have q1 := hide (show_calls w1 hc1.out hm1.out w1.heap.size v1 _ n1.out (Nat.le_refl _) (by decide) hd_tot)
  rw [hd_show.1, hd_show.2] at q1
  have q2 := hide (fun W (q : Below w1.heap.size w1 W) => kids_calls W w1.heap.size v1 _ (n1.out.below q) q.size 0)
  rw [hd_kids.1, hd_kids.2] at q2
  obtain ⟨a, cap, rfl, h1, h2⟩ := r1.shape
  obtain ⟨b, off, rfl, x0, x1, x2, x3, x4⟩ := r1.at_ (j := 0) (by decide)
  obtain ⟨_, _, e2, y0, -, -, y3, -⟩ := r1.at_ (j := 2) (by decide)
  cases e2
  obtain ⟨_, _, e3, z0, z1, z2, -, z4⟩ := r1.at_ (j := 3) (by decide)
  cases e3
  have X0 : w1.cell? ⟨b, off, none⟩ = some (.int .i64 1) := x0
  have X1 : w1.cell? ⟨b, off + 1, none⟩ = some (.int .i64 1) := x1
  have X2 : w1.cell? ⟨b, off + 2, none⟩ = some (.int .i64 13) := x2
  have X3 : w1.cell? ⟨b, off + 3, none⟩ = some (.int .i64 4) := x3
  have Y0 : w1.cell? ⟨b, off + 10, none⟩ = some (.int .i64 1) := y0
  have Y3 : w1.cell? ⟨b, off + 10 + 3, none⟩ = some (.int .i64 1) := y3
  have Z0 : w1.cell? ⟨b, off + 15, none⟩ = some (.int .i64 3) := z0
  have Z1 : w1.cell? ⟨b, off + 15 + 1, none⟩ = some (.int .i64 7) := z1
  have Z2 : w1.cell? ⟨b, off + 15 + 2, none⟩ = some (.int .i64 12) := z2
  have Z4 : w1.cell? ⟨b, off + 15 + 4, none⟩ = some (.string ⟨#[98, 32, 99]⟩) := z4
  have hl : hdN.length = 4 := rfl
  rw [hl] at q1 q2 h1 ⊢
  replace b1 := hide b1
  clear x0 x1 x2 x3 y0 y3 z0 z1 z2 z4 hl r1 n1
  go_wp2_with (first
    | (go_at_call 22; refine (no_calls _ _).mono ?_; rintro x w4 ⟨rfl, rfl⟩)
    | (go_at_call 14; refine q1.out.mono ?_; rintro x w2 ⟨rfl, b2⟩; have q3 := hide (q2.out w2 b2); replace b2 := hide b2)
    | (go_at_call 16; refine q3.out.mono ?_; rintro x w3 ⟨⟨v3, rfl, r3⟩, b3⟩; obtain ⟨a3, c3, e3, g1, g2, g3⟩ := r3; obtain ⟨b4, o4, e4, g4, g5⟩ := g3 (by decide); subst e3; subst e4; have k0 : w3.cell? ⟨b4, o4, none⟩ = some (.int .i64 1) := g5 0 (by decide); have k1 : w3.cell? ⟨b4, o4 + 1, none⟩ = some (.int .i64 2) := g5 1 (by decide); have k2 : w3.cell? ⟨b4, o4 + 2, none⟩ = some (.int .i64 3) := g5 2 (by decide); clear g3 g5; replace b3 := hide b3))
  go_ret
  exact ⟨rfl, (b1.out.then_below b2.out).then_below b3.out⟩
end Go.Proofs.YtjbalgjdcdmjjaaDoor
