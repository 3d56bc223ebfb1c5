/- Laid together of: SexpRows, ToNd, Heads. -/
import Derived.Test.YtackibimlpkcmaaDoorq24
import Derived.Test.YtackibimlpkcmaaDoorq4
import Derived.Test.YtackibimlpkcmaaDoorq7
import Derived.Test.YtackibimlpkcmaaDoorq21
import Derived.Test.YtackibimlpkcmaaDoorq26
/- ==== SexpRows ==== -/
namespace Go.Proofs.YtackibimlpkcmaaDoor
open Go.RowKit
set_option linter.unusedVariables false
theorem NRow.shape {w : World} {v : Value} {ns : List X.N} (h : NRow w v ns) : ∃ a cap, v = .slice a ns.length cap ∧ ns.length ≤ cap ∧ cap ≤ 9223372036854775807 := by
  obtain ⟨a, cap, rfl, h1, h2, h4⟩ := h
  exact ⟨a, cap, rfl, h1, h2⟩
theorem NRow.at_ {w : World} {a : Option Addr} {n cap : Nat} {ns : List X.N} (h : NRow w (.slice a n cap) ns) {j : Nat} (hj : j < ns.length) :
    ∃ b off, a = some ⟨b, off, none⟩ ∧ w.cell? ⟨b, off + j * 5, none⟩ = some (.int .i64 (ns.getD j X.n0).kind) ∧
      w.cell? ⟨b, off + j * 5 + 1, none⟩ = some (.int .i64 (ns.getD j X.n0).beg) ∧
      w.cell? ⟨b, off + j * 5 + 2, none⟩ = some (.int .i64 (ns.getD j X.n0).fin) ∧
      w.cell? ⟨b, off + j * 5 + 3, none⟩ = some (.int .i64 (ns.getD j X.n0).size) ∧
      w.cell? ⟨b, off + j * 5 + 4, none⟩ = some (.string ⟨(ns.getD j X.n0).text.toArray⟩) := by
  obtain ⟨a', cap', e, h1, h2, h4⟩ := h
  cases e
  obtain ⟨b, off, rfl, hc⟩ := h4 (by intro e; rw [e] at hj; simp at hj)
  exact ⟨b, off, rfl, hc j hj⟩
set_option maxRecDepth 100000 in
set_option maxHeartbeats 600000 in
theorem sameN_calls (w : World) (va vb : Value) (ns : List X.N) (ha : NRow w va ns) (hb : NRow w vb ns) :
    Calls Tryd.prog 21 #[va, vb] w fun e w' => e = .returned (.bool true) ∧ Below w.heap.size w w' := by
  obtain ⟨LL, hLL⟩ : ∃ n, ns.length = n := ⟨_, rfl⟩
  obtain ⟨a1, cp1, rfl, n1, n1'⟩ := ha.shape
  obtain ⟨a2, cp2, rfl, n2, n2'⟩ := hb.shape
  have t1 := hide ha
  have t2 := hide hb
  rw [hLL] at n1 n2 t1 t2 ⊢
  have hLh := hide hLL
  clear ha hb hLL
  have B0 : Hid (Below w.heap.size w w) := Below.refl _ w
  go_enter Tryd.func21, Tryd.ntmps21
  go_wp2
  go_loopw [5] (fun j wr => ∃ k : Nat, k ≤ LL ∧ j = .int .i64 k ∧ Hid (Below w.heap.size w wr)) (fun j _ => LL - (intOf j).toNat)
  case atStart => exact ⟨0, Nat.zero_le _, rfl, B0⟩
  case round =>
    clear B0
    obtain ⟨k, hk, rfl, hB⟩ := hrel
    by_cases hlt : k < LL
    · have T1 := t1.out.below hB.out
      obtain ⟨g1, f1, rfl, x0, x1, x2, x3, x4⟩ := T1.at_ (j := k) (by rw [hLh.out]; exact hlt)
      have T2 := t2.out.below hB.out
      obtain ⟨g2, f2, rfl, y0, y1, y2, y3, y4⟩ := T2.at_ (j := k) (by rw [hLh.out]; exact hlt)
      generalize ns.getD k X.n0 = t at x0 x1 x2 x3 x4 y0 y1 y2 y3 y4
      have i1 : (k : Int) < LL := by omega
      clear T1 T2
      go_wp2
      go_quiet (fail)
      go_wp2
      go_roundw
      case rel => exact ⟨k + 1, by omega, by go_num, below_drewN hB.out _⟩
      case measure => simp [intOf]; omega
    · go_wp2
      go_ret
      exact ⟨rfl, hB.out⟩
set_option maxRecDepth 100000 in
set_option maxHeartbeats 600000 in
theorem no_calls (w : World) (z : Int) : Calls Tryd.prog 15 #[.int .i64 z] w fun e w' => e = .returned (.int .i64 z) ∧ w' = w := by
  go_enter Tryd.func15, Tryd.ntmps15
  go_wp2
  go_ret
  exact ⟨rfl, rfl⟩
end Go.Proofs.YtackibimlpkcmaaDoor
/- ==== ToNd ==== -/
namespace Go.Proofs.YtackibimlpkcmaaDoor
open Go.RowKit
set_option linter.unusedVariables false
def toNd (n : X.N) : Nd := ⟨n.kind, n.beg, n.fin, n.size, ⟨n.text.toArray⟩⟩
theorem toNd_at (ns : List X.N) (j : Nat) : (ns.map toNd).getD j Nd.z = toNd (ns.getD j X.n0) := by
  rw [List.getD_eq_getElem?_getD, List.getD_eq_getElem?_getD, List.getElem?_map]
  cases ns[j]? with
  | none => rfl
  | some x => rfl
theorem NRow.nds {w : World} {v : Value} {ns : List X.N} (h : NRow w v ns) (hl : ns.length ≤ 2932031007402) : Nds w.heap.size w v (ns.map toNd) := by
  obtain ⟨a, cap, rfl, h1, h2, h4⟩ := h
  refine ⟨a, cap, by rw [List.length_map], by rw [List.length_map]; exact h1, ⟨h2, by rw [List.length_map]; exact hl⟩, fun e => ?_, fun hne => ?_⟩
  · rcases List.eq_nil_or_concat ns with rfl | ⟨x, y, hx⟩
    · rfl
    · obtain ⟨b, off, e2, _⟩ := h4 (by rw [hx]; simp)
      rw [e] at e2
      cases e2
  · obtain ⟨b, off, rfl, hc⟩ := h4 (by rintro rfl; exact hne rfl)
    refine ⟨b, off, rfl, ?_, fun j hj => ?_⟩
    · have hp : 0 < ns.length := by
        rcases Nat.eq_zero_or_pos ns.length with e | e
        · exact absurd (by rw [List.length_eq_zero_iff.1 e]; rfl) hne
        · exact e
      exact World.block_lt_of_cell? w _ (hc 0 hp).1
    · rw [List.length_map] at hj
      rw [toNd_at]
      exact hc j hj
theorem bytes_nil : (⟨([] : List UInt8).toArray⟩ : ByteArray).toList = [] := by
  unfold ByteArray.toList ByteArray.toList.loop
  rw [if_neg (by show ¬ (0 : Nat) < 0; omega)]
  rfl
theorem fo_sq {T : List S.Tok} {M : List X.N} (h : X.Sq T M) : (∀ t ∈ T, 1 ≤ t.kind ∧ t.kind ≤ 10) → ∀ (r : List Nd) (i e : Nat) (Z : List Nat), i + M.length ≤ e → fo (M.map toNd ++ r) i (e :: Z) = fo r (i + M.length) (e :: Z) := by
  induction h using X.Sq.ind with
  | nil => intro _ r i e Z _; rfl
  | atom t T M h1 h2 h3 ih =>
    intro hk r i e Z hi
    rw [List.length_cons] at hi
    have k := hk t (by simp)
    rw [List.map_cons, List.cons_append, fo_atom (by omega) (.inr ⟨by show ¬ (t.kind : Int) = 1; omega, by show (3 : Int) ≤ t.kind; omega, by show (t.kind : Int) ≤ 10; omega, rfl⟩) (by show ¬ (t.kind : Int) = 1; omega), ih (fun t ht => hk t (by simp [ht])) r (i + 1) e Z (by omega), List.length_cons, show i + 1 + M.length = i + (M.length + 1) by omega]
  | list o c T M U K h1 h2 h3 h4 ih1 ih2 =>
    intro hk r i e Z hi
    rw [List.length_cons, List.length_append] at hi
    have e1 : (i + (toNd ⟨1, o.beg, c.fin, M.length + 1, []⟩).size.toNat) = i + (M.length + 1) := by
      show i + ((M.length + 1 : Nat) : Int).toNat = _
      rw [Int.toNat_natCast]
    rw [List.map_cons, List.cons_append, fo_open (by omega) (.inl ⟨rfl, bytes_nil, by show (1 : Int) ≤ ((M.length + 1 : Nat) : Int); omega, by show ((M.length + 1 : Nat) : Int) ≤ (e : Int) - (i : Int); omega⟩) rfl, e1, List.map_append, List.append_assoc,
      ih1 (fun t ht => hk t (by simp [ht])) _ (i + 1) (i + (M.length + 1)) _ (by omega), show i + 1 + M.length = i + (M.length + 1) by omega, fo_pop, ih2 (fun t ht => hk t (by simp [ht])) r _ e Z (by omega), List.length_cons, List.length_append, show i + (M.length + 1) + K.length = i + (M.length + K.length + 1) by omega]
/-- What is read is a forest. -/
theorem forest_read {l : List UInt8} {ts : List S.Tok} {f : List X.N} (h : S.run resv .idle l 0 = (ts, 0, 0)) (hf : X.Sq ts f) : forestB (f.map toNd) = true := by
  have hk : ∀ t ∈ ts, 1 ≤ t.kind ∧ t.kind ≤ 10 := by
    intro t ht
    have := S.run_okL resv l .idle 0 trivial t (by rw [h]; exact ht)
    exact ⟨this.2.1, this.2.2.1⟩
  have := fo_sq hf hk [] 0 f.length [] (by omega)
  unfold forestB
  rw [List.append_nil] at this
  rw [List.length_map, this]
  rfl
end Go.Proofs.YtackibimlpkcmaaDoor
/- ==== Heads ==== -/
namespace Go.Proofs.YtackibimlpkcmaaDoor
open Go.RowKit
set_option linter.unusedVariables false
def hdT : List UInt8 := [32, 40, 102, 32, 40, 41, 32, 124, 98, 32, 99, 124, 41]
def hdN : List X.N := [⟨1, 1, 13, 4, []⟩, ⟨3, 2, 3, 1, [102]⟩, ⟨1, 4, 6, 1, []⟩, ⟨3, 7, 12, 1, [98, 32, 99]⟩]
theorem hd_read : X.out (S.run resv .idle hdT 0).1 (S.run resv .idle hdT 0).2.1 (S.run resv .idle hdT 0).2.2 = (hdN, 0, 0) := by kernel_rfl
theorem hd_wr : S.wr [98, 32, 99] = true := by
  have c1 : S.chr [98, 32, 99] = 1 := by decide +kernel
  have c2 : S.chr [32, 99] = 1 := by decide +kernel
  have c3 : S.chr [99] = 1 := by decide +kernel
  rw [S.wr_on (by decide +kernel) (by rw [c1]; decide), c1]
  show S.wr [32, 99] = true
  rw [S.wr_on (by decide +kernel) (by rw [c2]; decide), c2]
  show S.wr [99] = true
  rw [S.wr_on (by decide +kernel) (by rw [c3]; decide), c3]
  exact S.wr_nil
theorem hd_bar : S.spl resv 3 [98, 32, 99] = some [124, 98, 32, 99, 124] := by
  show S.quo resv [98, 32, 99] = _
  unfold S.quo
  rw [if_neg (by decide +kernel), hd_wr]
  rfl
theorem hd_jn : S.jn resv none (jk (lnt (hdN.map toNd) 0)) = some [40, 102, 32, 40, 41, 32, 124, 98, 32, 99, 124, 41] := by
  have e : jk (lnt (hdN.map toNd) 0) = [(1, [40]), (3, [102]), (1, [40]), (2, [41]), (3, [98, 32, 99]), (2, [41])] := by decide +kernel
  have s1 : S.spl resv 1 [40] = some [40] := by decide +kernel
  have s2 : S.spl resv 2 [41] = some [41] := by decide +kernel
  have s3 : S.spl resv 3 [102] = some [102] := by decide +kernel
  rw [e]
  simp only [S.jn, s1, s2, s3, hd_bar]
  decide +kernel
theorem hd_show : showV (hdN.map toNd) = [40, 102, 32, 40, 41, 32, 124, 98, 32, 99, 124, 41, 10] ∧ showE (hdN.map toNd) = 0 := by
  have hf : forestB (hdN.map toNd) = true := by decide +kernel
  have hk : kl (hdN.map toNd) (hdN.map toNd).length (hdN.map toNd).length 0 = [0] := by decide +kernel
  have hA : showA (hdN.map toNd) = some [40, 102, 32, 40, 41, 32, 124, 98, 32, 99, 124, 41, 10] := by
    unfold showA
    rw [hk, shw, hd_jn]
    rfl
  unfold showV showE
  rw [hf, hA]
  exact ⟨rfl, rfl⟩
theorem hd_kids : kidsC (hdN.map toNd) 0 = 0 ∧ kidsX (hdN.map toNd) 0 = [1, 2, 3] := by decide +kernel
theorem hd_tot : ∀ k, k < (hdN.map toNd).length → jtot (lnt (hdN.map toNd) k) ≤ 33554432 := by decide +kernel
set_option maxRecDepth 100000 in
set_option maxHeartbeats 1000000 in
theorem heads_calls (w : World) (hc : Cls w) (hm : Mx w) :
    Calls Tryd.prog 13 #[] w fun e w' => e = .returned (.bool true) ∧ Below w.heap.size w w' := by
  have q0 := hide (sexpRead_calls w hc ⟨hdT.toArray⟩ hdT rfl (by decide) (hdN, 0, 0) hd_read.symm)
  have hmH := hide hm
  have hcH := hide hc
  clear hm hc
  go_enter Tryd.func13, Tryd.ntmps13
  go_wp2_with fail
  refine q0.out.mono ?_
  rintro x w1 ⟨v1, rfl, r1, b1⟩
  have hc1 := hide (cls_below hcH.out b1)
  have hm1 := hide (hmH.out.below b1)
  have n1 := hide (r1.nds (by decide))
  have q1 := hide (show_calls w1 hc1.out hm1.out w1.heap.size v1 _ n1.out (Nat.le_refl _) (by decide) hd_tot)
  rw [hd_show.1, hd_show.2] at q1
  have q2 := hide (fun W (q : Below w1.heap.size w1 W) => kids_calls W w1.heap.size v1 _ (n1.out.below q) q.size 0)
  rw [hd_kids.1, hd_kids.2] at q2
  obtain ⟨a, cap, rfl, h1, h2⟩ := r1.shape
  obtain ⟨b, off, rfl, x0, x1, x2, x3, x4⟩ := r1.at_ (j := 0) (by decide)
  obtain ⟨_, _, e2, y0, -, -, y3, -⟩ := r1.at_ (j := 2) (by decide)
  cases e2
  obtain ⟨_, _, e3, z0, z1, z2, -, z4⟩ := r1.at_ (j := 3) (by decide)
  cases e3
  have X0 : w1.cell? ⟨b, off, none⟩ = some (.int .i64 1) := x0
  have X1 : w1.cell? ⟨b, off + 1, none⟩ = some (.int .i64 1) := x1
  have X2 : w1.cell? ⟨b, off + 2, none⟩ = some (.int .i64 13) := x2
  have X3 : w1.cell? ⟨b, off + 3, none⟩ = some (.int .i64 4) := x3
  have Y0 : w1.cell? ⟨b, off + 10, none⟩ = some (.int .i64 1) := y0
  have Y3 : w1.cell? ⟨b, off + 10 + 3, none⟩ = some (.int .i64 1) := y3
  have Z0 : w1.cell? ⟨b, off + 15, none⟩ = some (.int .i64 3) := z0
  have Z1 : w1.cell? ⟨b, off + 15 + 1, none⟩ = some (.int .i64 7) := z1
  have Z2 : w1.cell? ⟨b, off + 15 + 2, none⟩ = some (.int .i64 12) := z2
  have Z4 : w1.cell? ⟨b, off + 15 + 4, none⟩ = some (.string ⟨#[98, 32, 99]⟩) := z4
  have hl : hdN.length = 4 := rfl
  rw [hl] at q1 q2 h1 ⊢
  replace b1 := hide b1
  clear x0 x1 x2 x3 y0 y3 z0 z1 z2 z4 hl r1 n1
  go_wp2_with (first
    | (go_at_call 15; refine (no_calls _ _).mono ?_; rintro x w4 ⟨rfl, rfl⟩)
    | (go_at_call 20; refine q1.out.mono ?_; rintro x w2 ⟨rfl, b2⟩; have q3 := hide (q2.out w2 b2); replace b2 := hide b2)
    | (go_at_call 18; refine q3.out.mono ?_; rintro x w3 ⟨⟨v3, rfl, r3⟩, b3⟩; obtain ⟨a3, c3, e3, g1, g2, g3⟩ := r3; obtain ⟨b4, o4, e4, g4, g5⟩ := g3 (by decide); subst e3; subst e4; have k0 : w3.cell? ⟨b4, o4, none⟩ = some (.int .i64 1) := g5 0 (by decide); have k1 : w3.cell? ⟨b4, o4 + 1, none⟩ = some (.int .i64 2) := g5 1 (by decide); have k2 : w3.cell? ⟨b4, o4 + 2, none⟩ = some (.int .i64 3) := g5 2 (by decide); clear g3 g5; replace b3 := hide b3))
  go_ret
  exact ⟨rfl, (b1.out.then_below b2.out).then_below b3.out⟩
end Go.Proofs.YtackibimlpkcmaaDoor
