/- Laid together of: ShowStand, ShowMem. -/
import Derived.Test.YtackibimlpkcmaaDoorq7
import Derived.Test.YtackibimlpkcmaaDoorq24
/- ==== ShowStand ==== -/
namespace Go.Proofs.YtackibimlpkcmaaDoor
open Go.RowKit Go.Shelf
set_option linter.unusedVariables false
attribute [local go_sem] Oper.semAt_some
set_option maxRecDepth 100000 in
set_option maxHeartbeats 2000000 in
/-- The iterator, for every loop body that keeps what lay below n₀ and the iterator's boxes. -/
theorem stand1_at (F : Fence) (n : Nat) (h7 : F.fn 56) (hro : F.round = none) (hn : 1 ≤ n) (l lo n₀ : Nat) (a : Option Addr) (len cap : Nat) (ns : List Nd) (hS : Szs ns) (p0 E : Nat) (hE : E ≤ ns.length) (J Jx : List Nat → World → Prop)
    (hY : ∀ pre x W, J pre W → pre.length < ns.length → x < ns.length → YieldAt F (n - 1) Tryd.prog l #[.int .i64 ((x : Nat) : Int)] W fun e W' =>
      (e = .returned (.bool true) ∧ J (pre ++ [x]) W' ∧ KpS n₀ lo W W') ∨ (e = .returned (.bool false) ∧ Jx (pre ++ [x]) W'))
    (W : World) (hb0 : W.cell? ⟨lo, 0, none⟩ = some (.slice a len cap)) (hb1 : W.cell? ⟨lo + 1, 0, none⟩ = some (.int .i64 p0)) (hb2 : W.cell? ⟨lo + 2, 0, none⟩ = some (.int .i64 E)) (hN : Nds n₀ W (.slice a len cap) ns) (h0 : J [] W) :
    CallsIn F n Tryd.prog 56 #[.func (.yield l) #[] #[], .pointer (some ⟨lo + 1, 0, none⟩), .pointer (some ⟨lo + 2, 0, none⟩), .pointer (some ⟨lo, 0, none⟩)] W fun e W' => (∃ v, e = .returned v) ∧
      ((∃ ys, ys = kl ns E ns.length p0 ∧ J ys W') ∨ (∃ pre, pre <+: kl ns E ns.length p0 ∧ Jx pre W')) := by
  have hN' := hide hN
  obtain ⟨a', cap', e1, h1, ⟨h2, h2'⟩, h3, h4⟩ := hN
  cases e1
  clear h3 h4
  refine callsIn_of_wp Tryd.func56 rfl h7 ?_ hro
  simp only [Tryd.ntmps56, List.size_toArray, List.length_cons, List.length_nil, Nat.reduceAdd, Nat.reduceSub, Array.replicate_succ, Array.replicate_zero, List.push_toArray, List.append_toArray, List.nil_append, List.cons_append]
  gi_wp2
  gi_loopw [5] (fun j wr => ∃ (pre : List Nat) (k p : Nat), j = .int .i64 p ∧ Hid (kl ns E ns.length p0 = pre ++ kl ns E k p) ∧ Hid (E - p ≤ k) ∧ Hid (J pre wr) ∧ Hid (KpS n₀ lo W wr)) (fun j _ => E - (intOf j).toNat)
  case atStart => exact ⟨[], ns.length, p0, rfl, rfl, by simp only [Hid]; omega, h0, KpS_refl _ _ _⟩
  case round =>
    obtain ⟨pre, k, p, rfl, hpre, hk, hJ, hKp⟩ := hrel
    have hb2' : wr.cell? ⟨lo + 2, 0, none⟩ = some (.int .i64 E) := (hKp.out.cell (by omega) (by omega) 0).trans hb2
    by_cases hlt : p < E
    · have hpn : p < ns.length := by omega
      obtain ⟨k, rfl⟩ : ∃ k', k = k' + 1 := ⟨k - 1, by have := hk.out; omega⟩
      have hgo := hide (kl_go ns E k p hlt)
      have hlen : pre.length < ns.length := by
        have h5 := kl_length ns E ns.length p0
        have h6 := congrArg List.length hpre.out
        rw [hgo.out] at h6
        simp at h6
        omega
      have hs := hS p hpn
      obtain ⟨b, off, rfl, hb, -, -, -, c3, -⟩ := (hN'.out.below hKp.out.1).at_ hpn
      generalize (ns.getD p Nd.z).size = sz at *
      obtain ⟨z, rfl⟩ : ∃ z : Nat, sz = z := ⟨sz.toNat, by omega⟩
      obtain ⟨fn, tmps, assign, body, hy, hR⟩ := hY pre p wr hJ.out hlen hpn
      replace hR := hide hR
      gi_wp2
      refine hR.out.mono ?_
      rintro e W3 (⟨rfl, hJ3, hk3⟩ | ⟨rfl, hJx3⟩)
      · have d0 : W3.cell? ⟨lo, 0, none⟩ = some (.slice (some ⟨b, off, none⟩) ns.length cap) := (hk3.cell (by omega) (by omega) 0).trans ((hKp.out.cell (by omega) (by omega) 0).trans hb0)
        have d3 : W3.cell? ⟨b, off + p * 5 + 3, none⟩ = some (.int .i64 z) := (hk3.1.cell (p := ⟨b, off + p * 5 + 3, none⟩) hb).trans c3
        replace hk3 := hide hk3
        replace hJ3 := hide hJ3
        gi_wp2
        go_roundw
        case rel => exact ⟨pre ++ [p], k, p + z, by simp, by rw [hpre.out, hgo.out]; simp [Hid], by have := hk.out; simp only [Hid]; omega, hJ3, KpS_t hKp.out hk3.out⟩
        case measure => simp [intOf]; omega
      · replace hJx3 := hide hJx3
        gi_wp2
        refine bodyPost_ret (results_none rfl _ _ _) rfl ?_
        exact ⟨⟨_, rfl⟩, .inr ⟨pre ++ [p], ⟨kl ns E k (p + z), by rw [hpre.out, hgo.out]; simp⟩, hJx3.out⟩⟩
    · have e1 := hide (kl_end ns E k p (by omega))
      have hfin : Hid (pre = kl ns E ns.length p0) := by rw [hpre.out, e1.out]; simp [Hid]
      gi_wp2
      go_end0
      exact ⟨⟨_, rfl⟩, .inl ⟨pre, hfin.out, hJ.out⟩⟩
abbrev Inn (ns : List Nd) := {x : Nat // x < ns.length}
theorem stand_within (F : Fence) (n : Nat) (h7 : F.fn 56) (hro : F.round = none) (hn : 1 ≤ n) (lo n₀ : Nat) (a : Option Addr) (len cap : Nat) (ns : List Nd) (hS : Szs ns) (p0 E : Nat) (hE : E ≤ ns.length)
    (w : World) (hlo : lo + 3 ≤ w.heap.size) (hn0 : n₀ ≤ w.heap.size) (hb0 : w.cell? ⟨lo, 0, none⟩ = some (.slice a len cap)) (hb1 : w.cell? ⟨lo + 1, 0, none⟩ = some (.int .i64 p0)) (hb2 : w.cell? ⟨lo + 2, 0, none⟩ = some (.int .i64 E)) (hN : Nds n₀ w (.slice a len cap) ns) :
    SeqStopsK F n Tryd.prog 56 #[.pointer (some ⟨lo + 1, 0, none⟩), .pointer (some ⟨lo + 2, 0, none⟩), .pointer (some ⟨lo, 0, none⟩)] (fun x : Inn ns => #[Value.int .i64 (x.1 : Int)]) (KpS n₀ lo) (fun ys => ys.map Subtype.val = kl ns E ns.length p0) (fun pre => pre.map Subtype.val <+: kl ns E ns.length p0) ns.length w := by
  intro l J Jx W hW _ _ hY h0
  refine (stand1_at F n h7 hro hn l lo n₀ a len cap ns hS p0 E hE (fun pre W => ∃ q : List (Inn ns), q.map Subtype.val = pre ∧ J q W) (fun pre W => ∃ q : List (Inn ns), q.map Subtype.val = pre ∧ Jx q W) ?_ W ((hW.cell (p := ⟨lo, 0, none⟩) (by simp; omega)).trans hb0) ((hW.cell (p := ⟨lo + 1, 0, none⟩) (by simp; omega)).trans hb1) ((hW.cell (p := ⟨lo + 2, 0, none⟩) (by simp; omega)).trans hb2) (hN.below (hW.mono hn0)) ⟨[], rfl, h0⟩).mono ?_
  · rintro pre x W1 ⟨q, rfl, hq⟩ hl hx
    obtain ⟨fn, tmps, assign, body, hy, hR⟩ := hY q ⟨x, hx⟩ W1 hq (by simpa using hl)
    refine ⟨fn, tmps, assign, body, hy, hR.mono ?_⟩
    rintro e W' (⟨h1, h2, h3⟩ | ⟨h1, h2⟩)
    · exact .inl ⟨h1, ⟨_, by simp, h2⟩, h3⟩
    · exact .inr ⟨h1, ⟨_, by simp, h2⟩⟩
  · rintro e W' ⟨hv, h | h⟩
    · obtain ⟨ys, rfl, q, hq, hj⟩ := h
      exact ⟨hv, .inl ⟨q, hq, hj⟩⟩
    · obtain ⟨pre, hp, q, rfl, hj⟩ := h
      exact ⟨hv, .inr ⟨q, hp, hj⟩⟩
end Go.Proofs.YtackibimlpkcmaaDoor
/- ==== ShowMem ==== -/
namespace Go.Proofs.YtackibimlpkcmaaDoor
open Go.RowKit
set_option linter.unusedVariables false
def piece (ns : List Nd) (k : Nat) : List Nd := (ns.drop k).take (ns.getD k Nd.z).size.toNat
def lnt (ns : List Nd) (k : Nat) : List J := tks (piece ns k) 0 []
def shw (ns : List Nd) : List Nat → List UInt8 → Option (List UInt8)
  | [], acc => some acc
  | k :: r, acc => match S.jn resv none (jk (lnt ns k)) with
    | none => none
    | some l => shw ns r (acc ++ l ++ [10])
theorem shw_append (ns : List Nd) : ∀ (a b : List Nat) (acc : List UInt8), shw ns (a ++ b) acc = (shw ns a acc).bind (shw ns b)
  | [], b, acc => rfl
  | k :: r, b, acc => by
    rw [List.cons_append, shw, shw]
    cases S.jn resv none (jk (lnt ns k)) with
    | none => rfl
    | some l => exact shw_append ns r b _
def showA (ns : List Nd) : Option (List UInt8) := shw ns (kl ns ns.length ns.length 0) []
def showV (ns : List Nd) : List UInt8 := if forestB ns = true then (showA ns).getD [] else []
def showE (ns : List Nd) : Int := if forestB ns = true then qe (showA ns) else 22
theorem piece_length {ns : List Nd} (hS : Szs ns) {k : Nat} (hk : k < ns.length) : (piece ns k).length = (ns.getD k Nd.z).size.toNat := by
  have := hS k hk
  unfold piece
  rw [List.length_take, List.length_drop]
  omega
theorem piece_at {ns : List Nd} {k j : Nat} (hj : j < (ns.getD k Nd.z).size.toNat) : (piece ns k).getD j Nd.z = ns.getD (k + j) Nd.z := by
  unfold piece
  rw [List.getD_eq_getElem?_getD, List.getElem?_take, if_pos hj, List.getElem?_drop, ← List.getD_eq_getElem?_getD]
theorem Nds.piece {B : Nat} {w : World} {b off len cap : Nat} {ns : List Nd} (h : Nds B w (.slice (some ⟨b, off, none⟩) len cap) ns) (hS : Szs ns) {k : Nat} (hk : k < ns.length) :
    Nds B w (.slice (some ⟨b, off + k * 5, none⟩) (ns.getD k Nd.z).size.toNat (cap - k)) (piece ns k) := by
  have hs := hS k hk
  have hl := piece_length hS hk
  obtain ⟨a', cap', e1, h1, ⟨h2, h2'⟩, h3, h4⟩ := h
  cases e1
  obtain ⟨b', off', e2, h5, h6⟩ := h4 (by intro e; rw [e] at hk; simp at hk)
  cases e2
  refine ⟨_, _, by rw [hl], by rw [hl]; omega, ⟨by omega, by rw [hl]; omega⟩, fun e => (by cases e), fun _ => ⟨b, off + k * 5, rfl, h5, fun j hj => ?_⟩⟩
  rw [hl] at hj
  rw [piece_at hj]
  have := h6 (k + j) (by omega)
  rw [show off + (k + j) * 5 = off + k * 5 + j * 5 by omega] at this
  exact this
theorem piece_sizes {ns : List Nd} (hS : Szs ns) {k : Nat} (hk : k < ns.length) (hl : ns.length ≤ 1099511627776) : ∀ j, j < (piece ns k).length → 0 ≤ ((piece ns k).getD j Nd.z).size ∧ ((piece ns k).getD j Nd.z).size ≤ 1099511627776 := by
  intro j hj
  rw [piece_length hS hk] at hj
  rw [piece_at hj]
  have := hS k hk
  have := hS (k + j) (by omega)
  omega
theorem jn_le : ∀ (ts : List J) (p : Option Int) (s : List UInt8), S.jn resv p (jk ts) = some s → s.length ≤ jtot ts
  | [], p, s, h => by
    have : s = [] := by
      have h : some [] = some s := h
      exact (Option.some.inj h).symm
    subst this
    exact Nat.zero_le _
  | t :: r, p, s, h => by
    have h : S.jn resv p ((t.kind, t.text) :: jk r) = some s := h
    rw [S.jn] at h
    have hsl := spl_len t.kind t.text
    cases hs : S.spl resv t.kind t.text with
    | none => rw [hs] at h; cases h
    | some a =>
      rw [hs] at h hsl
      simp only at h
      cases hj : S.jn resv (some t.kind) (jk r) with
      | none => rw [hj] at h; cases h
      | some u =>
        rw [hj] at h
        have h := (Option.some.inj h).symm
        have ih := jn_le r _ u hj
        have hsep : (S.sep p t.kind).length ≤ 1 := by
          unfold S.sep
          cases p with
          | none => simp
          | some q => simp only; split <;> simp
        have hsl : a.length ≤ 2 * t.text.length + 2 := hsl
        rw [h]
        simp only [List.length_append, jtot]
        omega
theorem sl_nd (g off N cap a b : Nat) (h1 : a ≤ b) (h2 : b ≤ cap) (h3 : a < cap) (W : World) : (Instr.sliceAt 44 (.slice (some ⟨g, off, none⟩) N cap) (some (.int .i64 a)) (some (.int .i64 b)) none).run Tryd.prog W = .ok (.slice (some ⟨g, off + a * 5, none⟩) (b - a) (cap - a)) W := by
  have he : Tryd.prog.elem 44 = 51 := by kernel_rfl
  have hu : Tryd.prog.underlying 44 = some (.slice (Tryd.prog.elem 44)) := by rw [he]; exact Tryd.underlying44
  have e1 : (0 : Int) ≤ a := by omega
  have e2 : (a : Int) ≤ b := by omega
  have e3 : (b : Int) ≤ cap := by omega
  rw [run_sliceAt_slice (h := hu), run_slice_lh (ht := hu) (h0 := e1) (h1 := e2) (h2 := e3), he]
  clear hu he
  go_simp
  omega
theorem builder_other {T e : TypeId} {B b : Nat} {bs : List Value} {W W' : World} {row : Option Nat} (h : Lib.IsBuilderF T e B b bs W) (hg : W.grownBy W' row) (hr : ∀ r, row = some r → ∃ o : Obj, W.heap[r]? = some o ∧ o.isCells = false) : Lib.IsBuilderF T e B b bs W' := by
  have one : ∀ p, Lib.BuilderAtF T e B b p bs W → Lib.BuilderAtF T e B b p bs W' := by
    rintro p ⟨hB, v, hb, hown, hne⟩
    refine ⟨hB, v, ?_, ?_, hne⟩
    · rw [hg.block b (Array.getElem?_eq_some_iff.1 hb).1 (fun e1 => ?_)]
      · exact hb
      · obtain ⟨o, h1, h2⟩ := hr b e1.symm
        rw [hb] at h1
        cases h1
        cases h2
    · refine hown.kept hg ?_
      cases hv : v.ownBlock with
      | none => exact .inl rfl
      | some g =>
        right
        intro e1
        obtain ⟨c, fz, h3⟩ := Lib.ownsRowF_kind hown g hv
        obtain ⟨o, h1, h2⟩ := hr g e1.symm
        rw [h3] at h1
        cases h1
        cases h2
  rcases h with h | h
  · exact .inl (one _ h)
  · exact .inr (one _ h)
theorem builder_block {T e : TypeId} {B b : Nat} {bs : List Value} {W : World} (h : Lib.IsBuilderF T e B b bs W) : ∃ c, W.heap[b]? = some (.cells c T (0, 0)) := by
  rcases h with ⟨_, v, hb, _⟩ | ⟨_, v, hb, _⟩ <;> exact ⟨_, hb⟩
theorem keeps_call {W W' : World} (q : Below W.heap.size W W') : KeepsOthers W W' := ⟨q.size, fun k o hk _ => (q.block k (Array.getElem?_eq_some_iff.1 hk).1).trans hk⟩
theorem keeps_write {T e : TypeId} {B b : Nat} {bs : List Value} {W W' : World} (h : Lib.IsBuilderF T e B b bs W) (q : Below B W W') (k : Lib.OthersKept e (some b) W W') : KeepsOthers W W' := by
  refine ⟨q.size, fun j o hj ho => k j o hj ?_ (fun c fz e1 => by rw [e1] at ho; cases ho)⟩
  intro e1
  cases e1
  obtain ⟨c, hb⟩ := builder_block h
  rw [hb] at hj
  cases hj
  cases ho
theorem KpS.call {n₀ lo : Nat} {W W' : World} (q : Below W.heap.size W W') (h1 : n₀ ≤ W.heap.size) (h2 : lo + 3 ≤ W.heap.size) : KpS n₀ lo W W' := ⟨q.mono h1, fun j _ hj => q.block j (by omega)⟩
theorem KpS.write {n₀ : Nat} {W W' : World} {e : TypeId} (q : Below n₀ W W') (k : Lib.OthersKept e (some n₀) W W') (hb : ∀ j, n₀ + 1 ≤ j → j < n₀ + 1 + 3 → ∃ v t, W.heap[j]? = some (.cells #[v] t (0, 0)) ∧ t ≠ e) : KpS n₀ (n₀ + 1) W W' := by
  refine ⟨q, fun j h1 h2 => ?_⟩
  obtain ⟨v, t, h3, h4⟩ := hb j h1 h2
  rw [h3]
  exact k j _ h3 (fun e1 => by cases e1; omega) (fun c fz e1 => by cases e1; exact h4 rfl)
theorem KpS.own {β : Type} {n₀ lo B : Nat} {X : World} (h1 : n₀ ≤ B) (h2 : lo + 3 ≤ B) (h3 : B ≤ X.heap.size) : OwnFrom B (fun (_ : β) W => KpS n₀ lo X W) := by
  intro s W W' row h hg hr
  have hz := h.1.size
  refine ⟨ownFrom_below (β := Unit) (w₀ := X) (by omega) h1 () W W' row h.1 hg hr, fun j h4 h5 => ?_⟩
  rw [hg.block j (by omega) (fun e1 => by have := (hr j e1.symm).1; omega)]
  exact h.2 j h4 h5
end Go.Proofs.YtackibimlpkcmaaDoor
