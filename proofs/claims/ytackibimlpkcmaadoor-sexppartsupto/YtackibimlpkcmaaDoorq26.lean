/- Laid together of: RoundHeld, Show2. -/
import Derived.Deep.RegionHeld3
import Derived.RangeFuncCalls
import Derived.OrdersIn
import Derived.Test.YtackibimlpkcmaaDoorq25
import Derived.Stop.RegionWithIn
import Derived.Lib.OthersKept
/- ==== RoundHeld ==== -/
namespace Go.Proofs.YtackibimlpkcmaaDoor
open Go.RowKit Go
set_option linter.unusedVariables false

theorem rows_round {n l : Nat} {P : Program} {row : String} {args : Array Value} {w : World} {R : Value → World → Prop} (h : Rows P row args w R) : RowsIn (Fence.wide.inRound l) n P row args w R :=
  fun c cs _ => let ⟨v, w', r, s⟩ := h c cs; ⟨v, w', r, stepsIn_wide.2 s⟩

theorem wpOps_round {l n : Nat} {P : Program} {ops : Array Oper} {Q : Exit → Act → World → Prop} (hd : ∀ (j : Nat) (o : Oper), ops[j]? = some o → ∀ c, o.op ≠ .defer c) (hL : ¬ LetsOut Q) :
    ∀ (is : List Nat) (a : Act) (w : World), wpOps P ops Q is a w → wpOpsIn (Fence.wide.inRound l) n P ops Q is a w
  | [], a, w, h => h
  | i :: rest, a, w, h => by
    have ih := wpOps_round (l := l) (n := n) (P := P) hd hL rest
    simp only [wpOps, wpOpsIn] at h ⊢
    cases ho : ops[i]? with
    | none => simp only [ho] at h ⊢; exact ih a w h
    | some o =>
      simp only [ho] at h ⊢
      by_cases hw : Region.wanted o (yielded ops a.tmps) = true
      · simp only [hw, if_true] at h ⊢
        rcases h with h | ⟨_, h⟩
        · unfold Oper.wp at h
          unfold Oper.wpIn
          refine ⟨fun _ _ => trivial, ?_⟩
          rw [Fence.inRound_round, Oper.semAt_eq _ _ _ (hd i o ho)]
          generalize (execOp a.eval o).run P w = r at *
          cases r with
          | ok x w' =>
            cases x <;> simp only [Oper.upon, Oper.uponIn] at h ⊢
            case value v => exact ih _ _ h
            case skip => exact ih _ _ h
            case defer d => exact ih _ _ h
            case enter f args =>
              refine ⟨fun c => (by cases c), CallsIn.inRound l (callsIn_wide.2 (Calls.mono h fun e w'' he => ?_))⟩
              cases e with
              | returned v => exact ih _ _ he
              | panicked c => exact he
              | outgrown => exact he
            case row row args => exact ⟨fun c => (by cases c), rows_round (Rows.mono h fun v w'' he => ih _ _ he)⟩
          | halt x w' => cases x <;> simp only [Oper.upon, Oper.uponIn] at h ⊢ <;> exact h
        · exact absurd h hL
      · simp only [hw] at h ⊢
        exact ⟨fun _ _ => trivial, ih _ _ h⟩

def noDefer (ops : Array Oper) : Bool := ops.all fun o => match o.op with | .defer _ => false | _ => true
theorem noDefer_spec {ops : Array Oper} (h : noDefer ops = true) : ∀ (j : Nat) (o : Oper), ops[j]? = some o → ∀ c, o.op ≠ .defer c := by
  intro j o ho c e
  unfold noDefer at h
  rw [Array.all_eq_true] at h
  obtain ⟨hj, rfl⟩ := Array.getElem?_eq_some_iff.1 ho
  have := h j hj
  rw [e] at this
  cases this

/-- The beginning of a region that draws its order, in a round: S is shown of the world behind the draw, once, and handed on. -/
theorem wpIn_region_held {l n : Nat} {P : Program} {id : Nat} {ops : Array Oper} {Q : Exit → Act → World → Prop} {S : World → Prop} {a : Act} {w : World} (hm : P.follows .mixedOrders = true) (hd : noDefer ops = true) (hL : ¬ LetsOut Q) (hS : S w.drew)
    (h : S w.drew → wpAnyH P .any ops Q S ops.size (Array.replicate ops.size false) a w.drew) : (Code.region id ops true).wpIn (Fence.wide.inRound l) n P Q a w :=
  wpIn_region_draw fun t => by
    simp only [Region.schedule, hm, Bool.true_or, if_true]
    exact wpOps_round (noDefer_spec hd) hL _ _ _ (wpAny_sound ops.size t _ a _ (wpAny_of_held _ _ _ _ (h hS)))

/-- Behind a region of a round: nothing but what comes behind it in order. -/
def Only (Q : Act → World → Prop) : Exit → Act → World → Prop
  | .normal, a, w => Q a w
  | _, _, _ => False
theorem Only.not_out (Q : Act → World → Prop) : ¬ LetsOut (Only Q) := fun ⟨_, _, h⟩ => h
theorem wpIn_only {l n : Nat} {P : Program} {c : Code} {Q : Exit → Act → World → Prop} {a : Act} {w : World} (h : c.wpIn (Fence.wide.inRound l) n P (Only (Q .normal)) a w) : c.wpIn (Fence.wide.inRound l) n P Q a w :=
  wpIn_mono h fun e a' w' q => by cases e <;> first | exact q | exact q.elim
end Go.Proofs.YtackibimlpkcmaaDoor
/- ==== Show2 ==== -/
namespace Go.Proofs.YtackibimlpkcmaaDoor
open Go.RowKit Go.Shelf
set_option linter.unusedVariables false
attribute [local go_sem] Oper.semAt_some
theorem two_stores {W : World} {p1 p2 : Nat} {t1 t2 : TypeId} {u1 u2 : Value} (z1 : Boxed W p1 t1 u1) (z2 : Boxed W p2 t2 u2) (hne : p1 ≠ p2) (s e : Value) :
    W.cell? ⟨p1, 0, none⟩ = some u1 ∧ W.frozen? ⟨p1, 0, none⟩ = false ∧ (W.setCell ⟨p1, 0, none⟩ s).cell? ⟨p2, 0, none⟩ = some u2 ∧ (W.setCell ⟨p1, 0, none⟩ s).frozen? ⟨p2, 0, none⟩ = false ∧
    ((W.setCell ⟨p1, 0, none⟩ s).setCell ⟨p2, 0, none⟩ e).cell? ⟨p1, 0, none⟩ = some s ∧ ((W.setCell ⟨p1, 0, none⟩ s).setCell ⟨p2, 0, none⟩ e).cell? ⟨p2, 0, none⟩ = some e ∧
    Boxed ((W.setCell ⟨p1, 0, none⟩ s).setCell ⟨p2, 0, none⟩ e) p1 t1 s ∧ Boxed ((W.setCell ⟨p1, 0, none⟩ s).setCell ⟨p2, 0, none⟩ e) p2 t2 e := by
  have a1 := z1.set s
  have a2 := z2.other (Ne.symm hne) s
  have a3 := a1.other hne e
  have a4 := a2.set e
  exact ⟨z1.cell, z1.frozen, a2.cell, a2.frozen, a3.cell, a4.cell, a3, a4⟩
theorem boxed_put {W : World} {D p : Nat} {t : TypeId} {v : Value} (o : Obj) (h : Boxed W p t v) (hne : p ≠ D) : (W.putObj D o).cell? ⟨p, 0, none⟩ = some v :=
  Boxed.cell (W := W.putObj D o) ((World.putObj_heap_other hne).trans h)
set_option maxRecDepth 100000 in
set_option maxHeartbeats 8000000 in
theorem show_calls (w : World) (hc : Cls w) (hm : Mx w) (B : Nat) (v : Value) (ns : List Nd) (h : Nds B w v ns) (hB : B ≤ w.heap.size) (hlen : ns.length ≤ 1048576) (hT : ∀ k, k < ns.length → jtot (lnt ns k) ≤ 33554432) :
    Calls Tryd.prog 20 #[v] w fun e w' => e = .returned (.tuple #[.string ⟨(showV ns).toArray⟩, .int .i64 (showE ns)]) ∧ Below w.heap.size w w' := by
  have hN := hide h
  obtain ⟨a, cap, rfl, h1, ⟨h2, h2'⟩, h3, h4⟩ := h
  clear h3 h4
  obtain ⟨w3, hw3⟩ : ∃ W, ((w.alloc (.cells #[.slice a ns.length cap] 44)).alloc (.cells #[.string ⟨#[]⟩] 9)).alloc (.cells #[.int .i64 0] 45) = W := ⟨_, rfl⟩
  have hs3 : w3.heap.size = w.heap.size + 3 := by rw [← hw3]; simp
  have b3 : Below w.heap.size w w3 := by rw [← hw3]; exact (((Below.refl _ w).alloc (Nat.le_refl _) _).alloc (by simp) _).alloc (by simp; omega) _
  have x0 : Boxed w3 w.heap.size 44 (.slice a ns.length cap) := by
    rw [← hw3]; exact ((Boxed.new w 44 _).alloc _).alloc _
  have x1 : Boxed w3 (w.heap.size + 1) 9 (.string ⟨#[]⟩) := by
    rw [← hw3]
    have := (Boxed.new (w.alloc (.cells #[.slice a ns.length cap] 44)) 9 (.string ⟨#[]⟩)).alloc (.cells #[.int .i64 0] 45)
    rw [World.size_alloc] at this
    exact this
  have x2 : Boxed w3 (w.heap.size + 1 + 1) 45 (.int .i64 0) := by
    rw [← hw3]
    have := Boxed.new ((w.alloc (.cells #[.slice a ns.length cap] 44)).alloc (.cells #[.string ⟨#[]⟩] 9)) 45 (.int .i64 0)
    rw [World.size_alloc, World.size_alloc] at this
    exact this
  have hN3 := hide (hN.out.below (b3.mono hB))
  have hFo := hide (forest_calls w3 B _ ns hN3.out (by omega))
  have c0 := x0.cell
  cases hf : forestB ns
  · have e1 : Hid (showE ns = 22) := by unfold Hid showE; rw [hf]; rfl
    have e2 : Hid (showV ns = []) := by unfold Hid showV; rw [hf]; simp
    rw [hf] at hFo
    go_enter Tryd.func20, Tryd.ntmps20
    go_wp2_with (go_at_call 35; refine hFo.out.mono ?_; rintro e w5 ⟨rfl, b5⟩; have z1 : Boxed w5 (w.heap.size + 1) 9 (.string ⟨#[]⟩) := (b5.block _ (by omega)).trans x1; have z2 : Boxed w5 (w.heap.size + 1 + 1) 45 (.int .i64 0) := (b5.block _ (by omega)).trans x2; have hs5 := b5.size; replace b5 := hide (b3.then_below b5); obtain ⟨k1, k2, k3, k4, k5, k6, -, -⟩ := two_stores z1 z2 (by omega) (.string ⟨#[]⟩) (.int .i64 22); clear z1 z2)
    refine bodyPost_ret (v := .tuple #[.string ⟨#[]⟩, .int .i64 22]) (by simp [results, Tryd.results20, go_sem, k5, k6]) rfl ?_
    exact ⟨by rw [e1.out, e2.out], (b5.out.setCell (p := ⟨w.heap.size + 1, 0, none⟩) (by simp) _).setCell (p := ⟨w.heap.size + 1 + 1, 0, none⟩) (by simp; omega) _⟩
  rw [hf] at hFo
  have hS := hide (forest_sizes hf)
  refine (callsIn_wide (n := 4)).1 ?_
  refine callsIn_of_wp_marks Tryd.func20 rfl trivial ?_ rfl
  simp only [Tryd.ntmps20, List.size_toArray, List.length_cons, List.length_nil, Nat.reduceAdd, Nat.reduceSub, Array.replicate_succ, Array.replicate_zero, List.push_toArray, List.append_toArray, List.nil_append, List.cons_append]
  gi_wp2_with (first
      | (refine ⟨trivial, ?_⟩; gi_at_call 35; refine (callsIn_wide.2 hFo.out).mono ?_; rintro e w5 ⟨rfl, b5⟩; have hs5 := b5.size; obtain ⟨w6, hw6⟩ : ∃ W, w5.alloc (.cells #[.pointer none, .slice none 0 0] 91) = W := ⟨_, rfl⟩; have b6 : Below w5.heap.size w5 w6 := (by rw [← hw6]; exact (Below.refl _ w5).alloc (Nat.le_refl _) _); have I0 : Hid (Lib.IsBuilderF 91 5 w5.heap.size w5.heap.size (Lib.byteCells []) w6) := (by rw [← hw6]; exact Lib.IsBuilderF.of (Lib.fresh_isBuilder 91 5 w5)); have hs6 : w6.heap.size = w5.heap.size + 1 := (by rw [← hw6]; simp); have d0 : w6.cell? ⟨w.heap.size, 0, none⟩ = some (.slice a ns.length cap) := (b6.cell (p := ⟨w.heap.size, 0, none⟩) (by simp; omega)).trans ((b5.cell (p := ⟨w.heap.size, 0, none⟩) (by simp; omega)).trans c0); replace b5 := hide b5; replace b6 := hide b6)
      | (refine ⟨trivial, ?_⟩; gi_at_call 36; refine (standing_in Fence.wide _ trivial rfl _ _ _ _ _ _).mono ?_; rintro e w' ⟨rfl, rfl⟩))
  have hb5 := b5.out
  have hb6 := b6.out
  have y1 := ((Boxed.new w6 44 (.slice a ns.length cap)).alloc (.cells #[.int .i64 0] 3)).alloc (.cells #[.int .i64 ns.length] 3)
  have y2 := (Boxed.new (w6.alloc (.cells #[.slice a ns.length cap] 44)) 3 (.int .i64 0)).alloc (.cells #[.int .i64 ns.length] 3)
  have y3 := Boxed.new ((w6.alloc (.cells #[.slice a ns.length cap] 44)).alloc (.cells #[.int .i64 0] 3)) 3 (.int .i64 ns.length)
  have hB0 : Below w6.heap.size w6 (((w6.alloc (.cells #[.slice a ns.length cap] 44)).alloc (.cells #[.int .i64 0] 3)).alloc (.cells #[.int .i64 ns.length] 3)) := (((Below.refl _ w6).alloc (Nat.le_refl _) _).alloc (by simp) _).alloc (by simp; omega) _
  have hW0 : (((w6.alloc (.cells #[.slice a ns.length cap] 44)).alloc (.cells #[.int .i64 0] 3)).alloc (.cells #[.int .i64 ns.length] 3)).heap.size = w5.heap.size + 4 := by simp; omega
  simp only [World.size_alloc, hs6] at y1 y2 y3
  generalize hX : ((w6.alloc (.cells #[.slice a ns.length cap] 44)).alloc (.cells #[.int .i64 0] 3)).alloc (.cells #[.int .i64 ns.length] 3) = X at *
  clear hX hw6
  have bX : Below w.heap.size w X := ((b3.then_below hb5).then_below hb6).then_below hB0
  have b5X : Below w5.heap.size w5 X := hb6.then_below hB0
  have b3X : Below w3.heap.size w3 X := (hb5.then_below hb6).then_below hB0
  have I1 := hide (builder_below I0.out hB0)
  have hNX := hide (hN.out.below (bX.mono hB))
  have X1 : Boxed X (w.heap.size + 1) 9 (.string ⟨#[]⟩) := (b3X.block _ (by omega)).trans x1
  have X2 : Boxed X (w.heap.size + 1 + 1) 45 (.int .i64 0) := (b3X.block _ (by omega)).trans x2
  have X0 : Boxed X w.heap.size 44 (.slice a ns.length cap) := (b3X.block _ (by omega)).trans x0
  have hsz5 : w.heap.size + 3 ≤ w5.heap.size := by omega
  refine wpIn_rangeFunc_ownG rfl (by omega) (gf := 56) (lb := #[.pointer (some ⟨w5.heap.size + 1 + 1, 0, none⟩), .pointer (some ⟨w5.heap.size + 1 + 2, 0, none⟩), .pointer (some ⟨w5.heap.size + 1, 0, none⟩)]) rfl trivial (enters_of Tryd.func56 (by kernel_rfl) rfl)
      (stand_within Fence.wide _ trivial rfl (by omega) (w5.heap.size + 1) w5.heap.size _ _ _ ns hS.out 0 ns.length (Nat.le_refl _) X (by omega) (by omega) y1.cell (by exact y2.cell) (by exact y3.cell) (hNX.out.mono (by omega))) KpS_t (KpS_b (by omega) (by omega)) (Below.refl _ _) (fun _ => rfl)
      (fun pre W => (∃ acc : List UInt8, shw ns (pre.map Subtype.val) [] = some acc ∧ acc.length ≤ pre.length * 33554433 ∧ Lib.IsBuilderF 91 5 w5.heap.size w5.heap.size (Lib.byteCells acc) W) ∧ KpS w5.heap.size (w5.heap.size + 1) X W)
      (fun c pre W => c = .ret ∧ shw ns (pre.map Subtype.val) [] = none ∧ Boxed W (w.heap.size + 1) 9 (.string ⟨#[]⟩) ∧ Boxed W (w.heap.size + 1 + 1) 45 (.int .i64 17) ∧ Below w.heap.size w W)
      (OwnFrom.and (fun s W W' row ⟨acc, q1, q2, q3⟩ hg hr => ⟨acc, q1, q2, builder_other q3 hg (fun r e => (hr r e).2)⟩) (KpS.own (by omega) (by omega) (Nat.le_refl _)))
      (fun c s W W' row ⟨q1, q2, q3, q4, q5⟩ hg hr => ⟨q1, q2, (hg.block _ q3.lt (fun e => by have := (hr _ e.symm).1; omega)).trans q3, (hg.block _ q4.lt (fun e => by have := (hr _ e.symm).1; omega)).trans q4, ownFrom_below (β := Unit) (n₀ := w.heap.size) (w₀ := w) (Nat.le_refl _) (by omega) () W W' row q5 hg hr⟩)
      ⟨⟨[], rfl, Nat.zero_le _, I1.out⟩, KpS_refl _ _ _⟩
      (fun x => { tmps := #[.slice a ns.length cap, .pointer (some ⟨w.heap.size, 0, none⟩), .pointer (some ⟨w.heap.size + 1, 0, none⟩), .pointer (some ⟨w.heap.size + 1 + 1, 0, none⟩), .pointer (some ⟨w5.heap.size, 0, none⟩), .int .i64 (x.1 : Int), undef, undef, .slice a ns.length cap, .bool true, .bool false, .slice a ns.length cap, .slice a ns.length cap, .int .i64 ns.length, .func (.func 56) #[] #[.pointer (some ⟨w5.heap.size + 1 + 1, 0, none⟩), .pointer (some ⟨w5.heap.size + 1 + 2, 0, none⟩), .pointer (some ⟨w5.heap.size + 1, 0, none⟩)], .int .i64 (x.1 : Int), undef, undef, undef, undef, undef, undef, undef, undef, undef, undef, undef, undef, undef, undef, undef, undef, undef, undef, undef, undef, undef, undef], defers := [] }) ?assign ?body ?done ?stop
  case assign =>
    intro l x W K hK
    gi_wp2
    exact hK
  case body =>
    rintro l pre ⟨x, hx⟩ W ⟨⟨acc, ha, hal, hI⟩, hKp⟩ hlt
    have hWz : w5.heap.size + 4 ≤ W.heap.size := by have := hKp.1.size; omega
    have hWB : Below w.heap.size w W := bX.trans (hKp.1.mono (by omega))
    have kx0 : W.cell? ⟨w.heap.size, 0, none⟩ = some (.slice a ns.length cap) := (hKp.1.cell (p := ⟨w.heap.size, 0, none⟩) (by simp; omega)).trans X0.cell
    have hNW := hN.out.below (hWB.mono hB)
    obtain ⟨b, off, rfl, hb, -, -, -, c3, -⟩ := hNW.at_ hx
    have hsx := hS.out x hx
    have hpc := hide (hNW.piece hS.out hx)
    have hps := hide (piece_sizes hS.out hx (by omega))
    have hpl := piece_length hS.out hx
    have hTx := hT x hx
    obtain ⟨z, hz⟩ : ∃ z : Nat, (ns.getD x Nd.z).size = z := ⟨_, (Int.toNat_of_nonneg (by omega)).symm⟩
    rw [hz] at c3 hsx hpc hpl
    rw [Int.toNat_natCast] at hpc hpl
    have sl : ∀ W, (Instr.sliceAt 44 (.slice (some ⟨b, off, none⟩) ns.length cap) (some (.int .i64 (x : Int))) (some (.int .i64 ((x : Int) + z))) none).run Tryd.prog W = .ok (.slice (some ⟨b, off + x * 5, none⟩) z (cap - x)) W := by
      intro W
      have := sl_nd b off ns.length cap x (x + z) (by omega) (by omega) (by omega) W
      rw [Nat.add_sub_cancel_left, Int.natCast_add] at this
      exact this
    have hx' : (x : Int) < ns.length := by omega
    have ew : IntKind.i64.wrap ((x : Int) + z) = (x : Int) + z := by rw [IntKind.wrap_i64]; omega
    have qt := hide (fun W' (q : Below W.heap.size W W') => ntoks_calls W' B _ (piece ns x) (hpc.out.below (q.mono (by omega))) (by have := q.size; omega) hps.out (by omega))
    have qj := hide (fun (W' : World) u (q : Below w.heap.size w W') (ju : JRow W' u (lnt ns x)) => join_calls W' (cls_below hc q) (hm.below q) u _ ju (by omega))
    have hk0 : w.heap.size < W.heap.size := by omega
    have hk3 : b < W.heap.size := by omega
    replace hk0 := hide hk0
    replace hk3 := hide hk3
    have hZ1 : Hid (Boxed W (w.heap.size + 1) 9 (.string ⟨#[]⟩)) := (hKp.1.block _ (by omega)).trans X1
    have hZ2 : Hid (Boxed W (w.heap.size + 1 + 1) 45 (.int .i64 0)) := (hKp.1.block _ (by omega)).trans X2
    have hBx : Hid (∀ W', Below W.heap.size W W' → ∀ j, w5.heap.size + 1 ≤ j → j < w5.heap.size + 1 + 3 → ∃ v t, W'.heap[j]? = some (.cells #[v] t (0, 0)) ∧ t ≠ 5) := by
      intro W' q j h1 h2
      have e0 : W'.heap[j]? = X.heap[j]? := (q.block j (by omega)).trans (hKp.2 j h1 h2)
      rcases (by omega : j = w5.heap.size + 1 ∨ j = w5.heap.size + 1 + 1 ∨ j = w5.heap.size + 1 + 2) with rfl | rfl | rfl
      · exact ⟨_, _, e0.trans y1, by decide⟩
      · exact ⟨_, _, e0.trans y2, by decide⟩
      · exact ⟨_, _, e0.trans y3, by decide⟩
    have hXz : Hid (X.heap.size = w5.heap.size + 4) := hW0
    have hWzH := hide hWz
    have hs5H := hide hsz5
    have hlenH := hide hlen
    have hltH := hide hlt
    have halH := hide hal
    have hTH := hide hTx
    replace ha := hide ha
    replace hI := hide hI
    replace hKp := hide hKp
    replace hWB := hide hWB
    clear x1 x2 X1 X2 X0 hpl hTx hWz hW0 hsz5
    cases hR : S.jn resv none (jk (lnt ns x)) with
    | none =>
      rw [hR] at qj
      have qj2 := hide (fun (W' : World) u (q : Below w.heap.size w W') (ju : JRow W' u (lnt ns x)) => (show Calls Tryd.prog 37 #[u] W' fun e w' => e = .returned (.tuple #[.string ⟨#[]⟩, .int .i64 17]) ∧ Below W'.heap.size W' w' from qj.out W' u q ju))
      replace hR := hide hR
      gi_wp2
      rename_i Q1 K1 hK1 Q2 K0 hK0
      have hK2 := hide hK0
      clear hK0 hK1 K1 Q1 qj
      clear hc hm hT hlen h1 h2 h2' b3 hf hS hs5 hs6 hs3 I0 I1 hNX hlt hb hsx hz hpc hps hNW bX b5X b3X hB0 y1 y2 y3 b5 b6 hb5 hb6 hal
      refine wpIn_only ?_
      refine wpIn_region_held (S := fun W' => W'.cell? ⟨w.heap.size, 0, none⟩ = some (.slice (some ⟨b, off, none⟩) ns.length cap) ∧ W'.cell? ⟨b, off + x * 5 + 3, none⟩ = some (.int .i64 z) ∧ Below W.heap.size W W') (by kernel_rfl) (by kernel_rfl) (Only.not_out _) ⟨kx0, c3, by exact ⟨rfl, rfl, rfl, Nat.le_refl _, fun _ _ => rfl⟩⟩ (fun hHeld => ?_)
      refine wpAnyH_take (i := 0) (oi := ?oi0a) (v := ?v0a) ?hi0a (by kernel_rfl) (by kernel_rfl) (by kernel_rfl) (fun _ _ _ h => h) (Or.inl ⟨?wanted0a, ?hy0a⟩) (by assumption) ?rest0a
      case hi0a => simp only [List.getElem?_toArray, List.getElem?_cons_zero]; rfl
      case wanted0a => rfl
      case hy0a =>
        intro wS hSw
        obtain ⟨hS1, hS2, -⟩ := hSw
        go_simp
        first | done | with_reducible rfl
      simp only [Act.put, List.setIfInBounds_toArray, List.set_cons_zero, List.set_cons_succ]
      refine wpAnyH_take (i := 1) (oi := ?oi1a) (v := ?v1a) ?hi1a (by kernel_rfl) (by kernel_rfl) (by kernel_rfl) (fun _ _ _ h => h) (Or.inl ⟨?wanted1a, ?hy1a⟩) (by assumption) ?rest1a
      case hi1a => simp only [List.getElem?_toArray, List.getElem?_cons_succ, List.getElem?_cons_zero]; rfl
      case wanted1a => rfl
      case hy1a =>
        intro wS hSw
        obtain ⟨hS1, hS2, -⟩ := hSw
        go_simp
        first | done | with_reducible rfl
      simp only [Act.put, List.setIfInBounds_toArray, List.set_cons_zero, List.set_cons_succ]
      refine wpAnyH_take (i := 2) (oi := ?oi2a) (v := ?v2a) ?hi2a (by kernel_rfl) (by kernel_rfl) (by kernel_rfl) (fun _ _ _ h => h) (Or.inl ⟨?wanted2a, ?hy2a⟩) (by assumption) ?rest2a
      case hi2a => simp only [List.getElem?_toArray, List.getElem?_cons_succ, List.getElem?_cons_zero]; rfl
      case wanted2a => rfl
      case hy2a =>
        intro wS hSw
        obtain ⟨hS1, hS2, -⟩ := hSw
        go_simp
        first | done | with_reducible rfl
      simp only [Act.put, List.setIfInBounds_toArray, List.set_cons_zero, List.set_cons_succ]
      refine wpAnyH_take (i := 3) (oi := ?oi3a) (v := ?v3a) ?hi3a (by kernel_rfl) (by kernel_rfl) (by kernel_rfl) (fun _ _ _ h => h) (Or.inl ⟨?wanted3a, ?hy3a⟩) (by assumption) ?rest3a
      case hi3a => simp only [List.getElem?_toArray, List.getElem?_cons_succ, List.getElem?_cons_zero]; rfl
      case wanted3a => rfl
      case hy3a =>
        intro wS hSw
        obtain ⟨hS1, hS2, -⟩ := hSw
        go_simp
        first | done | with_reducible rfl
      simp only [Act.put, List.setIfInBounds_toArray, List.set_cons_zero, List.set_cons_succ]
      refine wpAnyH_take (i := 4) (oi := ?oi4a) (v := ?v4a) ?hi4a (by kernel_rfl) (by kernel_rfl) (by kernel_rfl) (fun _ _ _ h => h) (Or.inl ⟨?wanted4a, ?hy4a⟩) (by assumption) ?rest4a
      case hi4a => simp only [List.getElem?_toArray, List.getElem?_cons_succ, List.getElem?_cons_zero]; rfl
      case wanted4a => rfl
      case hy4a =>
        intro wS hSw
        obtain ⟨hS1, hS2, -⟩ := hSw
        go_simp
        first | done | with_reducible rfl
      simp only [Act.put, List.setIfInBounds_toArray, List.set_cons_zero, List.set_cons_succ]
      refine wpAnyH_take (i := 5) (oi := ?oi5a) (v := ?v5a) ?hi5a (by kernel_rfl) (by kernel_rfl) (by kernel_rfl) (fun _ _ _ h => h) (Or.inl ⟨?wanted5a, ?hy5a⟩) (by assumption) ?rest5a
      case hi5a => simp only [List.getElem?_toArray, List.getElem?_cons_succ, List.getElem?_cons_zero]; rfl
      case wanted5a => rfl
      case hy5a =>
        intro wS hSw
        obtain ⟨hS1, hS2, -⟩ := hSw
        go_simp
        first | done | with_reducible rfl
      simp only [Act.put, List.setIfInBounds_toArray, List.set_cons_zero, List.set_cons_succ]
      refine wpAnyH_take (i := 6) (oi := ?oi6a) (v := ?v6a) ?hi6a (by kernel_rfl) (by kernel_rfl) (by kernel_rfl) (fun _ _ _ h => h) (Or.inl ⟨?wanted6a, ?hy6a⟩) (by assumption) ?rest6a
      case hi6a => simp only [List.getElem?_toArray, List.getElem?_cons_succ, List.getElem?_cons_zero]; rfl
      case wanted6a => rfl
      case hy6a =>
        intro wS hSw
        obtain ⟨hS1, hS2, -⟩ := hSw
        go_simp
        first | done | with_reducible rfl
      simp only [Act.put, List.setIfInBounds_toArray, List.set_cons_zero, List.set_cons_succ]
      refine wpAnyH_take (i := 7) (oi := ?oi7a) (v := ?v7a) ?hi7a (by kernel_rfl) (by kernel_rfl) (by kernel_rfl) (fun _ _ _ h => h) (Or.inl ⟨?wanted7a, ?hy7a⟩) (by assumption) ?rest7a
      case hi7a => simp only [List.getElem?_toArray, List.getElem?_cons_succ, List.getElem?_cons_zero]; rfl
      case wanted7a => rfl
      case hy7a =>
        intro wS hSw
        obtain ⟨hS1, hS2, -⟩ := hSw
        go_simp
        first | done | with_reducible rfl
      simp only [Act.put, List.setIfInBounds_toArray, List.set_cons_zero, List.set_cons_succ]
      refine wpAnyH_take (i := 8) (oi := ?oi8a) (v := ?v8a) ?hi8a (by kernel_rfl) (by kernel_rfl) (by kernel_rfl) (fun _ _ _ h => h) (Or.inl ⟨?wanted8a, ?hy8a⟩) (by assumption) ?rest8a
      case hi8a => simp only [List.getElem?_toArray, List.getElem?_cons_succ, List.getElem?_cons_zero]; rfl
      case wanted8a => rfl
      case hy8a =>
        intro wS hSw
        obtain ⟨hS1, hS2, -⟩ := hSw
        go_simp
        first | done | with_reducible rfl
      simp only [Act.put, List.setIfInBounds_toArray, List.set_cons_zero, List.set_cons_succ]
      refine wpAnyH_take (i := 9) (oi := ?oi9a) (v := ?v9a) ?hi9a (by kernel_rfl) (by kernel_rfl) (by kernel_rfl) (fun _ _ _ h => h) (Or.inl ⟨?wanted9a, ?hy9a⟩) (by assumption) ?rest9a
      case hi9a => simp only [List.getElem?_toArray, List.getElem?_cons_succ, List.getElem?_cons_zero]; rfl
      case wanted9a => rfl
      case hy9a =>
        intro wS hSw
        obtain ⟨hS1, hS2, -⟩ := hSw
        go_simp
        first | done | with_reducible rfl
      simp only [Act.put, List.setIfInBounds_toArray, List.set_cons_zero, List.set_cons_succ]
      refine wpAnyH_ready (rs := [10]) (by kernel_rfl) (by simp) ?_
      refine AllReadyH.cons (o := ?oi10a) ?hi10a (fun K hK => ?rest10a) AllReadyH.nil
      case hi10a => simp only [List.getElem?_toArray, List.getElem?_cons_succ, List.getElem?_cons_zero]; rfl
      go_simp
      go_at_call 38
      refine (qt.out _ (by exact ⟨rfl, rfl, rfl, Nat.le_refl _, fun _ _ => rfl⟩)).mono ?_
      rintro e w7 ⟨u, rfl, ju, b7⟩
      replace ju : Hid (JRow w7 u (lnt ns x)) := ju
      replace b7 : Hid (Below W.heap.size W w7) := ⟨b7.os, b7.tape, b7.output, b7.size, b7.block⟩
      refine hK.out _ _ ⟨(b7.out.cell (p := ⟨w.heap.size, 0, none⟩) hk0.out).trans kx0, (b7.out.cell (p := ⟨b, off + x * 5 + 3, none⟩) hk3.out).trans c3, b7.out⟩ (fun hHeld2 => ?_)
      clear hK K hHeld
      try simp only [Act.put, List.setIfInBounds_toArray, List.set_cons_zero, List.set_cons_succ]
      refine wpAnyH_ready (rs := [11]) (by kernel_rfl) (by simp) ?_
      refine AllReadyH.cons (o := ?oi11a) ?hi11a (fun K hK => ?rest11a) AllReadyH.nil
      case hi11a => simp only [List.getElem?_toArray, List.getElem?_cons_succ, List.getElem?_cons_zero]; rfl
      go_simp
      go_at_call 37
      refine (qj2.out w7 u (hWB.out.then_below b7.out) ju.out).mono ?_
      rintro e w8 ⟨rfl, b8⟩
      replace b8 : Hid (Below W.heap.size W w8) := b7.out.then_below b8
      refine hK.out _ _ ⟨(b8.out.cell (p := ⟨w.heap.size, 0, none⟩) hk0.out).trans kx0, (b8.out.cell (p := ⟨b, off + x * 5 + 3, none⟩) hk3.out).trans c3, b8.out⟩ (fun hHeld3 => ?_)
      clear hK K hHeld2
      try simp only [Act.put, List.setIfInBounds_toArray, List.set_cons_zero, List.set_cons_succ]
      refine wpAnyH_take (i := 12) (oi := ?oi12a) (v := ?v12a) ?hi12a (by kernel_rfl) (by kernel_rfl) (by kernel_rfl) (fun _ _ _ h => h) (Or.inl ⟨?wanted12a, ?hy12a⟩) (by assumption) ?rest12a
      case hi12a => simp only [List.getElem?_toArray, List.getElem?_cons_succ, List.getElem?_cons_zero]; rfl
      case wanted12a => rfl
      case hy12a =>
        intro wS hSw
        obtain ⟨hS1, hS2, -⟩ := hSw
        go_simp
        first | done | with_reducible rfl
      simp only [Act.put, List.setIfInBounds_toArray, List.set_cons_zero, List.set_cons_succ]
      refine wpAnyH_take (i := 13) (oi := ?oi13a) (v := ?v13a) ?hi13a (by kernel_rfl) (by kernel_rfl) (by kernel_rfl) (fun _ _ _ h => h) (Or.inl ⟨?wanted13a, ?hy13a⟩) (by assumption) ?rest13a
      case hi13a => simp only [List.getElem?_toArray, List.getElem?_cons_succ, List.getElem?_cons_zero]; rfl
      case wanted13a => rfl
      case hy13a =>
        intro wS hSw
        obtain ⟨hS1, hS2, -⟩ := hSw
        go_simp
        first | done | with_reducible rfl
      simp only [Act.put, List.setIfInBounds_toArray, List.set_cons_zero, List.set_cons_succ]
      refine wpAnyH_take (i := 14) (oi := ?oi14a) (v := ?v14a) ?hi14a (by kernel_rfl) (by kernel_rfl) (by kernel_rfl) (fun _ _ _ h => h) (Or.inl ⟨?wanted14a, ?hy14a⟩) (by assumption) ?rest14a
      case hi14a => simp only [List.getElem?_toArray, List.getElem?_cons_succ, List.getElem?_cons_zero]; rfl
      case wanted14a => rfl
      case hy14a =>
        intro wS hSw
        obtain ⟨hS1, hS2, -⟩ := hSw
        go_simp
        first | done | with_reducible rfl
      simp only [Act.put, List.setIfInBounds_toArray, List.set_cons_zero, List.set_cons_succ]
      refine wpAnyH_take (i := 15) (oi := ?oi15a) (v := ?v15a) ?hi15a (by kernel_rfl) (by kernel_rfl) (by kernel_rfl) (fun _ _ _ h => h) (Or.inl ⟨?wanted15a, ?hy15a⟩) (by assumption) ?rest15a
      case hi15a => simp only [List.getElem?_toArray, List.getElem?_cons_succ, List.getElem?_cons_zero]; rfl
      case wanted15a => rfl
      case hy15a =>
        intro wS hSw
        obtain ⟨hS1, hS2, -⟩ := hSw
        go_simp
        first | done | with_reducible rfl
      simp only [Act.put, List.setIfInBounds_toArray, List.set_cons_zero, List.set_cons_succ]
      refine wpAnyH_take (i := 16) (oi := ?oi16a) (v := ?v16a) ?hi16a (by kernel_rfl) (by kernel_rfl) (by kernel_rfl) (fun _ _ _ h => h) (Or.inl ⟨?wanted16a, ?hy16a⟩) (by assumption) ?rest16a
      case hi16a => simp only [List.getElem?_toArray, List.getElem?_cons_succ, List.getElem?_cons_zero]; rfl
      case wanted16a => rfl
      case hy16a =>
        intro wS hSw
        obtain ⟨hS1, hS2, -⟩ := hSw
        go_simp
        first | done | with_reducible rfl
      simp only [Act.put, List.setIfInBounds_toArray, List.set_cons_zero, List.set_cons_succ]
      refine wpAnyH_done (by kernel_rfl) ?_ _
      change K0 _ _
      all_goals
        refine hK2.out _ _ ?_
        have hz8 := b8.out.size
        have hz5 := hs5H.out
        have hzW := hWzH.out
        have z1 : Boxed w8 (w.heap.size + 1) 9 (.string ⟨#[]⟩) := (b8.out.block _ (by omega)).trans hZ1.out
        have z2 : Boxed w8 (w.heap.size + 1 + 1) 45 (.int .i64 0) := (b8.out.block _ (by omega)).trans hZ2.out
        obtain ⟨k1, k2, k3, k4, k5, k6, k7, k8⟩ := two_stores z1 z2 (by omega) (.string ⟨#[]⟩) (.int .i64 17)
        replace k7 := hide k7
        replace k8 := hide k8
        clear k5 k6 z1 z2
        gi_wp2
        refine ⟨(((keeps_call b8.out).trans (KeepsOthers.setCell _ _ _)).trans (KeepsOthers.setCell _ _ _)).from _, rfl, ?_, k7.out, k8.out, ?_⟩
        · rw [List.map_append, shw_append, ha.out]
          show shw ns [x] acc = none
          rw [shw, hR.out]
        · exact ((hWB.out.then_below b8.out).setCell (p := ⟨w.heap.size + 1, 0, none⟩) (by simp) _).setCell (p := ⟨w.heap.size + 1 + 1, 0, none⟩) (by simp; omega) _
    | some s =>
      rw [hR] at qj
      have hsl := hide (jn_le _ _ _ hR)
      have qj2 := hide (fun (W' : World) u (q : Below w.heap.size w W') (ju : JRow W' u (lnt ns x)) => (show Calls Tryd.prog 37 #[u] W' fun e w' => e = .returned (.tuple #[.string ⟨s.toArray⟩, .int .i64 0]) ∧ Below W'.heap.size W' w' from qj.out W' u q ju))
      replace hR := hide hR
      gi_wp2
      rename_i Q1 K1 hK1 Q2 K0 hK0
      have hK2 := hide hK0
      clear hK0 hK1 K1 Q1 qj
      clear hc hm hT hlen h1 h2 h2' b3 hf hS hs5 hs6 hs3 I0 I1 hNX hlt hb hsx hz hpc hps hNW bX b5X b3X hB0 y1 y2 y3 b5 b6 hb5 hb6 hal
      refine wpIn_only ?_
      refine wpIn_region_held (S := fun W' => W'.cell? ⟨w.heap.size, 0, none⟩ = some (.slice (some ⟨b, off, none⟩) ns.length cap) ∧ W'.cell? ⟨b, off + x * 5 + 3, none⟩ = some (.int .i64 z) ∧ Below W.heap.size W W') (by kernel_rfl) (by kernel_rfl) (Only.not_out _) ⟨kx0, c3, by exact ⟨rfl, rfl, rfl, Nat.le_refl _, fun _ _ => rfl⟩⟩ (fun hHeld => ?_)
      refine wpAnyH_take (i := 0) (oi := ?oi0b) (v := ?v0b) ?hi0b (by kernel_rfl) (by kernel_rfl) (by kernel_rfl) (fun _ _ _ h => h) (Or.inl ⟨?wanted0b, ?hy0b⟩) (by assumption) ?rest0b
      case hi0b => simp only [List.getElem?_toArray, List.getElem?_cons_zero]; rfl
      case wanted0b => rfl
      case hy0b =>
        intro wS hSw
        obtain ⟨hS1, hS2, -⟩ := hSw
        go_simp
        first | done | with_reducible rfl
      simp only [Act.put, List.setIfInBounds_toArray, List.set_cons_zero, List.set_cons_succ]
      refine wpAnyH_take (i := 1) (oi := ?oi1b) (v := ?v1b) ?hi1b (by kernel_rfl) (by kernel_rfl) (by kernel_rfl) (fun _ _ _ h => h) (Or.inl ⟨?wanted1b, ?hy1b⟩) (by assumption) ?rest1b
      case hi1b => simp only [List.getElem?_toArray, List.getElem?_cons_succ, List.getElem?_cons_zero]; rfl
      case wanted1b => rfl
      case hy1b =>
        intro wS hSw
        obtain ⟨hS1, hS2, -⟩ := hSw
        go_simp
        first | done | with_reducible rfl
      simp only [Act.put, List.setIfInBounds_toArray, List.set_cons_zero, List.set_cons_succ]
      refine wpAnyH_take (i := 2) (oi := ?oi2b) (v := ?v2b) ?hi2b (by kernel_rfl) (by kernel_rfl) (by kernel_rfl) (fun _ _ _ h => h) (Or.inl ⟨?wanted2b, ?hy2b⟩) (by assumption) ?rest2b
      case hi2b => simp only [List.getElem?_toArray, List.getElem?_cons_succ, List.getElem?_cons_zero]; rfl
      case wanted2b => rfl
      case hy2b =>
        intro wS hSw
        obtain ⟨hS1, hS2, -⟩ := hSw
        go_simp
        first | done | with_reducible rfl
      simp only [Act.put, List.setIfInBounds_toArray, List.set_cons_zero, List.set_cons_succ]
      refine wpAnyH_take (i := 3) (oi := ?oi3b) (v := ?v3b) ?hi3b (by kernel_rfl) (by kernel_rfl) (by kernel_rfl) (fun _ _ _ h => h) (Or.inl ⟨?wanted3b, ?hy3b⟩) (by assumption) ?rest3b
      case hi3b => simp only [List.getElem?_toArray, List.getElem?_cons_succ, List.getElem?_cons_zero]; rfl
      case wanted3b => rfl
      case hy3b =>
        intro wS hSw
        obtain ⟨hS1, hS2, -⟩ := hSw
        go_simp
        first | done | with_reducible rfl
      simp only [Act.put, List.setIfInBounds_toArray, List.set_cons_zero, List.set_cons_succ]
      refine wpAnyH_take (i := 4) (oi := ?oi4b) (v := ?v4b) ?hi4b (by kernel_rfl) (by kernel_rfl) (by kernel_rfl) (fun _ _ _ h => h) (Or.inl ⟨?wanted4b, ?hy4b⟩) (by assumption) ?rest4b
      case hi4b => simp only [List.getElem?_toArray, List.getElem?_cons_succ, List.getElem?_cons_zero]; rfl
      case wanted4b => rfl
      case hy4b =>
        intro wS hSw
        obtain ⟨hS1, hS2, -⟩ := hSw
        go_simp
        first | done | with_reducible rfl
      simp only [Act.put, List.setIfInBounds_toArray, List.set_cons_zero, List.set_cons_succ]
      refine wpAnyH_take (i := 5) (oi := ?oi5b) (v := ?v5b) ?hi5b (by kernel_rfl) (by kernel_rfl) (by kernel_rfl) (fun _ _ _ h => h) (Or.inl ⟨?wanted5b, ?hy5b⟩) (by assumption) ?rest5b
      case hi5b => simp only [List.getElem?_toArray, List.getElem?_cons_succ, List.getElem?_cons_zero]; rfl
      case wanted5b => rfl
      case hy5b =>
        intro wS hSw
        obtain ⟨hS1, hS2, -⟩ := hSw
        go_simp
        first | done | with_reducible rfl
      simp only [Act.put, List.setIfInBounds_toArray, List.set_cons_zero, List.set_cons_succ]
      refine wpAnyH_take (i := 6) (oi := ?oi6b) (v := ?v6b) ?hi6b (by kernel_rfl) (by kernel_rfl) (by kernel_rfl) (fun _ _ _ h => h) (Or.inl ⟨?wanted6b, ?hy6b⟩) (by assumption) ?rest6b
      case hi6b => simp only [List.getElem?_toArray, List.getElem?_cons_succ, List.getElem?_cons_zero]; rfl
      case wanted6b => rfl
      case hy6b =>
        intro wS hSw
        obtain ⟨hS1, hS2, -⟩ := hSw
        go_simp
        first | done | with_reducible rfl
      simp only [Act.put, List.setIfInBounds_toArray, List.set_cons_zero, List.set_cons_succ]
      refine wpAnyH_take (i := 7) (oi := ?oi7b) (v := ?v7b) ?hi7b (by kernel_rfl) (by kernel_rfl) (by kernel_rfl) (fun _ _ _ h => h) (Or.inl ⟨?wanted7b, ?hy7b⟩) (by assumption) ?rest7b
      case hi7b => simp only [List.getElem?_toArray, List.getElem?_cons_succ, List.getElem?_cons_zero]; rfl
      case wanted7b => rfl
      case hy7b =>
        intro wS hSw
        obtain ⟨hS1, hS2, -⟩ := hSw
        go_simp
        first | done | with_reducible rfl
      simp only [Act.put, List.setIfInBounds_toArray, List.set_cons_zero, List.set_cons_succ]
      refine wpAnyH_take (i := 8) (oi := ?oi8b) (v := ?v8b) ?hi8b (by kernel_rfl) (by kernel_rfl) (by kernel_rfl) (fun _ _ _ h => h) (Or.inl ⟨?wanted8b, ?hy8b⟩) (by assumption) ?rest8b
      case hi8b => simp only [List.getElem?_toArray, List.getElem?_cons_succ, List.getElem?_cons_zero]; rfl
      case wanted8b => rfl
      case hy8b =>
        intro wS hSw
        obtain ⟨hS1, hS2, -⟩ := hSw
        go_simp
        first | done | with_reducible rfl
      simp only [Act.put, List.setIfInBounds_toArray, List.set_cons_zero, List.set_cons_succ]
      refine wpAnyH_take (i := 9) (oi := ?oi9b) (v := ?v9b) ?hi9b (by kernel_rfl) (by kernel_rfl) (by kernel_rfl) (fun _ _ _ h => h) (Or.inl ⟨?wanted9b, ?hy9b⟩) (by assumption) ?rest9b
      case hi9b => simp only [List.getElem?_toArray, List.getElem?_cons_succ, List.getElem?_cons_zero]; rfl
      case wanted9b => rfl
      case hy9b =>
        intro wS hSw
        obtain ⟨hS1, hS2, -⟩ := hSw
        go_simp
        first | done | with_reducible rfl
      simp only [Act.put, List.setIfInBounds_toArray, List.set_cons_zero, List.set_cons_succ]
      refine wpAnyH_ready (rs := [10]) (by kernel_rfl) (by simp) ?_
      refine AllReadyH.cons (o := ?oi10b) ?hi10b (fun K hK => ?rest10b) AllReadyH.nil
      case hi10b => simp only [List.getElem?_toArray, List.getElem?_cons_succ, List.getElem?_cons_zero]; rfl
      go_simp
      go_at_call 38
      refine (qt.out _ (by exact ⟨rfl, rfl, rfl, Nat.le_refl _, fun _ _ => rfl⟩)).mono ?_
      rintro e w7 ⟨u, rfl, ju, b7⟩
      replace ju : Hid (JRow w7 u (lnt ns x)) := ju
      replace b7 : Hid (Below W.heap.size W w7) := ⟨b7.os, b7.tape, b7.output, b7.size, b7.block⟩
      refine hK.out _ _ ⟨(b7.out.cell (p := ⟨w.heap.size, 0, none⟩) hk0.out).trans kx0, (b7.out.cell (p := ⟨b, off + x * 5 + 3, none⟩) hk3.out).trans c3, b7.out⟩ (fun hHeld2 => ?_)
      clear hK K hHeld
      try simp only [Act.put, List.setIfInBounds_toArray, List.set_cons_zero, List.set_cons_succ]
      refine wpAnyH_ready (rs := [11]) (by kernel_rfl) (by simp) ?_
      refine AllReadyH.cons (o := ?oi11b) ?hi11b (fun K hK => ?rest11b) AllReadyH.nil
      case hi11b => simp only [List.getElem?_toArray, List.getElem?_cons_succ, List.getElem?_cons_zero]; rfl
      go_simp
      go_at_call 37
      refine (qj2.out w7 u (hWB.out.then_below b7.out) ju.out).mono ?_
      rintro e w8 ⟨rfl, b8⟩
      replace b8 : Hid (Below W.heap.size W w8) := b7.out.then_below b8
      refine hK.out _ _ ⟨(b8.out.cell (p := ⟨w.heap.size, 0, none⟩) hk0.out).trans kx0, (b8.out.cell (p := ⟨b, off + x * 5 + 3, none⟩) hk3.out).trans c3, b8.out⟩ (fun hHeld3 => ?_)
      clear hK K hHeld2
      try simp only [Act.put, List.setIfInBounds_toArray, List.set_cons_zero, List.set_cons_succ]
      refine wpAnyH_take (i := 12) (oi := ?oi12b) (v := ?v12b) ?hi12b (by kernel_rfl) (by kernel_rfl) (by kernel_rfl) (fun _ _ _ h => h) (Or.inl ⟨?wanted12b, ?hy12b⟩) (by assumption) ?rest12b
      case hi12b => simp only [List.getElem?_toArray, List.getElem?_cons_succ, List.getElem?_cons_zero]; rfl
      case wanted12b => rfl
      case hy12b =>
        intro wS hSw
        obtain ⟨hS1, hS2, -⟩ := hSw
        go_simp
        first | done | with_reducible rfl
      simp only [Act.put, List.setIfInBounds_toArray, List.set_cons_zero, List.set_cons_succ]
      refine wpAnyH_take (i := 13) (oi := ?oi13b) (v := ?v13b) ?hi13b (by kernel_rfl) (by kernel_rfl) (by kernel_rfl) (fun _ _ _ h => h) (Or.inl ⟨?wanted13b, ?hy13b⟩) (by assumption) ?rest13b
      case hi13b => simp only [List.getElem?_toArray, List.getElem?_cons_succ, List.getElem?_cons_zero]; rfl
      case wanted13b => rfl
      case hy13b =>
        intro wS hSw
        obtain ⟨hS1, hS2, -⟩ := hSw
        go_simp
        first | done | with_reducible rfl
      simp only [Act.put, List.setIfInBounds_toArray, List.set_cons_zero, List.set_cons_succ]
      refine wpAnyH_take (i := 14) (oi := ?oi14b) (v := ?v14b) ?hi14b (by kernel_rfl) (by kernel_rfl) (by kernel_rfl) (fun _ _ _ h => h) (Or.inl ⟨?wanted14b, ?hy14b⟩) (by assumption) ?rest14b
      case hi14b => simp only [List.getElem?_toArray, List.getElem?_cons_succ, List.getElem?_cons_zero]; rfl
      case wanted14b => rfl
      case hy14b =>
        intro wS hSw
        obtain ⟨hS1, hS2, -⟩ := hSw
        go_simp
        first | done | with_reducible rfl
      simp only [Act.put, List.setIfInBounds_toArray, List.set_cons_zero, List.set_cons_succ]
      refine wpAnyH_take (i := 15) (oi := ?oi15b) (v := ?v15b) ?hi15b (by kernel_rfl) (by kernel_rfl) (by kernel_rfl) (fun _ _ _ h => h) (Or.inl ⟨?wanted15b, ?hy15b⟩) (by assumption) ?rest15b
      case hi15b => simp only [List.getElem?_toArray, List.getElem?_cons_succ, List.getElem?_cons_zero]; rfl
      case wanted15b => rfl
      case hy15b =>
        intro wS hSw
        obtain ⟨hS1, hS2, -⟩ := hSw
        go_simp
        first | done | with_reducible rfl
      simp only [Act.put, List.setIfInBounds_toArray, List.set_cons_zero, List.set_cons_succ]
      refine wpAnyH_take (i := 16) (oi := ?oi16b) (v := ?v16b) ?hi16b (by kernel_rfl) (by kernel_rfl) (by kernel_rfl) (fun _ _ _ h => h) (Or.inl ⟨?wanted16b, ?hy16b⟩) (by assumption) ?rest16b
      case hi16b => simp only [List.getElem?_toArray, List.getElem?_cons_succ, List.getElem?_cons_zero]; rfl
      case wanted16b => rfl
      case hy16b =>
        intro wS hSw
        obtain ⟨hS1, hS2, -⟩ := hSw
        go_simp
        first | done | with_reducible rfl
      simp only [Act.put, List.setIfInBounds_toArray, List.set_cons_zero, List.set_cons_succ]
      refine wpAnyH_done (by kernel_rfl) ?_ _
      change K0 _ _
      all_goals
        refine hK2.out _ _ ?_
        have hz8 := b8.out.size
        have hzW := hWzH.out
        have hpn := hltH.out
        have hln := hlenH.out
        have hac := halH.out
        have hss := Nat.le_trans hsl.out hTH.out
        have hacc : acc.length ≤ 1048576 * 33554433 := Nat.le_trans hac (Nat.mul_le_mul_right _ (by omega))
        have I8 := hide (builder_below hI.out b8.out)
        have qw := hide (CallsIn.inRound (n := 1) l (callsIn_wide.2 (writeString_k w5.heap.size w5.heap.size _ ⟨s.toArray⟩ w8 I8.out (by rw [Lib.byteCells_length]; show acc.length + s.toArray.size ≤ _; rw [List.size_toArray]; omega) (by omega))))
        gi_wp2_with fail
        refine ⟨trivial, ?_⟩
        refine qw.out.mono ?_
        rintro e w10 ⟨rfl, h10, b10, o10⟩
        rw [show Lib.strCells ⟨s.toArray⟩ = Lib.byteCells s from rfl, ← Lib.byteCells_append] at h10
        have hz10 := b10.size
        have qb := hide (CallsIn.inRound (n := 1) l (callsIn_wide.2 (writeByte_k w5.heap.size w5.heap.size _ 10 w10 (Or.inr h10) (by rw [Lib.byteCells_length, List.length_append]; omega) (by omega))))
        have k10 := hide ((keeps_call b8.out).trans (keeps_write I8.out b10 o10))
        have p10 := hide (KpS_t (KpS.call b8.out (n₀ := w5.heap.size) (lo := w5.heap.size + 1) (by omega) (by omega)) (KpS.write b10 o10 (hBx.out w8 b8.out)))
        replace h10 := hide h10
        clear b10 o10
        gi_wp2_with fail
        refine ⟨trivial, ?_⟩
        refine qb.out.mono ?_
        rintro e w11 ⟨rfl, h11, b11, o11⟩
        gi_wp2_with fail
        refine ⟨(k10.out.trans (keeps_write (Or.inr h10.out) b11 o11)).from _, KpS_t p10.out (KpS.write b11 o11 ?_), ⟨acc ++ s ++ [10], ?_, ?_, ?_⟩, ?_⟩
        · intro j h1 h2
          rw [p10.out.2 j h1 h2]
          exact hBx.out W (Below.refl _ _) j h1 h2
        · rw [List.map_append, shw_append, ha.out]
          show shw ns [x] acc = _
          rw [shw, hR.out]
          rfl
        · simp only [List.length_append, List.length_cons, List.length_nil]
          omega
        · rw [Lib.byteCells_append]
          exact Or.inr h11
        · refine KpS_t hKp.out (KpS_t p10.out (KpS.write b11 o11 ?_))
          intro j h1 h2
          rw [p10.out.2 j h1 h2]
          exact hBx.out W (Below.refl _ _) j h1 h2
  case done =>
    rintro D ys W hD hys ⟨⟨acc, ha, hal, hI⟩, hKp⟩ hK
    have hWz : w5.heap.size + 4 ≤ W.heap.size := by have := hKp.1.size; omega
    have hWB : Below w.heap.size w W := bX.trans (hKp.1.mono (by omega))
    have qs := hide (callsIn_wide (n := 3) |>.2 (string_k w5.heap.size w5.heap.size acc W hI (by omega)))
    have k1 := ((hKp.1.block _ (by omega)).trans X1 : Boxed W (w.heap.size + 1) 9 (.string ⟨#[]⟩))
    have k2 := ((hKp.1.block _ (by omega)).trans X2 : Boxed W (w.heap.size + 1 + 1) 45 (.int .i64 0))
    rw [hys] at ha
    have ha' : showA ns = some acc := ha
    have e1 : Hid (showE ns = 0) := by unfold Hid showE; rw [hf, if_pos rfl, ha']; rfl
    have e2 : Hid (showV ns = acc) := by unfold Hid showV; rw [hf, if_pos rfl, ha']; rfl
    gi_wp2_with (refine ⟨trivial, ?_⟩; gi_at_call 41; go_loud (refine qs.out.mono ?_; rintro e w9 ⟨rfl, _, b9, o9⟩; have z1 : Boxed w9 (w.heap.size + 1) 9 (.string ⟨#[]⟩) := o9 _ _ k1 (fun e => by have := Option.some.inj e; omega) (fun c fz e => by cases e); have z2 : Boxed w9 (w.heap.size + 1 + 1) 45 (.int .i64 0) := o9 _ _ k2 (fun e => by have := Option.some.inj e; omega) (fun c fz e => by cases e); obtain ⟨g1, g2, g3, g4, g5, g6, g7, g8⟩ := two_stores z1 z2 (by omega) (.string ⟨acc.toArray⟩) (.int .i64 0); have K9 := o9 _ _ hK (fun e => by have := Option.some.inj e; omega) (fun c fz e => by cases e); have B9 := hide (hWB.trans (b9.mono (by omega))); clear z1 z2 b9 o9))
    have hK2 : ((w9.setCell ⟨w.heap.size + 1, 0, none⟩ (.string ⟨acc.toArray⟩)).setCell ⟨w.heap.size + 1 + 1, 0, none⟩ (.int .i64 0)).heap[D]? = some (.deferred (some [])) := by
      rw [Below.heap_setCell _ _ _ D (by simp; omega), Below.heap_setCell _ _ _ D (by simp; omega)]
      exact K9
    refine ⟨by simp, .inl ⟨_, _, rfl, run_takeDeferred hK2, ?_⟩⟩
    have r1 := boxed_put (.deferred none) g7 (D := D) (by omega)
    have r2 := boxed_put (.deferred none) g8 (D := D) (by omega)
    refine ⟨.tuple #[.string ⟨acc.toArray⟩, .int .i64 0], ?_, ?_, ?_⟩
    · simp [results, Tryd.f20, go_sem, r1, r2]
    · rw [e1.out, e2.out]
    · exact ((B9.out.setCell (p := ⟨w.heap.size + 1, 0, none⟩) (by simp) _).setCell (p := ⟨w.heap.size + 1 + 1, 0, none⟩) (by simp; omega) _).trans (belowK_b (w := w) (Nat.le_refl _) _ D _ _ (by omega) hK2 rfl rfl)
  case stop =>
    rintro D c pre W hD hpre ⟨rfl, hn, z1, z2, hbw⟩ hK
    have hA : showA ns = none := by
      obtain ⟨r, hr⟩ := hpre
      unfold showA
      rw [← hr, shw_append, hn]
      rfl
    have e1 : Hid (showE ns = 17) := by unfold Hid showE; rw [hf, if_pos rfl, hA]; rfl
    have e2 : Hid (showV ns = []) := by unfold Hid showV; rw [hf, if_pos rfl, hA]; rfl
    gi_wp2
    refine ⟨by simp, .inl ⟨_, _, rfl, run_takeDeferred hK, ?_⟩⟩
    have r1 := boxed_put (.deferred none) z1 (D := D) (by omega)
    have r2 := boxed_put (.deferred none) z2 (D := D) (by omega)
    refine ⟨.tuple #[.string ⟨#[]⟩, .int .i64 17], ?_, ?_, ?_⟩
    · simp [results, Tryd.f20, go_sem, r1, r2]
    · rw [e1.out, e2.out]
    · exact hbw.trans (belowK_b (w := w) (Nat.le_refl _) _ D _ _ (by omega) hK rfl rfl)
end Go.Proofs.YtackibimlpkcmaaDoor
