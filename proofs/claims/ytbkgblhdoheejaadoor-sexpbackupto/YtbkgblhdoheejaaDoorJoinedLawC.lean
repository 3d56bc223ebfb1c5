/-
  The law SexpJoined.
-/
import Derived.Test.YtbkgblhdoheejaaDoorHeadsAll
import Derived.Test.YtbkgblhdoheejaaDoorCutAll
/- ==== JoinedLaw ==== -/
namespace Go.Proofs.YtbkgblhdoheejaaDoor
open Go.RowKit
set_option linter.unusedVariables false
theorem toNd_lk {n : X.N} {d M : Nat} (h : X.Bd M n) (hM : M ≤ 1073741824) : Lk d (toNd n) (toNd (X.mvN d n)) :=
  ⟨rfl, rfl, rfl, fun _ => ⟨by show ((n.beg + d : Nat) : Int) = (n.beg : Int) + d; omega, by show ((n.fin + d : Nat) : Int) = (n.fin : Int) + d; omega, by show _ ≤ (n.beg : Int); omega, by have := h.1; show (n.beg : Int) ≤ _; omega, by show _ ≤ (n.fin : Int); omega, by have := h.2; show (n.fin : Int) ≤ _; omega⟩⟩
/-- Two lists of nodes, the second the first with its places moved. -/
theorem alikeN_calls (w : World) (va vb : Value) (fs gs : List X.N) (M d : Nat) (ha : NRow w va fs) (hb : NRow w vb gs) (he : gs = fs.map (X.mvN d)) (hM : M ≤ 1073741824) (hd : d ≤ 1073741824) (hn : fs.length ≤ 2932031007402) (hbd : ∀ n ∈ fs, X.Bd M n) :
    Calls Tryd.prog 16 #[va, vb, .int .i64 (d : Int)] w fun e w' => e = .returned (.bool true) ∧ Below w.heap.size w w' := by
  have hl : gs.length = fs.length := by rw [he, List.length_map]
  refine alike_calls w w.heap.size va vb _ _ (ha.nds hn) (hb.nds (by omega)) (Nat.le_refl _) d (by omega) (by rw [List.length_map, List.length_map, hl]) (fun j hj => ?_)
  rw [List.length_map] at hj
  rw [toNd_at, toNd_at, he, X.map_getD _ _ _ _ hj]
  refine toNd_lk (X.getD_bd hbd j) hM
theorem mvN_zero (l : List X.N) : l.map (X.mvN 0) = l := by
  rw [show X.mvN 0 = id from funext fun n => rfl, List.map_id]
/-- A piece of a list of nodes. -/
theorem NRow.part {w : World} {b off n cap : Nat} {ns : List X.N} (h : NRow w (.slice (some ⟨b, off, none⟩) n cap) ns) (k m c : Nat) (hk : k + m ≤ ns.length) (hc : m ≤ c) (hm : c ≤ 9223372036854775807) : NRow w (.slice (some ⟨b, off + k * 5, none⟩) m c) ((ns.drop k).take m) := by
  obtain ⟨a', cap', e, h1, h2, h4⟩ := h
  cases e
  have hl : ((ns.drop k).take m).length = m := by rw [List.length_take, List.length_drop]; omega
  refine ⟨some ⟨b, off + k * 5, none⟩, c, by rw [hl], by omega, hm, fun hne => ?_⟩
  obtain ⟨b', off', e, hc⟩ := h4 (by rintro rfl; simp at hne)
  cases e
  refine ⟨b, off + k * 5, rfl, fun j hj => ?_⟩
  rw [hl] at hj
  have e2 : ((ns.drop k).take m).getD j X.n0 = ns.getD (k + j) X.n0 := by
    rw [List.getD_eq_getElem?_getD, List.getD_eq_getElem?_getD, List.getElem?_take_of_lt hj, List.getElem?_drop]
  rw [e2]
  have := hc (k + j) (by omega)
  rw [show off + (k + j) * 5 = off + k * 5 + j * 5 by omega] at this
  exact this
theorem NRow.nil (w : World) (a : Option Addr) (c : Nat) (hm : c ≤ 9223372036854775807) : NRow w (.slice a 0 c) [] := ⟨a, c, rfl, Nat.zero_le _, hm, fun h => absurd rfl h⟩
theorem NRow.sliced {w : World} {a : Option Addr} {n cap : Nat} {ns : List X.N} (h : NRow w (.slice a n cap) ns) (k m c : Nat) (hk : k + m ≤ ns.length) (hc : m ≤ c - k) (hm : c ≤ cap) : NRow w (Go.sliced a k (k + m) c 5) ((ns.drop k).take m) := by
  have hcap : cap ≤ 9223372036854775807 := by obtain ⟨_, _, e, _, h2, _⟩ := h; cases e; exact h2
  unfold Go.sliced
  rw [Nat.add_sub_cancel_left]
  by_cases hz : m = 0
  · subst hz
    rw [List.take_zero]
    exact NRow.nil _ _ _ (by omega)
  · have h' := h
    obtain ⟨a', cap', e, h1, h2, h4⟩ := h
    cases e
    obtain ⟨b, off, rfl, -⟩ := h4 (by rintro rfl; simp at hk; omega)
    rw [if_neg (by omega)]
    have := h'.part k m (c - k) hk hc (by omega)
    have ea : (⟨b, off, none⟩ : Addr).add (k * 5) = ⟨b, off + k * 5, none⟩ := by
      generalize k * 5 = j
      unfold Addr.add
      split <;> simp_all
    rw [Option.map_some, ea]
    exact this
theorem elemNode : Tryd.prog.elem 27 = 35 := by kernel_rfl
theorem NRow.cutH {w : World} {a : Option Addr} {n cap : Nat} {ns : List X.N} (h : NRow w (.slice a n cap) ns) (k : Nat) (hk : k ≤ ns.length) :
    ∃ v, (∀ W, (Instr.sliceAt 27 (.slice a n cap) none (some (.int .i64 (k : Int))) none).run Tryd.prog W = .ok v W) ∧ NRow w v (ns.take k) := by
  have hs := h
  obtain ⟨a', cap', e, h1, h2, h4⟩ := h
  cases e
  refine ⟨Go.sliced a 0 (0 + k) cap 5, fun W => ?_, by have := hs.sliced 0 k cap (by omega) (by omega) (Nat.le_refl _); rwa [List.drop_zero] at this⟩
  have hu : Tryd.prog.underlying 27 = some (.slice (Tryd.prog.elem 27)) := by rw [elemNode]; exact Tryd.underlying27
  rw [run_sliceAt_slice (h := hu), run_slice_h (ht := hu) (h0 := by omega) (h2 := by omega), elemNode, Nat.zero_add]
  clear hu
  go_simp
theorem NRow.cutL {w : World} {a : Option Addr} {n cap : Nat} {ns : List X.N} (h : NRow w (.slice a n cap) ns) (k : Nat) (hk : k ≤ ns.length) :
    ∃ v, (∀ W, (Instr.sliceAt 27 (.slice a n cap) (some (.int .i64 (k : Int))) none none).run Tryd.prog W = .ok v W) ∧ NRow w v (ns.drop k) := by
  have hs := h
  obtain ⟨a', cap', e, h1, h2, h4⟩ := h
  cases e
  refine ⟨Go.sliced a k (k + (ns.length - k)) cap 5, fun W => ?_, by have := hs.sliced k (ns.length - k) cap (by omega) (by omega) (Nat.le_refl _); rwa [List.take_of_length_le (by rw [List.length_drop]; omega)] at this⟩
  have hu : Tryd.prog.underlying 27 = some (.slice (Tryd.prog.elem 27)) := by rw [elemNode]; exact Tryd.underlying27
  rw [run_sliceAt_slice (h := hu), run_slice_l (ht := hu) (h0 := by omega) (h1 := by omega), elemNode, show k + (ns.length - k) = ns.length by omega]
  clear hu
  go_simp
set_option maxRecDepth 100000 in
set_option maxHeartbeats 1000000 in
theorem sexpJoined_calls (w : World) (hc : Cls w) (hm : Mx w) (sa sb : ByteArray) (a b : List UInt8) (ha : sa.data.toList = a) (hb : sb.data.toList = b) (na : a.length ≤ 1048576) (nb : b.length ≤ 1048576) :
    Calls Tryd.prog 5 #[.string sa, .string sb] w fun e w' => e = .returned (.bool true) ∧ Below w.heap.size w w' := by
  have hcat : (sa ++ ⟨#[10]⟩ ++ sb).data.toList = a ++ 10 :: b := by subst ha hb; simp
  have q0 := hide (heads_calls w hc hm)
  have q1 := hide (fun W (hW : Cls W) => sexpRead_calls W hW sa a ha (by omega) _ rfl)
  have q2 := hide (fun W (hW : Cls W) => sexpRead_calls W hW sb b hb (by omega) _ rfl)
  have q3 := hide (fun W (hW : Cls W) => sexpRead_calls W hW (sa ++ ⟨#[10]⟩ ++ sb) (a ++ 10 :: b) hcat (by simp; omega) _ rfl)
  have ta := run_bound a
  have tb := run_bound b
  have fa := X.out_bd _ _ (S.run resv .idle a 0).2.1 _ ta.1 ta.2
  have fb := X.out_bd _ _ (S.run resv .idle b 0).2.1 _ tb.1 tb.2
  have la := X.out_len (S.run resv .idle a 0).1 (S.run resv .idle a 0).2.1 (S.run resv .idle a 0).2.2
  have lb := X.out_len (S.run resv .idle b 0).1 (S.run resv .idle b 0).2.1 (S.run resv .idle b 0).2.2
  have ma := run_many a
  have mb := run_many b
  have ea := X.out_err (S.run resv .idle a 0).1 (S.run resv .idle a 0).2.1 (S.run resv .idle a 0).2.2 (S.run_ten resv a .idle 0)
  have hsa : sa.size = a.length := by rw [← ha]; simp
  have hsb : sb.size = b.length := by rw [← hb]; simp
  obtain ⟨o3, h3⟩ : ∃ o, X.out (S.run resv .idle (a ++ 10 :: b) 0).1 (S.run resv .idle (a ++ 10 :: b) 0).2.1 (S.run resv .idle (a ++ 10 :: b) 0).2.2 = o := ⟨_, rfl⟩
  have hcase : ((X.out (S.run resv .idle a 0).1 (S.run resv .idle a 0).2.1 (S.run resv .idle a 0).2.2).2.1 = 20 → o3 = X.out (S.run resv .idle a 0).1 (S.run resv .idle a 0).2.1 (S.run resv .idle a 0).2.2) ∧
      ((X.out (S.run resv .idle a 0).1 (S.run resv .idle a 0).2.1 (S.run resv .idle a 0).2.2).2.1 = 0 → o3 = ((X.out (S.run resv .idle a 0).1 (S.run resv .idle a 0).2.1 (S.run resv .idle a 0).2.2).1 ++ (X.out (S.run resv .idle b 0).1 (S.run resv .idle b 0).2.1 (S.run resv .idle b 0).2.2).1.map (X.mvN (a.length + 1)), (X.out (S.run resv .idle b 0).1 (S.run resv .idle b 0).2.1 (S.run resv .idle b 0).2.2).2.1, if (X.out (S.run resv .idle b 0).1 (S.run resv .idle b 0).2.1 (S.run resv .idle b 0).2.2).2.1 = 0 then 0 else (X.out (S.run resv .idle b 0).1 (S.run resv .idle b 0).2.1 (S.run resv .idle b 0).2.2).2.2 + (a.length + 1))) := by
    refine ⟨fun h => ?_, fun h => ?_⟩
    · obtain ⟨ns, p, e1, e2⟩ := ea.1 h
      rw [e2, ← h3]
      by_cases hz : (S.run resv .idle a 0).2.1 = 0
      · rw [S.run_behind_text resv a b hz]
        exact X.out_close e1 _ _
      · obtain ⟨r, hr⟩ := S.run_pref resv (10 :: b) a .idle 0 hz
        rw [hr]
        exact X.out_close e1 _ _
    · obtain ⟨e0, ns, e1, e2⟩ := ea.2 h
      have hR := S.run_behind_text resv a b e0
      rw [← h3, hR, e2]
      exact X.out_joined _ _ _ _ _ ns e1 (S.run_place resv b .idle 0)
  rw [h3] at q3
  clear h3 ea ta tb hcat
  obtain ⟨o1, h1⟩ : ∃ o, X.out (S.run resv .idle a 0).1 (S.run resv .idle a 0).2.1 (S.run resv .idle a 0).2.2 = o := ⟨_, rfl⟩
  obtain ⟨o2, h2⟩ : ∃ o, X.out (S.run resv .idle b 0).1 (S.run resv .idle b 0).2.1 (S.run resv .idle b 0).2.2 = o := ⟨_, rfl⟩
  rw [h1] at q1 fa la hcase
  rw [h2] at q2 fb lb hcase
  clear h1 h2
  obtain ⟨f, e, p⟩ := o1
  obtain ⟨g, h, q⟩ := o2
  simp only at q1 q2 q3 fa fb la lb hcase
  have nf : f.length ≤ 2097153 := by omega
  have ng : g.length ≤ 2097153 := by omega
  have hcH := hide hc
  have bdf := hide fa.1
  have bdg := hide fb.1
  have hpq := fb.2
  clear hc hm ma mb la lb ha hb fa fb
  by_cases h20 : e = 20
  · subst h20
    obtain rfl := hcase.1 rfl
    clear hcase
    simp only at q3
    go_enter Tryd.func5, Tryd.ntmps5
    go_wp2_with fail
    refine q0.out.mono ?_
    rintro x w1 ⟨rfl, b1⟩
    replace b1 := hide b1
    go_wp2_with fail
    refine (q1.out w1 (cls_below hcH.out b1.out)).mono ?_
    rintro x w2 ⟨v2, rfl, r2, b2⟩
    replace b2 := hide (b1.out.then_below b2)
    replace r2 := hide r2
    go_wp2_with fail
    refine (q2.out w2 (cls_below hcH.out b2.out)).mono ?_
    rintro x w3 ⟨v3, rfl, r3, b3⟩
    replace r2 := hide (r2.out.below b3)
    replace b3 := hide (b2.out.then_below b3)
    go_wp2_with fail
    refine (q3.out w3 (cls_below hcH.out b3.out)).mono ?_
    rintro x w4 ⟨v4, rfl, r4, b4⟩
    replace r2 := hide (r2.out.below b4)
    replace b4 := hide (b3.out.then_below b4)
    have q5 := hide (alikeN_calls w4 v2 v4 f f a.length 0 r2.out r4 (mvN_zero f).symm (by omega) (by omega) (by omega) bdf.out)
    go_wp2_with (first
      | (go_at_call 12; refine (no_calls _ _).mono ?_; rintro x w5 ⟨rfl, rfl⟩)
      | (go_at_call 16; refine q5.out.mono ?_; rintro x w6 ⟨rfl, b6⟩))
    go_ret
    exact ⟨rfl, b4.out.then_below b6⟩
  have h20B : ((e : Int) == 20) = false := by rw [beq_eq_false_iff_ne]; omega
  by_cases h0 : e = 0
  · subst h0
    obtain rfl := hcase.2 rfl
    clear hcase h20 h20B
    simp only at q3
    obtain ⟨R, hR⟩ : ∃ R : Nat, (if h = 0 then 0 else q + (a.length + 1)) = R := ⟨_, rfl⟩
    rw [hR] at q3
    have hlen : Hid ((f ++ g.map (X.mvN (a.length + 1))).length = f.length + g.length) := by unfold Hid; rw [List.length_append, List.length_map]
    have hfront : Hid ((f ++ g.map (X.mvN (a.length + 1))).take f.length = f.map (X.mvN 0)) := by unfold Hid; rw [mvN_zero, List.take_left]
    have hback : Hid ((f ++ g.map (X.mvN (a.length + 1))).drop f.length = g.map (X.mvN (a.length + 1))) := by unfold Hid; rw [List.drop_left]
    generalize f ++ g.map (X.mvN (a.length + 1)) = m at *
    go_enter Tryd.func5, Tryd.ntmps5
    go_wp2_with fail
    refine q0.out.mono ?_
    rintro x w1 ⟨rfl, b1⟩
    replace b1 := hide b1
    go_wp2_with fail
    refine (q1.out w1 (cls_below hcH.out b1.out)).mono ?_
    rintro x w2 ⟨v2, rfl, r2, b2⟩
    replace b2 := hide (b1.out.then_below b2)
    obtain ⟨a2, c2, rfl, n2, m2⟩ := r2.shape
    replace r2 := hide r2
    go_wp2_with fail
    refine (q2.out w2 (cls_below hcH.out b2.out)).mono ?_
    rintro x w3 ⟨v3, rfl, r3, b3⟩
    replace r2 := hide (r2.out.below b3)
    replace b3 := hide (b2.out.then_below b3)
    obtain ⟨a3, c3, rfl, n3, m3⟩ := r3.shape
    replace r3 := hide r3
    go_wp2_with fail
    refine (q3.out w3 (cls_below hcH.out b3.out)).mono ?_
    rintro x w4 ⟨v4, rfl, r4, b4⟩
    replace r2 := hide (r2.out.below b4)
    replace r3 := hide (r3.out.below b4)
    replace b4 := hide (b3.out.then_below b4)
    obtain ⟨a4, c4, rfl, n4, m4⟩ := r4.shape
    obtain ⟨v5, sl5, r5⟩ := r4.cutH f.length (by rw [hlen.out]; omega)
    obtain ⟨v6, sl6, r6⟩ := r4.cutL f.length (by rw [hlen.out]; omega)
    rw [hfront.out] at r5
    rw [hback.out] at r6
    have q5 := hide (alikeN_calls w4 _ v5 f _ a.length 0 r2.out r5 rfl (by omega) (by omega) (by omega) bdf.out)
    have q6 := hide (fun W (qW : Below w4.heap.size w4 W) => alikeN_calls W _ v6 g _ b.length (a.length + 1) (r3.out.below qW) (r6.below qW) rfl (by omega) (by omega) (by omega) bdg.out)
    rw [hlen.out] at n4 sl5 sl6 ⊢
    clear r4 r5 r6 r2 r3 hfront hback q0 q1 q2 q3 hlen
    have hcast : ((a.length + 1 : Nat) : Int) = (a.length : Int) + 1 := by omega
    rw [hcast] at q6
    clear hcast
    by_cases hh : h = 0
    · subst hh
      rw [if_pos rfl] at hR
      subst hR
      go_wp2_with (first
        | (go_at_call 12; refine (no_calls _ _).mono ?_; rintro x w5 ⟨rfl, rfl⟩)
        | (have y := q5; clear y; go_at_call 16; refine q5.out.mono ?_; rintro x w6 ⟨rfl, b6⟩; have q7 := hide (q6.out _ b6); clear q5; replace b6 := hide b6)
        | (go_at_call 16; refine q7.out.mono ?_; rintro x w7 ⟨rfl, b7⟩))
      go_ret
      exact ⟨rfl, (b4.out.then_below b6.out).then_below b7⟩
    · rw [if_neg hh] at hR
      have hR' : (R : Int) = (q : Int) + ((a.length : Int) + 1) := by omega
      have hq1 : ((R : Int) != (q : Int) + ((a.length : Int) + 1)) = false := by rw [bne_eq_false_iff_eq]; exact hR'
      have hq0 : ((h : Int) == 0) = false := by rw [beq_eq_false_iff_ne]; omega
      replace hR := hide hR
      replace hR' := hide hR'
      go_wp2_with (first
        | (go_at_call 12; refine (no_calls _ _).mono ?_; rintro x w5 ⟨rfl, rfl⟩)
        | (have y := q5; clear y; go_at_call 16; refine q5.out.mono ?_; rintro x w6 ⟨rfl, b6⟩; have q7 := hide (q6.out _ b6); clear q5; replace b6 := hide b6)
        | (go_at_call 16; refine q7.out.mono ?_; rintro x w7 ⟨rfl, b7⟩))
      go_ret
      exact ⟨rfl, (b4.out.then_below b6.out).then_below b7⟩
  · have h0B : ((e : Int) != 0) = true := by rw [bne_iff_ne]; omega
    clear hcase
    go_enter Tryd.func5, Tryd.ntmps5
    go_wp2_with fail
    refine q0.out.mono ?_
    rintro x w1 ⟨rfl, b1⟩
    replace b1 := hide b1
    go_wp2_with fail
    refine (q1.out w1 (cls_below hcH.out b1.out)).mono ?_
    rintro x w2 ⟨v2, rfl, r2, b2⟩
    replace b2 := hide (b1.out.then_below b2)
    go_wp2_with fail
    refine (q2.out w2 (cls_below hcH.out b2.out)).mono ?_
    rintro x w3 ⟨v3, rfl, r3, b3⟩
    replace b3 := hide (b2.out.then_below b3)
    go_wp2_with fail
    refine (q3.out w3 (cls_below hcH.out b3.out)).mono ?_
    rintro x w4 ⟨v4, rfl, r4, b4⟩
    replace b4 := hide (b3.out.then_below b4)
    go_wp2_with (go_at_call 12; refine (no_calls _ _).mono ?_; rintro x w5 ⟨rfl, rfl⟩)
    go_ret
    exact ⟨rfl, b4.out⟩
end Go.Proofs.YtbkgblhdoheejaaDoor
