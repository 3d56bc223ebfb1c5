/- Laid together of: RatLower, RatMul, NumParse, NumReckon. -/
import Derived.Test.YtnpdieolahlpoaaGreatDoorAll8
import Derived.Test.YtnpdieolahlpoaaGreatDoorQAll
import Derived.Test.YtnpdieolahlpoaaGreatDoorFreeA
/- ==== RatLower ==== -/
namespace Go.Proofs.YtnpdieolahlpoaaGreatDoor
open Go.RowKit
set_option linter.unusedVariables false
set_option maxRecDepth 100000 in
set_option maxHeartbeats 4000000 in
theorem lower_calls (w : World) (v : Value) (neg : Bool) (n d : Nat) (h : DenR w v neg n d) :
    Calls Tryz.prog 48 #[v] w fun e w' => (∃ r, e = .returned r ∧ Den w' r (if d = 0 then 1 else d)) ∧ Below w.heap.size w w' := by
  have h' := h
  obtain ⟨x1, x2, x3, x4, y1, y2, y3, y4, rfl, h1, h2⟩ := h
  obtain ⟨X1, Y1, -⟩ := two_new w (.cells #[.bool neg, .int .u64 x1, .slice x2 x3 x4, .int .u64 y1, .slice y2 y3 y4] 42) (.cells #[.int .u64 0, .slice none 0 0] 39)
  have B0 := alloc2_below w (.cells #[.bool neg, .int .u64 x1, .slice x2 x3 x4, .int .u64 y1, .slice y2 y3 y4] 42) (.cells #[.int .u64 0, .slice none 0 0] 39)
  have q1 := hide (isWhole_calls _ _ neg n d (h'.below B0))
  have D2 := hide (h2.below B0)
  replace X1 := hide X1
  replace Y1 := hide Y1
  replace B0 := hide B0
  clear h' h1 h2
  by_cases hd : d = 0
  · rw [decide_eq_true hd] at q1
    rw [if_pos hd]
    clear hd
    go_enter Tryz.func48, Tryz.ntmps48
    go_wp2_with (first
      | (go_at_call 44; refine q1.out.mono ?_; rintro e wa ⟨rfl, ba⟩; replace ba := hide ba)
      | (go_at_call 54; refine (word_calls _ 1 (by decide)).mono ?_; rintro e wb ⟨rfl, bb⟩; have Y2 := hide (kept_block Y1.out (ba.out.then_below bb)); obtain ⟨z0, z1, f0, f1⟩ := box_facts Y2.out; replace bb := hide bb))
    refine bodyPost_ret (v := .agg #[.int .u64 1, .slice none 0 0]) (by simp [results, Tryz.results48, go_sem, z0, z1]) rfl ?_
    exact ⟨⟨_, rfl, den_word _ 1 (by decide)⟩, ((B0.out.then_below ba.out).then_below bb.out).then_grown (box_grown _ _ _ _) (by rintro g ⟨⟩; omega)⟩
  · rw [decide_eq_false hd] at q1
    rw [if_neg hd]
    clear hd
    go_enter Tryz.func48, Tryz.ntmps48
    go_wp2_with (go_at_call 44; refine q1.out.mono ?_; rintro e wa ⟨rfl, ba⟩; obtain ⟨⟨t0, t1, t2, t3, t4⟩, -⟩ := ratBox (kept_block X1.out ba); have Y2 := hide (kept_block Y1.out ba); obtain ⟨z0, z1, f0, f1⟩ := box_facts Y2.out; replace ba := hide ba)
    refine bodyPost_ret (v := .agg #[.int .u64 y1, .slice y2 y3 y4]) (by simp [results, Tryz.results48, go_sem, z0, z1]) rfl ?_
    have dd := D2.out.below ba.out
    have q := box_grown wa (w.heap.size + 1) (.int .u64 y1) (.slice y2 y3 y4)
    exact ⟨⟨_, rfl, dd.kept q (dd.notin (nopair2 _ _ _ _) Y2.out)⟩, (B0.out.then_below ba.out).then_grown q (by rintro g ⟨⟩; omega)⟩
set_option maxRecDepth 100000 in
set_option maxHeartbeats 4000000 in
theorem psign_calls (w : World) (v : Value) (neg : Bool) (n d : Nat) (h : DenR w v neg n d) :
    Calls Tryz.prog 31 #[v] w fun e w' => e = .returned (.int .i64 (if neg then -1 else if n = 0 then 0 else 1)) ∧ Below w.heap.size w w' := by
  obtain ⟨x1, x2, x3, x4, y1, y2, y3, y4, rfl, h1, h2⟩ := h
  have B0 := hide (alloc_below w (.cells #[.bool neg, .int .u64 x1, .slice x2 x3 x4, .int .u64 y1, .slice y2 y3 y4] 42))
  have q1 := hide (isZero_calls _ _ n (h1.below B0.out))
  replace h1 := hide h1
  replace h2 := hide h2
  cases neg with
  | true =>
    go_enter Tryz.func31, Tryz.ntmps31
    go_wp2
    go_ret
    exact ⟨rfl, B0.out⟩
  | false =>
    by_cases hn : n = 0
    · rw [decide_eq_true hn] at q1
      rw [if_neg (by simp), if_pos hn]
      clear hn
      go_enter Tryz.func31, Tryz.ntmps31
      go_wp2_with (go_at_call 23; refine q1.out.mono ?_; rintro e w1 ⟨rfl, b1⟩; replace b1 := hide b1)
      go_ret
      exact ⟨rfl, B0.out.then_below b1.out⟩
    · rw [decide_eq_false hn] at q1
      rw [if_neg (by simp), if_neg hn]
      clear hn
      go_enter Tryz.func31, Tryz.ntmps31
      go_wp2_with (go_at_call 23; refine q1.out.mono ?_; rintro e w1 ⟨rfl, b1⟩; replace b1 := hide b1)
      go_ret
      exact ⟨rfl, B0.out.then_below b1.out⟩
end Go.Proofs.YtnpdieolahlpoaaGreatDoor
/- ==== RatMul ==== -/
namespace Go.Proofs.YtnpdieolahlpoaaGreatDoor
open Go.RowKit
set_option linter.unusedVariables false
set_option maxRecDepth 100000 in
set_option maxHeartbeats 4000000 in
theorem pmul_whole (w : World) (va vb : Value) (s1 s2 : Bool) (n1 d1 n2 d2 K : Nat) (ha : DenR w va s1 n1 d1) (hb : DenR w vb s2 n2 d2) (h1 : d1 = 0) (h2 : d2 = 0) (k1 : (n1 : Int) < M.BB ^ K) (k2 : (n2 : Int) < M.BB ^ K) (hK : K ≤ 4398046511104) :
    Calls Tryz.prog 33 #[va, vb] w fun e w' => (∃ r, e = .returned r ∧ DenR w' r ((s1 != s2) && !decide (n1 * n2 = 0)) (n1 * n2) 0) ∧ Below w.heap.size w w' := by
  have ha' := hide ha
  have hb' := hide hb
  obtain ⟨x1, x2, x3, x4, y1, y2, y3, y4, rfl, a1, a2⟩ := ha
  obtain ⟨p1, p2, p3, p4, r1, r2, r3, r4, rfl, b1, b2⟩ := hb
  subst h1
  subst h2
  have z1 : (w.alloc (.cells #[.bool s1, .int .u64 x1, .slice x2 x3 x4, .int .u64 y1, .slice y2 y3 y4] 42)).heap.size = w.heap.size + 1 := by show (w.heap.push _).size = _; simp
  have z2 : ((w.alloc (.cells #[.bool s1, .int .u64 x1, .slice x2 x3 x4, .int .u64 y1, .slice y2 y3 y4] 42)).alloc (.cells #[.bool s2, .int .u64 p1, .slice p2 p3 p4, .int .u64 r1, .slice r2 r3 r4] 42)).heap.size = w.heap.size + 1 + 1 := by show ((w.heap.push _).push _).size = _; simp
  have P0 := kept_block (kept_block (heap_alloc_new w (.cells #[.bool s1, .int .u64 x1, .slice x2 x3 x4, .int .u64 y1, .slice y2 y3 y4] 42)) (alloc_below _ (.cells #[.bool s2, .int .u64 p1, .slice p2 p3 p4, .int .u64 r1, .slice r2 r3 r4] 42))) (alloc_below _ (.cells #[.bool false, .int .u64 0, .slice none 0 0, .int .u64 0, .slice none 0 0] 42))
  have Q0 := kept_block (heap_alloc_new (w.alloc (.cells #[.bool s1, .int .u64 x1, .slice x2 x3 x4, .int .u64 y1, .slice y2 y3 y4] 42)) (.cells #[.bool s2, .int .u64 p1, .slice p2 p3 p4, .int .u64 r1, .slice r2 r3 r4] 42)) (alloc_below _ (.cells #[.bool false, .int .u64 0, .slice none 0 0, .int .u64 0, .slice none 0 0] 42))
  have R0 := heap_alloc_new ((w.alloc (.cells #[.bool s1, .int .u64 x1, .slice x2 x3 x4, .int .u64 y1, .slice y2 y3 y4] 42)).alloc (.cells #[.bool s2, .int .u64 p1, .slice p2 p3 p4, .int .u64 r1, .slice r2 r3 r4] 42)) (.cells #[.bool false, .int .u64 0, .slice none 0 0, .int .u64 0, .slice none 0 0] 42)
  rw [z1] at Q0
  rw [z2] at R0
  have B0 := (alloc2_below w (.cells #[.bool s1, .int .u64 x1, .slice x2 x3 x4, .int .u64 y1, .slice y2 y3 y4] 42) (.cells #[.bool s2, .int .u64 p1, .slice p2 p3 p4, .int .u64 r1, .slice r2 r3 r4] 42)).then_below (alloc_below _ (.cells #[.bool false, .int .u64 0, .slice none 0 0, .int .u64 0, .slice none 0 0] 42))
  clear z1 z2
  obtain ⟨W0, hW0⟩ : ∃ W0, ((w.alloc (.cells #[.bool s1, .int .u64 x1, .slice x2 x3 x4, .int .u64 y1, .slice y2 y3 y4] 42)).alloc (.cells #[.bool s2, .int .u64 p1, .slice p2 p3 p4, .int .u64 r1, .slice r2 r3 r4] 42)).alloc (.cells #[.bool false, .int .u64 0, .slice none 0 0, .int .u64 0, .slice none 0 0] 42) = W0 := ⟨_, rfl⟩
  rw [hW0] at P0 Q0 R0 B0
  replace P0 := hide P0
  replace Q0 := hide Q0
  replace R0 := hide R0
  replace B0 := hide B0
  replace a1 := hide a1
  replace a2 := hide a2
  replace b1 := hide b1
  replace b2 := hide b2
  replace k1 := hide k1
  replace k2 := hide k2
  obtain ⟨⟨i0, i1, i2, i3, i4⟩, -⟩ := ratBox P0.out
  obtain ⟨⟨j0, j1, j2, j3, j4⟩, -⟩ := ratBox Q0.out
  go_enter Tryz.func33, Tryz.ntmps33
  go_wp2_with (first
    | (go_at_call_of 44 (Value.agg #[.bool s1, .int .u64 x1, .slice x2 x3 x4, .int .u64 y1, .slice y2 y3 y4]); refine (isWhole_calls _ _ s1 n1 0 (ha'.out.below B0.out)).mono ?_; rintro e wa ⟨rfl, ba⟩; obtain ⟨⟨t0, t1, t2, t3, t4⟩, -⟩ := ratBox (kept_block Q0.out ba); replace ba := hide ba)
    | (go_at_call_of 44 (Value.agg #[.bool s2, .int .u64 p1, .slice p2 p3 p4, .int .u64 r1, .slice r2 r3 r4]); refine (isWhole_calls _ _ s2 n2 0 ((hb'.out.below B0.out).below ba.out)).mono ?_; rintro e wb ⟨rfl, bb⟩; replace bb := hide (ba.out.then_below bb); obtain ⟨⟨u0, u1, u2, u3, u4⟩, -⟩ := ratBox (kept_block P0.out bb.out); obtain ⟨⟨v0, v1, v2, v3, v4⟩, -⟩ := ratBox (kept_block Q0.out bb.out))
    | (go_at_call 49; refine (natMul_calls _ _ _ n1 n2 K ((a1.out.below B0.out).below bb.out) ((b1.out.below B0.out).below bb.out) k1.out k2.out hK).mono ?_; rintro e wc ⟨⟨rc, rfl, nc⟩, bc⟩; obtain ⟨c1, c2, c3, c4, rfl⟩ := nc.shape2; replace nc := hide nc; replace bc := hide (bb.out.then_below bc))
    | (go_at_call 46; refine (whole_calls _ (s1 != s2) _ (n1 * n2) nc.out).mono ?_; rintro e wd ⟨⟨rd, rfl, md⟩, bd⟩; obtain ⟨e1, e2, e3, e4, g1, g2, g3, g4, rfl, m1, m2⟩ := md; have R1 := hide (kept_block R0.out (bc.out.then_below bd)); obtain ⟨⟨w0, w1, w2, w3, w4⟩, f0, f1, f2, f3, f4⟩ := ratBox R1.out; replace m1 := hide m1; replace m2 := hide m2; replace bd := hide (bc.out.then_below bd)))
  refine bodyPost_ret (v := .agg #[.bool ((s1 != s2) && !decide (n1 * n2 = 0)), .int .u64 e1, .slice e2 e3 e4, .int .u64 g1, .slice g2 g3 g4]) (by simp [results, Tryz.results33, go_sem, w0, w1, w2, w3, w4]) rfl ?_
  have q := set5 wd (w.heap.size + 1 + 1) (.bool ((s1 != s2) && !decide (n1 * n2 = 0))) (.int .u64 e1) (.slice e2 e3 e4) (.int .u64 g1) (.slice g2 g3 g4)
  exact ⟨⟨_, rfl, DenR.make m1.out m2.out R1.out (nopair5 _ _ _ _ _ _ _ _ _) q⟩, (B0.out.then_below bd.out).then_grown q (by rintro g ⟨⟩; omega)⟩
end Go.Proofs.YtnpdieolahlpoaaGreatDoor
/- ==== NumParse ==== -/
namespace Go.Proofs.YtnpdieolahlpoaaGreatDoor
open Go.RowKit
set_option linter.unusedVariables false
theorem infoRat : (Tryz.prog.info? 42).map (fun i => (i.zero, i.size, i.bytes)) = some (some (.agg #[.bool false, .int .u64 0, .slice none 0 0, .int .u64 0, .slice none 0 0]), 5, 72) := by kernel_rfl
theorem sliceRat : Tryz.prog.underlying 50 = some (.slice 42) := by kernel_rfl
theorem run_make_two (w : World) : (Instr.makeSlice 50 (.int .i64 2) (.int .i64 2)).run Tryz.prog w = .ok (.slice (some ⟨w.heap.size, 0, none⟩) 2 2) (w.alloc (.cells #[.bool false, .int .u64 0, .slice none 0 0, .int .u64 0, .slice none 0 0, .bool false, .int .u64 0, .slice none 0 0, .int .u64 0, .slice none 0 0] 42)) := by
  obtain ⟨i, hi, hz0, hz1, hz2⟩ := info_parts infoRat
  have hrun := run_make (P := Tryz.prog) w 50 42 i (.agg #[.bool false, .int .u64 0, .slice none 0 0, .int .u64 0, .slice none 0 0]) sliceRat hi hz0 .i64 .i64 2 2 (by omega) (Int.le_refl _) (by rw [hz2]; decide) (by decide)
  rw [hz1] at hrun
  refine hrun.trans ?_
  kernel_rfl
theorem nopair10 (b : Bool) (x1 : Int) (x2 : Option Addr) (x3 x4 : Nat) (y1 : Int) (y2 : Option Addr) (y3 y4 : Nat) (c : Bool) (z1 : Int) (z2 : Option Addr) (z3 z4 : Nat) (t1 : Int) (t2 : Option Addr) (t3 t4 : Nat) : NoPair #[.bool b, .int .u64 x1, .slice x2 x3 x4, .int .u64 y1, .slice y2 y3 y4, .bool c, .int .u64 z1, .slice z2 z3 z4, .int .u64 t1, .slice t2 t3 t4] := by
  intro j x y h1 h2
  match j with
  | 0 => simp at h1
  | 1 => simp at h2
  | 2 => simp at h1
  | 3 => simp at h2
  | 4 => simp at h1
  | 5 => simp at h1
  | 6 => simp at h2
  | 7 => simp at h1
  | 8 => simp at h2
  | 9 => simp at h1
  | j + 10 => simp at h1
theorem set5at (w : World) (g o : Nat) (a b c d e : Value) : w.grownBy (((((w.setCell ⟨g, o, none⟩ a).setCell ⟨g, o + 1, none⟩ b).setCell ⟨g, o + 2, none⟩ c).setCell ⟨g, o + 3, none⟩ d).setCell ⟨g, o + 4, none⟩ e) (some g) :=
  grown_trans (grown_trans (grown_trans (grown_trans (grown_set _ _ _ _) (grown_set _ _ _ _)) (grown_set _ _ _ _)) (grown_set _ _ _ _)) (grown_set _ _ _ _)
theorem lo10 {w : World} {g : Nat} {t : TypeId} {c0 c1 c2 c3 c4 c5 c6 c7 c8 c9 : Value} (h : w.heap[g]? = some (.cells #[c0, c1, c2, c3, c4, c5, c6, c7, c8, c9] t (0, 0))) (a b c d e : Value) :
    (((((w.setCell ⟨g, 0, none⟩ a).setCell ⟨g, 1, none⟩ b).setCell ⟨g, 2, none⟩ c).setCell ⟨g, 3, none⟩ d).setCell ⟨g, 4, none⟩ e).heap[g]? = some (.cells #[a, b, c, d, e, c5, c6, c7, c8, c9] t (0, 0)) := by
  simp only [World.setCell, Array.getElem?_modify, if_pos, h, Option.map_some]
  simp
theorem hi10 {w : World} {g : Nat} {t : TypeId} {c0 c1 c2 c3 c4 c5 c6 c7 c8 c9 : Value} (h : w.heap[g]? = some (.cells #[c0, c1, c2, c3, c4, c5, c6, c7, c8, c9] t (0, 0))) (a b c d e : Value) :
    (((((w.setCell ⟨g, 5, none⟩ a).setCell ⟨g, 6, none⟩ b).setCell ⟨g, 7, none⟩ c).setCell ⟨g, 8, none⟩ d).setCell ⟨g, 9, none⟩ e).heap[g]? = some (.cells #[c0, c1, c2, c3, c4, a, b, c, d, e] t (0, 0)) := by
  simp only [World.setCell, Array.getElem?_modify, if_pos, h, Option.map_some]
  simp
theorem row10 {w : World} {g : Nat} {t : TypeId} {cs : Array Value} (h : w.heap[g]? = some (.cells cs t (0, 0))) (j : Nat) : w.frozen? ⟨g, j, none⟩ = false := by
  simp [World.frozen?, h]
theorem cells10 {w : World} {g : Nat} {t : TypeId} {c0 c1 c2 c3 c4 c5 c6 c7 c8 c9 : Value} (h : w.heap[g]? = some (.cells #[c0, c1, c2, c3, c4, c5, c6, c7, c8, c9] t (0, 0))) :
    (w.cell? ⟨g, 0, none⟩ = some c0 ∧ w.cell? ⟨g, 1, none⟩ = some c1 ∧ w.cell? ⟨g, 2, none⟩ = some c2 ∧ w.cell? ⟨g, 3, none⟩ = some c3 ∧ w.cell? ⟨g, 4, none⟩ = some c4 ∧ w.cell? ⟨g, 5, none⟩ = some c5 ∧ w.cell? ⟨g, 6, none⟩ = some c6 ∧ w.cell? ⟨g, 7, none⟩ = some c7 ∧ w.cell? ⟨g, 8, none⟩ = some c8 ∧ w.cell? ⟨g, 9, none⟩ = some c9) ∧ (w.frozen? ⟨g, 0, none⟩ = false ∧ w.frozen? ⟨g, 1, none⟩ = false ∧ w.frozen? ⟨g, 2, none⟩ = false ∧ w.frozen? ⟨g, 3, none⟩ = false ∧ w.frozen? ⟨g, 4, none⟩ = false ∧ w.frozen? ⟨g, 5, none⟩ = false ∧ w.frozen? ⟨g, 6, none⟩ = false ∧ w.frozen? ⟨g, 7, none⟩ = false ∧ w.frozen? ⟨g, 8, none⟩ = false ∧ w.frozen? ⟨g, 9, none⟩ = false) := by
  refine ⟨⟨?_, ?_, ?_, ?_, ?_, ?_, ?_, ?_, ?_, ?_⟩, ⟨row10 h 0, row10 h 1, row10 h 2, row10 h 3, row10 h 4, row10 h 5, row10 h 6, row10 h 7, row10 h 8, row10 h 9⟩⟩
  · rw [cell_of_row _ _ 0 _ _ (0, 0) h]; rfl
  · rw [cell_of_row _ _ 1 _ _ (0, 0) h]; rfl
  · rw [cell_of_row _ _ 2 _ _ (0, 0) h]; rfl
  · rw [cell_of_row _ _ 3 _ _ (0, 0) h]; rfl
  · rw [cell_of_row _ _ 4 _ _ (0, 0) h]; rfl
  · rw [cell_of_row _ _ 5 _ _ (0, 0) h]; rfl
  · rw [cell_of_row _ _ 6 _ _ (0, 0) h]; rfl
  · rw [cell_of_row _ _ 7 _ _ (0, 0) h]; rfl
  · rw [cell_of_row _ _ 8 _ _ (0, 0) h]; rfl
  · rw [cell_of_row _ _ 9 _ _ (0, 0) h]; rfl
theorem DenR.keep {w w' : World} {v : Value} {neg : Bool} {n d g : Nat} {cs : Array Value} {t : TypeId} (h : DenR w v neg n d) (hg : w.heap[g]? = some (.cells cs t (0, 0))) (hn : NoPair cs) (q : w.grownBy w' (some g)) : DenR w' v neg n d := by
  obtain ⟨x1, x2, x3, x4, y1, y2, y3, y4, rfl, h1, h2⟩ := h
  exact DenR.make h1 h2 hg hn q
theorem set5hi (w : World) (g : Nat) (a b c d e : Value) : w.grownBy (((((w.setCell ⟨g, 5, none⟩ a).setCell ⟨g, 6, none⟩ b).setCell ⟨g, 7, none⟩ c).setCell ⟨g, 8, none⟩ d).setCell ⟨g, 9, none⟩ e) (some g) := set5at w g 5 a b c d e
/-- rat.Parse, in one form for both answers. -/
theorem parse_one (w : World) (s : ByteArray) (l : List UInt8) (hs : s.data.toList = l) (hl : l.length ≤ 1073741824) (m : Int) (hM : w.cell? ⟨0, 0, none⟩ = some (.int .i64 m)) (hT : Tab w) (k : Bool) (hk : k = true ↔ CanT l) :
    Calls Tryz.prog 51 #[.string s] w fun e w' => (∃ b x1 x2 x3 x4 y1 y2 y3 y4, e = .returned (.tuple #[.agg #[.bool b, .int .u64 x1, .slice x2 x3 x4, .int .u64 y1, .slice y2 y3 y4], .bool k]) ∧ (CanT l → DenR w' (.agg #[.bool b, .int .u64 x1, .slice x2 x3 x4, .int .u64 y1, .slice y2 y3 y4]) (cneg l) (M.dec (cup l)) (if cslash l then M.dec (clow l) else 0))) ∧ Below w.heap.size w w' := by
  refine (parse_calls w s l hs hl m hM hT).mono ?_
  rintro e w' ⟨⟨h1, h2⟩, h3⟩
  refine ⟨?_, h3⟩
  by_cases hc : CanT l
  · obtain ⟨v, rfl, hr⟩ := h1 hc
    obtain rfl : k = true := hk.2 hc
    have hr' := hr
    obtain ⟨x1, x2, x3, x4, y1, y2, y3, y4, rfl, -, -⟩ := hr
    exact ⟨cneg l, x1, x2, x3, x4, y1, y2, y3, y4, rfl, fun _ => hr'⟩
  · obtain rfl : k = false := by
      cases k with
      | false => rfl
      | true => exact absurd (hk.1 rfl) hc
    exact ⟨false, 0, none, 0, 0, 0, none, 0, 0, h2 hc, fun h => absurd h hc⟩
def OneR (w wr : World) (la : List UInt8) : Prop := ∃ (b1 : Bool) (x1 : Int) (x2 : Option Addr) (x3 x4 : Nat) (y1 : Int) (y2 : Option Addr) (y3 y4 : Nat), wr.heap[w.heap.size]? = some (.cells #[.bool b1, .int .u64 x1, .slice x2 x3 x4, .int .u64 y1, .slice y2 y3 y4, .bool false, .int .u64 0, .slice none 0 0, .int .u64 0, .slice none 0 0] 42 (0, 0)) ∧ DenR wr (.agg #[.bool b1, .int .u64 x1, .slice x2 x3 x4, .int .u64 y1, .slice y2 y3 y4]) (cneg la) (M.dec (cup la)) (if cslash la then M.dec (clow la) else 0) ∧ Below w.heap.size w wr
def TwoR (w wr : World) (la lb : List UInt8) : Prop := ∃ (b1 : Bool) (x1 : Int) (x2 : Option Addr) (x3 x4 : Nat) (y1 : Int) (y2 : Option Addr) (y3 y4 : Nat) (b2 : Bool) (p1 : Int) (p2 : Option Addr) (p3 p4 : Nat) (r1 : Int) (r2 : Option Addr) (r3 r4 : Nat), wr.heap[w.heap.size]? = some (.cells #[.bool b1, .int .u64 x1, .slice x2 x3 x4, .int .u64 y1, .slice y2 y3 y4, .bool b2, .int .u64 p1, .slice p2 p3 p4, .int .u64 r1, .slice r2 r3 r4] 42 (0, 0)) ∧ DenR wr (.agg #[.bool b1, .int .u64 x1, .slice x2 x3 x4, .int .u64 y1, .slice y2 y3 y4]) (cneg la) (M.dec (cup la)) (if cslash la then M.dec (clow la) else 0) ∧ DenR wr (.agg #[.bool b2, .int .u64 p1, .slice p2 p3 p4, .int .u64 r1, .slice r2 r3 r4]) (cneg lb) (M.dec (cup lb)) (if cslash lb then M.dec (clow lb) else 0) ∧ Below w.heap.size w wr
set_option maxRecDepth 100000 in
set_option maxHeartbeats 4000000 in
theorem parse_two (w : World) (sa sb : ByteArray) (la lb : List UInt8) (ha : sa.data.toList = la) (hb : sb.data.toList = lb) (hla : la.length ≤ 1073741824) (hlb : lb.length ≤ 1073741824) (g cap : Nat) (hc0 : w.cell? ⟨g, 0, none⟩ = some (.string sa)) (hc1 : w.cell? ⟨g, 1, none⟩ = some (.string sb))
    (m : Int) (hM : w.cell? ⟨0, 0, none⟩ = some (.int .i64 m)) (hT : Tab w) (ka kb : Bool) (hka : ka = true ↔ CanT la) (hkb : kb = true ↔ CanT lb) :
    Calls Tryz.prog 30 #[.slice (some ⟨g, 0, none⟩) 2 cap] w fun e w' => (((ka && kb) = true → e = .returned (.tuple #[.slice (some ⟨w.heap.size, 0, none⟩) 2 2, .bool true]) ∧ TwoR w w' la lb) ∧ ((ka && kb) = false → e = .returned (.tuple #[.slice none 0 0, .bool false]))) ∧ Below w.heap.size w w' := by
  have mk := run_make_two w
  obtain ⟨W0, hW0⟩ : ∃ W0, w.alloc (.cells #[.bool false, .int .u64 0, .slice none 0 0, .int .u64 0, .slice none 0 0, .bool false, .int .u64 0, .slice none 0 0, .int .u64 0, .slice none 0 0] 42) = W0 := ⟨_, rfl⟩
  rw [hW0] at mk
  have A0 : Hid (W0.heap[w.heap.size]? = some (.cells #[.bool false, .int .u64 0, .slice none 0 0, .int .u64 0, .slice none 0 0, .bool false, .int .u64 0, .slice none 0 0, .int .u64 0, .slice none 0 0] 42 (0, 0))) := by rw [← hW0]; exact heap_alloc_new w _
  have B0 : Hid (Below w.heap.size w W0) := by rw [← hW0]; exact alloc_below w _
  clear hW0
  have q1 := hide (fun W (b : Below w.heap.size w W) => parse_one W sa la ha hla m (by rw [b.cell (World.block_lt_of_cell? w _ hM)]; exact hM) (hT.below b) ka hka)
  have q2 := hide (fun W (b : Below w.heap.size w W) => parse_one W sb lb hb hlb m (by rw [b.cell (World.block_lt_of_cell? w _ hM)]; exact hM) (hT.below b) kb hkb)
  have c0 := hide (fun W (b : Below w.heap.size w W) => (show W.cell? ⟨g, 0, none⟩ = some (.string sa) by rw [b.cell (World.block_lt_of_cell? w _ hc0)]; exact hc0))
  have c1 := hide (fun W (b : Below w.heap.size w W) => (show W.cell? ⟨g, 1, none⟩ = some (.string sb) by rw [b.cell (World.block_lt_of_cell? w _ hc1)]; exact hc1))
  replace hka := hide hka
  replace hkb := hide hkb
  clear hc0 hc1 hM hT ha hb
  go_enter Tryz.func30, Tryz.ntmps30
  go_wp2
  go_loopw [14] (fun i wr => (i = .int .i64 0 ∧ wr = W0) ∨ (i = .int .i64 1 ∧ ka = true ∧ Hid (OneR w wr la)) ∨ (i = .int .i64 2 ∧ ka = true ∧ kb = true ∧ Hid (TwoR w wr la lb))) (fun i _ => 2 - (intOf i).toNat)
  case atStart => exact .inl ⟨rfl, rfl⟩
  case round =>
    rcases hrel with ⟨rfl, hw⟩ | ⟨rfl, hka1, h1⟩ | ⟨rfl, hka1, hkb1, h2⟩
    · replace hw := hw.symm
      subst hw
      have e0 := c0.out W0 B0.out
      cases ka with
      | false =>
        go_wp2_with (go_at_call 51; refine (q1.out W0 B0.out).mono ?_; rintro e wa ⟨⟨b1, x1, x2, x3, x4, y1, y2, y3, y4, rfl, h1⟩, ba⟩; replace h1 := hide h1; replace ba := hide ba)
        go_ret2
        exact ⟨⟨fun h => by simp at h, fun _ => rfl⟩, (B0.out.then_below ba.out).then_below (alloc_below wa _)⟩
      | true =>
        go_wp2_with (go_at_call 51; refine (q1.out W0 B0.out).mono ?_; rintro e wa ⟨⟨b1, x1, x2, x3, x4, y1, y2, y3, y4, rfl, h1⟩, ba⟩; have A1 := hide (kept_block (kept_block A0.out ba) (alloc_below wa (.cells #[.bool b1, .int .u64 x1, .slice x2 x3 x4, .int .u64 y1, .slice y2 y3 y4] 42))); obtain ⟨⟨z0, z1, z2, z3, z4, z5, z6, z7, z8, z9⟩, f0, f1, f2, f3, f4, f5, f6, f7, f8, f9⟩ := cells10 A1.out; replace h1 := hide ((h1 (hka.out.1 rfl)).below (alloc_below wa (.cells #[.bool b1, .int .u64 x1, .slice x2 x3 x4, .int .u64 y1, .slice y2 y3 y4] 42))); replace ba := hide ((B0.out.then_below ba).then_below (alloc_below wa (.cells #[.bool b1, .int .u64 x1, .slice x2 x3 x4, .int .u64 y1, .slice y2 y3 y4] 42))))
        refine ⟨.inr (.inl ⟨rfl, trivial, ?_⟩), by decide⟩
        have q := set5 (wa.alloc (.cells #[.bool b1, .int .u64 x1, .slice x2 x3 x4, .int .u64 y1, .slice y2 y3 y4] 42)) w.heap.size (.bool b1) (.int .u64 x1) (.slice x2 x3 x4) (.int .u64 y1) (.slice y2 y3 y4)
        exact ⟨b1, x1, x2, x3, x4, y1, y2, y3, y4, lo10 A1.out _ _ _ _ _, h1.out.keep A1.out (nopair10 _ _ _ _ _ _ _ _ _ _ _ _ _ _ _ _ _ _) q, ba.out.then_grown q (by rintro g ⟨⟩; exact Nat.le_refl _)⟩
    · subst hka1
      obtain ⟨b1, x1, x2, x3, x4, y1, y2, y3, y4, o1, o2, o3⟩ := h1.out
      replace o1 := hide o1
      replace o2 := hide o2
      have e1 := c1.out wr o3
      replace o3 := hide o3
      clear h1
      cases kb with
      | false =>
        go_wp2_with (go_at_call 51; refine (q2.out wr o3.out).mono ?_; rintro e wa ⟨⟨b2, p1, p2, p3, p4, r1, r2, r3, r4, rfl, h1⟩, ba⟩; replace h1 := hide h1; replace ba := hide ba)
        go_ret2
        exact ⟨⟨fun h => by simp at h, fun _ => rfl⟩, (o3.out.then_below ba.out).then_below (alloc_below wa _)⟩
      | true =>
        go_wp2_with (go_at_call 51; refine (q2.out wr o3.out).mono ?_; rintro e wa ⟨⟨b2, p1, p2, p3, p4, r1, r2, r3, r4, rfl, h1⟩, ba⟩; have A1 := hide (kept_block (kept_block o1.out ba) (alloc_below wa (.cells #[.bool b2, .int .u64 p1, .slice p2 p3 p4, .int .u64 r1, .slice r2 r3 r4] 42))); obtain ⟨⟨z0, z1, z2, z3, z4, z5, z6, z7, z8, z9⟩, f0, f1, f2, f3, f4, f5, f6, f7, f8, f9⟩ := cells10 A1.out; replace h1 := hide ((h1 (hkb.out.1 rfl)).below (alloc_below wa (.cells #[.bool b2, .int .u64 p1, .slice p2 p3 p4, .int .u64 r1, .slice r2 r3 r4] 42))); replace o2 := hide ((o2.out.below ba).below (alloc_below wa (.cells #[.bool b2, .int .u64 p1, .slice p2 p3 p4, .int .u64 r1, .slice r2 r3 r4] 42))); replace ba := hide ((o3.out.then_below ba).then_below (alloc_below wa (.cells #[.bool b2, .int .u64 p1, .slice p2 p3 p4, .int .u64 r1, .slice r2 r3 r4] 42))))
        refine ⟨.inr (.inr ⟨rfl, trivial, trivial, ?_⟩), by decide⟩
        have q := set5hi (wa.alloc (.cells #[.bool b2, .int .u64 p1, .slice p2 p3 p4, .int .u64 r1, .slice r2 r3 r4] 42)) w.heap.size (.bool b2) (.int .u64 p1) (.slice p2 p3 p4) (.int .u64 r1) (.slice r2 r3 r4)
        exact ⟨b1, x1, x2, x3, x4, y1, y2, y3, y4, b2, p1, p2, p3, p4, r1, r2, r3, r4, hi10 A1.out _ _ _ _ _, o2.out.keep A1.out (nopair10 _ _ _ _ _ _ _ _ _ _ _ _ _ _ _ _ _ _) q, h1.out.keep A1.out (nopair10 _ _ _ _ _ _ _ _ _ _ _ _ _ _ _ _ _ _) q, ba.out.then_grown q (by rintro g ⟨⟩; exact Nat.le_refl _)⟩
    · subst hka1
      subst hkb1
      have hB : Hid (Below w.heap.size w wr) := by
        obtain ⟨b1, x1, x2, x3, x4, y1, y2, y3, y4, b2, p1, p2, p3, p4, r1, r2, r3, r4, -, -, -, h⟩ := h2.out
        exact h
      go_wp2
      go_ret2
      exact ⟨⟨rfl, h2.out⟩, hB.out⟩
end Go.Proofs.YtnpdieolahlpoaaGreatDoor
/- ==== NumReckon ==== -/
namespace Go.Proofs.YtnpdieolahlpoaaGreatDoor
open Go.RowKit
set_option linter.unusedVariables false
theorem lo5 {w : World} {g : Nat} {t : TypeId} {c0 c1 c2 c3 c4 : Value} (h : w.heap[g]? = some (.cells #[c0, c1, c2, c3, c4] t (0, 0))) (a b c d e : Value) :
    (((((w.setCell ⟨g, 0, none⟩ a).setCell ⟨g, 1, none⟩ b).setCell ⟨g, 2, none⟩ c).setCell ⟨g, 3, none⟩ d).setCell ⟨g, 4, none⟩ e).heap[g]? = some (.cells #[a, b, c, d, e] t (0, 0)) := by
  simp only [World.setCell, Array.getElem?_modify, if_pos, h, Option.map_some]
  simp
def Done (w wr : World) (G : Nat) (s : Bool) (n d : Nat) : Prop := ∃ (b : Bool) (x1 : Int) (x2 : Option Addr) (x3 x4 : Nat) (y1 : Int) (y2 : Option Addr) (y3 y4 : Nat), wr.heap[G]? = some (.cells #[.bool b, .int .u64 x1, .slice x2 x3 x4, .int .u64 y1, .slice y2 y3 y4] 42 (0, 0)) ∧ DenR wr (.agg #[.bool b, .int .u64 x1, .slice x2 x3 x4, .int .u64 y1, .slice y2 y3 y4]) s n d ∧ Below w.heap.size w wr
set_option maxRecDepth 100000 in
set_option maxHeartbeats 4000000 in
theorem reckon_no (w : World) (sa sb : ByteArray) (la lb : List UInt8) (ha : sa.data.toList = la) (hb : sb.data.toList = lb) (hla : la.length ≤ 1073741824) (hlb : lb.length ≤ 1073741824) (g cap : Nat) (hc0 : w.cell? ⟨g, 0, none⟩ = some (.string sa)) (hc1 : w.cell? ⟨g, 1, none⟩ = some (.string sb))
    (m : Int) (hM : w.cell? ⟨0, 0, none⟩ = some (.int .i64 m)) (hT : Tab w) (ka kb : Bool) (hka : ka = true ↔ CanT la) (hkb : kb = true ↔ CanT lb) (hk : (ka && kb) = false) :
    Calls Tryz.prog 27 #[.func (.func 33) #[] #[], .slice (some ⟨g, 0, none⟩) 2 cap] w fun e w' => e = .returned (.tuple #[.string ⟨#[]⟩, .int .i64 1]) ∧ Below w.heap.size w w' := by
  have q1 := hide ((parse_two w sa sb la lb ha hb hla hlb g cap hc0 hc1 m hM hT ka kb hka hkb).mono (fun e w' ⟨⟨_, h2⟩, h3⟩ => (⟨h2 hk, h3⟩ : e = Ending.returned (.tuple #[.slice none 0 0, .bool false]) ∧ Below w.heap.size w w')))
  clear hka hkb hk ha hb hc0 hc1 hM hT
  go_enter Tryz.func27, Tryz.ntmps27
  go_wp2_with (go_at_call 30; (with_reducible refine q1.out.mono ?_); rintro e w1 ⟨rfl, b1⟩; replace b1 := hide b1)
  go_ret2
  exact ⟨rfl, b1.out⟩
set_option maxRecDepth 100000 in
set_option maxHeartbeats 4000000 in
theorem reckon_yes (w : World) (sa sb : ByteArray) (la lb : List UInt8) (ha : sa.data.toList = la) (hb : sb.data.toList = lb) (hla : la.length ≤ 1073741824) (hlb : lb.length ≤ 1073741824) (g cap : Nat) (hc0 : w.cell? ⟨g, 0, none⟩ = some (.string sa)) (hc1 : w.cell? ⟨g, 1, none⟩ = some (.string sb))
    (m : Int) (hM : w.cell? ⟨0, 0, none⟩ = some (.int .i64 m)) (hT : Tab w) (hP : Pows w) (hca : CanT la) (hcb : CanT lb) (s : Bool) (n d K : Nat) (hn : (n : Int) < M.BB ^ K) (hd : (d : Int) < M.BB ^ K) (hK : K ≤ 54975581388)
    (step : ∀ W va vb, DenR W va (cneg la) (M.dec (cup la)) (if cslash la then M.dec (clow la) else 0) → DenR W vb (cneg lb) (M.dec (cup lb)) (if cslash lb then M.dec (clow lb) else 0) → Tab W → Calls Tryz.prog 33 #[va, vb] W fun e w' => (∃ r, e = .returned r ∧ DenR w' r s n d) ∧ Below W.heap.size W w') :
    Calls Tryz.prog 27 #[.func (.func 33) #[] #[], .slice (some ⟨g, 0, none⟩) 2 cap] w fun e w' => e = .returned (.tuple #[.string ⟨(ratText s n d).toArray⟩, .int .i64 0]) ∧ Below w.heap.size w w' := by
  have q1 := hide ((parse_two w sa sb la lb ha hb hla hlb g cap hc0 hc1 m hM hT true true ⟨fun _ => hca, fun _ => rfl⟩ ⟨fun _ => hcb, fun _ => rfl⟩).mono (fun e w' ⟨⟨h1, _⟩, h3⟩ => (⟨h1 rfl, h3⟩ : (e = Ending.returned (.tuple #[.slice (some ⟨w.heap.size, 0, none⟩) 2 2, .bool true]) ∧ TwoR w w' la lb) ∧ Below w.heap.size w w')))
  have TT := hide hT
  have PP := hide hP
  have ST := hide step
  replace hn := hide hn
  replace hd := hide hd
  clear ha hb hc0 hc1 hM hT hP hca hcb step
  go_enter Tryz.func27, Tryz.ntmps27
  go_wp2_with (go_at_call 30; (with_reducible refine q1.out.mono ?_); rintro e w1 ⟨⟨rfl, h1⟩, b1_1⟩; obtain ⟨b1, x1, x2, x3, x4, y1, y2, y3, y4, b2, p1, p2, p3, p4, r1, r2, r3, r4, A1, da, db, B1⟩ := h1; obtain ⟨⟨z0, z1, z2, z3, z4, z5, z6, z7, z8, z9⟩, -⟩ := cells10 A1; replace A1 := hide A1; replace da := hide da; replace db := hide db; replace B1 := hide B1)
  obtain ⟨W2, hW2⟩ : ∃ W2, w1.alloc (.cells #[.bool b1, .int .u64 x1, .slice x2 x3 x4, .int .u64 y1, .slice y2 y3 y4] 42) = W2 := ⟨_, rfl⟩
  have bA : Below w1.heap.size w1 W2 := by rw [← hW2]; exact alloc_below w1 _
  have P2 : Hid (W2.heap[w1.heap.size]? = some (.cells #[.bool b1, .int .u64 x1, .slice x2 x3 x4, .int .u64 y1, .slice y2 y3 y4] 42 (0, 0))) := by rw [← hW2]; exact heap_alloc_new w1 _
  have A2 := hide (kept_block A1.out bA)
  have DA := hide (da.out.below bA)
  have DB := hide (db.out.below bA)
  have B2 := hide (B1.out.then_below bA)
  have hG : w.heap.size ≤ w1.heap.size := B1.out.size
  clear z0 z1 z2 z3 z4 z5 z6 z7 z8 z9 bA da db A1 b1_1
  rw [hW2]
  clear hW2
  generalize w1.heap.size = G at *
  go_loopw [24] (fun i wr => (i = .int .i64 0 ∧ wr = W2) ∨ (i = .int .i64 1 ∧ Hid (Done w wr G s n d))) (fun i _ => 2 - (intOf i).toNat)
  case atStart => exact .inl ⟨rfl, rfl⟩
  case round =>
    rcases hrel with ⟨rfl, hw⟩ | ⟨rfl, h1⟩
    · replace hw := hw.symm
      subst hw
      obtain ⟨⟨z0, z1, z2, z3, z4, z5, z6, z7, z8, z9⟩, -⟩ := cells10 A2.out
      have bB := alloc_below W2 (.cells #[.bool b2, .int .u64 p1, .slice p2 p3 p4, .int .u64 r1, .slice r2 r3 r4] 42)
      have P3 := hide (kept_block P2.out bB)
      obtain ⟨⟨v0, v1, v2, v3, v4⟩, -⟩ := ratBox P3.out
      have DA3 := hide (DA.out.below bB)
      have DB3 := hide (DB.out.below bB)
      have B3 := hide (B2.out.then_below bB)
      have T3 := hide (TT.out.below B3.out)
      clear bB
      go_wp2_with (go_at_call 33; refine (ST.out _ _ _ DA3.out DB3.out T3.out).mono ?_; rintro e wa ⟨⟨r, rfl, hr⟩, ba⟩; obtain ⟨e1, e2, e3, e4, g1, g2, g3, g4, rfl, m1, m2⟩ := hr; have P4 := hide (kept_block P3.out ba); obtain ⟨⟨t0, t1, t2, t3, t4⟩, f0, f1, f2, f3, f4⟩ := ratBox P4.out; replace m1 := hide m1; replace m2 := hide m2; replace ba := hide (B3.out.then_below ba))
      refine ⟨.inr ⟨rfl, ?_⟩, by decide⟩
      have q := set5 wa G (.bool s) (.int .u64 e1) (.slice e2 e3 e4) (.int .u64 g1) (.slice g2 g3 g4)
      exact ⟨s, e1, e2, e3, e4, g1, g2, g3, g4, lo5 P4.out _ _ _ _ _, DenR.make m1.out m2.out P4.out (nopair5 _ _ _ _ _ _ _ _ _) q, ba.out.then_grown q (by rintro g ⟨⟩; exact hG)⟩
    · obtain ⟨c0, e1, e2, e3, e4, g1, g2, g3, g4, o1, o2, o3⟩ := h1.out
      obtain ⟨⟨v0, v1, v2, v3, v4⟩, -⟩ := ratBox o1
      have P5 := hide (PP.out.below o3)
      replace o1 := hide o1
      replace o2 := hide o2
      replace o3 := hide o3
      go_wp2_with (go_at_call 25; refine (ratText_calls _ _ s n d K o2.out hn.out hd.out hK P5.out).mono ?_; rintro e wd ⟨rfl, bd⟩; replace bd := hide bd)
      go_ret2
      exact ⟨rfl, o3.out.then_below bd.out⟩
end Go.Proofs.YtnpdieolahlpoaaGreatDoor
