/- Laid together of: RatLower, NumParse, NumReckon, RatBoxes, RatSigned, RatNeg. -/
import Derived.Test.YtlepicdpelkmlaaGreatDoorAll8
import Derived.Test.YtlepicdpelkmlaaGreatDoorMulA
import Derived.Test.YtlepicdpelkmlaaGreatDoorAll7
import Derived.Deep.RegionWith
import Derived.Deep.DeepCutAuto
import Derived.Deep.RegionHeld3
import Derived.Test.YtlepicdpelkmlaaGreatDoorAll5
import Derived.Test.YtlepicdpelkmlaaGreatDoorQAll
/- ==== RatLower ==== -/
namespace Go.Proofs.YtlepicdpelkmlaaGreatDoor
open Go.RowKit
set_option linter.unusedVariables false
set_option maxRecDepth 100000 in
set_option maxHeartbeats 4000000 in
theorem lower_calls (w : World) (v : Value) (neg : Bool) (n d : Nat) (h : DenR w v neg n d) :
    Calls Tryz.prog 60 #[v] w fun e w' => (∃ r, e = .returned r ∧ Den w' r (if d = 0 then 1 else d)) ∧ Below w.heap.size w w' := by
  have h' := h
  obtain ⟨x1, x2, x3, x4, y1, y2, y3, y4, rfl, h1, h2⟩ := h
  obtain ⟨X1, Y1, -⟩ := two_new w (.cells #[.bool neg, .int .u64 x1, .slice x2 x3 x4, .int .u64 y1, .slice y2 y3 y4] 92) (.cells #[.int .u64 0, .slice none 0 0] 90)
  have B0 := alloc2_below w (.cells #[.bool neg, .int .u64 x1, .slice x2 x3 x4, .int .u64 y1, .slice y2 y3 y4] 92) (.cells #[.int .u64 0, .slice none 0 0] 90)
  have q1 := hide (isWhole_calls _ _ neg n d (h'.below B0))
  have D2 := hide (h2.below B0)
  replace X1 := hide X1
  replace Y1 := hide Y1
  replace B0 := hide B0
  clear h' h1 h2
  by_cases hd : d = 0
  · rw [decide_eq_true hd] at q1
    rw [if_pos hd]
    clear hd
    go_enter Tryz.func60, Tryz.ntmps60
    go_wp2_with (first
      | (go_at_call 62; refine q1.out.mono ?_; rintro e wa ⟨rfl, ba⟩; replace ba := hide ba)
      | (go_at_call 81; refine (word_calls _ 1 (by decide)).mono ?_; rintro e wb ⟨rfl, bb⟩; have Y2 := hide (kept_block Y1.out (ba.out.then_below bb)); obtain ⟨z0, z1, f0, f1⟩ := box_facts Y2.out; replace bb := hide bb))
    refine bodyPost_ret (v := .agg #[.int .u64 1, .slice none 0 0]) (by simp [results, Tryz.results60, go_sem, z0, z1]) rfl ?_
    exact ⟨⟨_, rfl, den_word _ 1 (by decide)⟩, ((B0.out.then_below ba.out).then_below bb.out).then_grown (box_grown _ _ _ _) (by rintro g ⟨⟩; omega)⟩
  · rw [decide_eq_false hd] at q1
    rw [if_neg hd]
    clear hd
    go_enter Tryz.func60, Tryz.ntmps60
    go_wp2_with (go_at_call 62; refine q1.out.mono ?_; rintro e wa ⟨rfl, ba⟩; obtain ⟨⟨t0, t1, t2, t3, t4⟩, -⟩ := ratBox (kept_block X1.out ba); have Y2 := hide (kept_block Y1.out ba); obtain ⟨z0, z1, f0, f1⟩ := box_facts Y2.out; replace ba := hide ba)
    refine bodyPost_ret (v := .agg #[.int .u64 y1, .slice y2 y3 y4]) (by simp [results, Tryz.results60, go_sem, z0, z1]) rfl ?_
    have dd := D2.out.below ba.out
    have q := box_grown wa (w.heap.size + 1) (.int .u64 y1) (.slice y2 y3 y4)
    exact ⟨⟨_, rfl, dd.kept q (dd.notin (nopair2 _ _ _ _) Y2.out)⟩, (B0.out.then_below ba.out).then_grown q (by rintro g ⟨⟩; omega)⟩
set_option maxRecDepth 100000 in
set_option maxHeartbeats 4000000 in
theorem psign_calls (w : World) (v : Value) (neg : Bool) (n d : Nat) (h : DenR w v neg n d) :
    Calls Tryz.prog 40 #[v] w fun e w' => e = .returned (.int .i64 (if neg then -1 else if n = 0 then 0 else 1)) ∧ Below w.heap.size w w' := by
  obtain ⟨x1, x2, x3, x4, y1, y2, y3, y4, rfl, h1, h2⟩ := h
  have B0 := hide (alloc_below w (.cells #[.bool neg, .int .u64 x1, .slice x2 x3 x4, .int .u64 y1, .slice y2 y3 y4] 92))
  have q1 := hide (isZero_calls _ _ n (h1.below B0.out))
  replace h1 := hide h1
  replace h2 := hide h2
  cases neg with
  | true =>
    go_enter Tryz.func40, Tryz.ntmps40
    go_wp2
    go_ret
    exact ⟨rfl, B0.out⟩
  | false =>
    by_cases hn : n = 0
    · rw [decide_eq_true hn] at q1
      rw [if_neg (by simp), if_pos hn]
      clear hn
      go_enter Tryz.func40, Tryz.ntmps40
      go_wp2_with (go_at_call 57; refine q1.out.mono ?_; rintro e w1 ⟨rfl, b1⟩; replace b1 := hide b1)
      go_ret
      exact ⟨rfl, B0.out.then_below b1.out⟩
    · rw [decide_eq_false hn] at q1
      rw [if_neg (by simp), if_neg hn]
      clear hn
      go_enter Tryz.func40, Tryz.ntmps40
      go_wp2_with (go_at_call 57; refine q1.out.mono ?_; rintro e w1 ⟨rfl, b1⟩; replace b1 := hide b1)
      go_ret
      exact ⟨rfl, B0.out.then_below b1.out⟩
end Go.Proofs.YtlepicdpelkmlaaGreatDoor
/- ==== NumParse ==== -/
namespace Go.Proofs.YtlepicdpelkmlaaGreatDoor
open Go.RowKit
set_option linter.unusedVariables false
theorem infoRat : (Tryz.prog.info? 92).map (fun i => (i.zero, i.size, i.bytes)) = some (some (.agg #[.bool false, .int .u64 0, .slice none 0 0, .int .u64 0, .slice none 0 0]), 5, 72) := by kernel_rfl
theorem sliceRat : Tryz.prog.underlying 93 = some (.slice 92) := by kernel_rfl
theorem run_make_two (w : World) : (Instr.makeSlice 93 (.int .i64 2) (.int .i64 2)).run Tryz.prog w = .ok (.slice (some ⟨w.heap.size, 0, none⟩) 2 2) (w.alloc (.cells #[.bool false, .int .u64 0, .slice none 0 0, .int .u64 0, .slice none 0 0, .bool false, .int .u64 0, .slice none 0 0, .int .u64 0, .slice none 0 0] 92)) := by
  obtain ⟨i, hi, hz0, hz1, hz2⟩ := info_parts infoRat
  have hrun := run_make (P := Tryz.prog) w 93 92 i (.agg #[.bool false, .int .u64 0, .slice none 0 0, .int .u64 0, .slice none 0 0]) sliceRat hi hz0 .i64 .i64 2 2 (by omega) (Int.le_refl _) (by rw [hz2]; decide) (by decide)
  rw [hz1] at hrun
  refine hrun.trans ?_
  kernel_rfl
theorem nopair10 (b : Bool) (x1 : Int) (x2 : Option Addr) (x3 x4 : Nat) (y1 : Int) (y2 : Option Addr) (y3 y4 : Nat) (c : Bool) (z1 : Int) (z2 : Option Addr) (z3 z4 : Nat) (t1 : Int) (t2 : Option Addr) (t3 t4 : Nat) : NoPair #[.bool b, .int .u64 x1, .slice x2 x3 x4, .int .u64 y1, .slice y2 y3 y4, .bool c, .int .u64 z1, .slice z2 z3 z4, .int .u64 t1, .slice t2 t3 t4] := by
  intro j x y h1 h2
  match j with
  | 0 => simp at h1
  | 1 => simp at h2
  | 2 => simp at h1
  | 3 => simp at h2
  | 4 => simp at h1
  | 5 => simp at h1
  | 6 => simp at h2
  | 7 => simp at h1
  | 8 => simp at h2
  | 9 => simp at h1
  | j + 10 => simp at h1
theorem set5at (w : World) (g o : Nat) (a b c d e : Value) : w.grownBy (((((w.setCell ⟨g, o, none⟩ a).setCell ⟨g, o + 1, none⟩ b).setCell ⟨g, o + 2, none⟩ c).setCell ⟨g, o + 3, none⟩ d).setCell ⟨g, o + 4, none⟩ e) (some g) :=
  grown_trans (grown_trans (grown_trans (grown_trans (grown_set _ _ _ _) (grown_set _ _ _ _)) (grown_set _ _ _ _)) (grown_set _ _ _ _)) (grown_set _ _ _ _)
theorem lo10 {w : World} {g : Nat} {t : TypeId} {c0 c1 c2 c3 c4 c5 c6 c7 c8 c9 : Value} (h : w.heap[g]? = some (.cells #[c0, c1, c2, c3, c4, c5, c6, c7, c8, c9] t (0, 0))) (a b c d e : Value) :
    (((((w.setCell ⟨g, 0, none⟩ a).setCell ⟨g, 1, none⟩ b).setCell ⟨g, 2, none⟩ c).setCell ⟨g, 3, none⟩ d).setCell ⟨g, 4, none⟩ e).heap[g]? = some (.cells #[a, b, c, d, e, c5, c6, c7, c8, c9] t (0, 0)) := by
  simp only [World.setCell, Array.getElem?_modify, if_pos, h, Option.map_some]
  simp
theorem hi10 {w : World} {g : Nat} {t : TypeId} {c0 c1 c2 c3 c4 c5 c6 c7 c8 c9 : Value} (h : w.heap[g]? = some (.cells #[c0, c1, c2, c3, c4, c5, c6, c7, c8, c9] t (0, 0))) (a b c d e : Value) :
    (((((w.setCell ⟨g, 5, none⟩ a).setCell ⟨g, 6, none⟩ b).setCell ⟨g, 7, none⟩ c).setCell ⟨g, 8, none⟩ d).setCell ⟨g, 9, none⟩ e).heap[g]? = some (.cells #[c0, c1, c2, c3, c4, a, b, c, d, e] t (0, 0)) := by
  simp only [World.setCell, Array.getElem?_modify, if_pos, h, Option.map_some]
  simp
theorem row10 {w : World} {g : Nat} {t : TypeId} {cs : Array Value} (h : w.heap[g]? = some (.cells cs t (0, 0))) (j : Nat) : w.frozen? ⟨g, j, none⟩ = false := by
  simp [World.frozen?, h]
theorem cells10 {w : World} {g : Nat} {t : TypeId} {c0 c1 c2 c3 c4 c5 c6 c7 c8 c9 : Value} (h : w.heap[g]? = some (.cells #[c0, c1, c2, c3, c4, c5, c6, c7, c8, c9] t (0, 0))) :
    (w.cell? ⟨g, 0, none⟩ = some c0 ∧ w.cell? ⟨g, 1, none⟩ = some c1 ∧ w.cell? ⟨g, 2, none⟩ = some c2 ∧ w.cell? ⟨g, 3, none⟩ = some c3 ∧ w.cell? ⟨g, 4, none⟩ = some c4 ∧ w.cell? ⟨g, 5, none⟩ = some c5 ∧ w.cell? ⟨g, 6, none⟩ = some c6 ∧ w.cell? ⟨g, 7, none⟩ = some c7 ∧ w.cell? ⟨g, 8, none⟩ = some c8 ∧ w.cell? ⟨g, 9, none⟩ = some c9) ∧ (w.frozen? ⟨g, 0, none⟩ = false ∧ w.frozen? ⟨g, 1, none⟩ = false ∧ w.frozen? ⟨g, 2, none⟩ = false ∧ w.frozen? ⟨g, 3, none⟩ = false ∧ w.frozen? ⟨g, 4, none⟩ = false ∧ w.frozen? ⟨g, 5, none⟩ = false ∧ w.frozen? ⟨g, 6, none⟩ = false ∧ w.frozen? ⟨g, 7, none⟩ = false ∧ w.frozen? ⟨g, 8, none⟩ = false ∧ w.frozen? ⟨g, 9, none⟩ = false) := by
  refine ⟨⟨?_, ?_, ?_, ?_, ?_, ?_, ?_, ?_, ?_, ?_⟩, ⟨row10 h 0, row10 h 1, row10 h 2, row10 h 3, row10 h 4, row10 h 5, row10 h 6, row10 h 7, row10 h 8, row10 h 9⟩⟩
  · rw [cell_of_row _ _ 0 _ _ (0, 0) h]; rfl
  · rw [cell_of_row _ _ 1 _ _ (0, 0) h]; rfl
  · rw [cell_of_row _ _ 2 _ _ (0, 0) h]; rfl
  · rw [cell_of_row _ _ 3 _ _ (0, 0) h]; rfl
  · rw [cell_of_row _ _ 4 _ _ (0, 0) h]; rfl
  · rw [cell_of_row _ _ 5 _ _ (0, 0) h]; rfl
  · rw [cell_of_row _ _ 6 _ _ (0, 0) h]; rfl
  · rw [cell_of_row _ _ 7 _ _ (0, 0) h]; rfl
  · rw [cell_of_row _ _ 8 _ _ (0, 0) h]; rfl
  · rw [cell_of_row _ _ 9 _ _ (0, 0) h]; rfl
theorem DenR.keep {w w' : World} {v : Value} {neg : Bool} {n d g : Nat} {cs : Array Value} {t : TypeId} (h : DenR w v neg n d) (hg : w.heap[g]? = some (.cells cs t (0, 0))) (hn : NoPair cs) (q : w.grownBy w' (some g)) : DenR w' v neg n d := by
  obtain ⟨x1, x2, x3, x4, y1, y2, y3, y4, rfl, h1, h2⟩ := h
  exact DenR.make h1 h2 hg hn q
theorem set5hi (w : World) (g : Nat) (a b c d e : Value) : w.grownBy (((((w.setCell ⟨g, 5, none⟩ a).setCell ⟨g, 6, none⟩ b).setCell ⟨g, 7, none⟩ c).setCell ⟨g, 8, none⟩ d).setCell ⟨g, 9, none⟩ e) (some g) := set5at w g 5 a b c d e
/-- rat.Parse, in one form for both answers. -/
theorem parse_one (w : World) (s : ByteArray) (l : List UInt8) (hs : s.data.toList = l) (hl : l.length ≤ 1073741824) (m : Int) (hM : w.cell? ⟨3, 0, none⟩ = some (.int .i64 m)) (hT : Tab w) (k : Bool) (hk : k = true ↔ CanT l) :
    Calls Tryz.prog 56 #[.string s] w fun e w' => (∃ b x1 x2 x3 x4 y1 y2 y3 y4, e = .returned (.tuple #[.agg #[.bool b, .int .u64 x1, .slice x2 x3 x4, .int .u64 y1, .slice y2 y3 y4], .bool k]) ∧ (CanT l → DenR w' (.agg #[.bool b, .int .u64 x1, .slice x2 x3 x4, .int .u64 y1, .slice y2 y3 y4]) (cneg l) (M.dec (cup l)) (if cslash l then M.dec (clow l) else 0))) ∧ Below w.heap.size w w' := by
  refine (parse_calls w s l hs hl m hM hT).mono ?_
  rintro e w' ⟨⟨h1, h2⟩, h3⟩
  refine ⟨?_, h3⟩
  by_cases hc : CanT l
  · obtain ⟨v, rfl, hr⟩ := h1 hc
    obtain rfl : k = true := hk.2 hc
    have hr' := hr
    obtain ⟨x1, x2, x3, x4, y1, y2, y3, y4, rfl, -, -⟩ := hr
    exact ⟨cneg l, x1, x2, x3, x4, y1, y2, y3, y4, rfl, fun _ => hr'⟩
  · obtain rfl : k = false := by
      cases k with
      | false => rfl
      | true => exact absurd (hk.1 rfl) hc
    exact ⟨false, 0, none, 0, 0, 0, none, 0, 0, h2 hc, fun h => absurd h hc⟩
def OneR (w wr : World) (la : List UInt8) : Prop := ∃ (b1 : Bool) (x1 : Int) (x2 : Option Addr) (x3 x4 : Nat) (y1 : Int) (y2 : Option Addr) (y3 y4 : Nat), wr.heap[w.heap.size]? = some (.cells #[.bool b1, .int .u64 x1, .slice x2 x3 x4, .int .u64 y1, .slice y2 y3 y4, .bool false, .int .u64 0, .slice none 0 0, .int .u64 0, .slice none 0 0] 92 (0, 0)) ∧ DenR wr (.agg #[.bool b1, .int .u64 x1, .slice x2 x3 x4, .int .u64 y1, .slice y2 y3 y4]) (cneg la) (M.dec (cup la)) (if cslash la then M.dec (clow la) else 0) ∧ Below w.heap.size w wr
def TwoR (w wr : World) (la lb : List UInt8) : Prop := ∃ (b1 : Bool) (x1 : Int) (x2 : Option Addr) (x3 x4 : Nat) (y1 : Int) (y2 : Option Addr) (y3 y4 : Nat) (b2 : Bool) (p1 : Int) (p2 : Option Addr) (p3 p4 : Nat) (r1 : Int) (r2 : Option Addr) (r3 r4 : Nat), wr.heap[w.heap.size]? = some (.cells #[.bool b1, .int .u64 x1, .slice x2 x3 x4, .int .u64 y1, .slice y2 y3 y4, .bool b2, .int .u64 p1, .slice p2 p3 p4, .int .u64 r1, .slice r2 r3 r4] 92 (0, 0)) ∧ DenR wr (.agg #[.bool b1, .int .u64 x1, .slice x2 x3 x4, .int .u64 y1, .slice y2 y3 y4]) (cneg la) (M.dec (cup la)) (if cslash la then M.dec (clow la) else 0) ∧ DenR wr (.agg #[.bool b2, .int .u64 p1, .slice p2 p3 p4, .int .u64 r1, .slice r2 r3 r4]) (cneg lb) (M.dec (cup lb)) (if cslash lb then M.dec (clow lb) else 0) ∧ Below w.heap.size w wr
set_option maxRecDepth 100000 in
set_option maxHeartbeats 4000000 in
theorem parse_two (w : World) (sa sb : ByteArray) (la lb : List UInt8) (ha : sa.data.toList = la) (hb : sb.data.toList = lb) (hla : la.length ≤ 1073741824) (hlb : lb.length ≤ 1073741824) (g cap : Nat) (hc0 : w.cell? ⟨g, 0, none⟩ = some (.string sa)) (hc1 : w.cell? ⟨g, 1, none⟩ = some (.string sb))
    (m : Int) (hM : w.cell? ⟨3, 0, none⟩ = some (.int .i64 m)) (hT : Tab w) (ka kb : Bool) (hka : ka = true ↔ CanT la) (hkb : kb = true ↔ CanT lb) :
    Calls Tryz.prog 39 #[.slice (some ⟨g, 0, none⟩) 2 cap] w fun e w' => (((ka && kb) = true → e = .returned (.tuple #[.slice (some ⟨w.heap.size, 0, none⟩) 2 2, .bool true]) ∧ TwoR w w' la lb) ∧ ((ka && kb) = false → e = .returned (.tuple #[.slice none 0 0, .bool false]))) ∧ Below w.heap.size w w' := by
  have mk := run_make_two w
  obtain ⟨W0, hW0⟩ : ∃ W0, w.alloc (.cells #[.bool false, .int .u64 0, .slice none 0 0, .int .u64 0, .slice none 0 0, .bool false, .int .u64 0, .slice none 0 0, .int .u64 0, .slice none 0 0] 92) = W0 := ⟨_, rfl⟩
  rw [hW0] at mk
  have A0 : Hid (W0.heap[w.heap.size]? = some (.cells #[.bool false, .int .u64 0, .slice none 0 0, .int .u64 0, .slice none 0 0, .bool false, .int .u64 0, .slice none 0 0, .int .u64 0, .slice none 0 0] 92 (0, 0))) := by rw [← hW0]; exact heap_alloc_new w _
  have B0 : Hid (Below w.heap.size w W0) := by rw [← hW0]; exact alloc_below w _
  clear hW0
  have q1 := hide (fun W (b : Below w.heap.size w W) => parse_one W sa la ha hla m (by rw [b.cell (World.block_lt_of_cell? w _ hM)]; exact hM) (hT.below b) ka hka)
  have q2 := hide (fun W (b : Below w.heap.size w W) => parse_one W sb lb hb hlb m (by rw [b.cell (World.block_lt_of_cell? w _ hM)]; exact hM) (hT.below b) kb hkb)
  have c0 := hide (fun W (b : Below w.heap.size w W) => (show W.cell? ⟨g, 0, none⟩ = some (.string sa) by rw [b.cell (World.block_lt_of_cell? w _ hc0)]; exact hc0))
  have c1 := hide (fun W (b : Below w.heap.size w W) => (show W.cell? ⟨g, 1, none⟩ = some (.string sb) by rw [b.cell (World.block_lt_of_cell? w _ hc1)]; exact hc1))
  replace hka := hide hka
  replace hkb := hide hkb
  clear hc0 hc1 hM hT ha hb
  go_enter Tryz.func39, Tryz.ntmps39
  go_wp2
  go_loopw [14] (fun i wr => (i = .int .i64 0 ∧ wr = W0) ∨ (i = .int .i64 1 ∧ ka = true ∧ Hid (OneR w wr la)) ∨ (i = .int .i64 2 ∧ ka = true ∧ kb = true ∧ Hid (TwoR w wr la lb))) (fun i _ => 2 - (intOf i).toNat)
  case atStart => exact .inl ⟨rfl, rfl⟩
  case round =>
    rcases hrel with ⟨rfl, hw⟩ | ⟨rfl, hka1, h1⟩ | ⟨rfl, hka1, hkb1, h2⟩
    · replace hw := hw.symm
      subst hw
      have e0 := c0.out W0 B0.out
      cases ka with
      | false =>
        go_wp2_with (go_at_call 56; refine (q1.out W0 B0.out).mono ?_; rintro e wa ⟨⟨b1, x1, x2, x3, x4, y1, y2, y3, y4, rfl, h1⟩, ba⟩; replace h1 := hide h1; replace ba := hide ba)
        go_ret2
        exact ⟨⟨fun h => by simp at h, fun _ => rfl⟩, (B0.out.then_below ba.out).then_below (alloc_below wa _)⟩
      | true =>
        go_wp2_with (go_at_call 56; refine (q1.out W0 B0.out).mono ?_; rintro e wa ⟨⟨b1, x1, x2, x3, x4, y1, y2, y3, y4, rfl, h1⟩, ba⟩; have A1 := hide (kept_block (kept_block A0.out ba) (alloc_below wa (.cells #[.bool b1, .int .u64 x1, .slice x2 x3 x4, .int .u64 y1, .slice y2 y3 y4] 92))); obtain ⟨⟨z0, z1, z2, z3, z4, z5, z6, z7, z8, z9⟩, f0, f1, f2, f3, f4, f5, f6, f7, f8, f9⟩ := cells10 A1.out; replace h1 := hide ((h1 (hka.out.1 rfl)).below (alloc_below wa (.cells #[.bool b1, .int .u64 x1, .slice x2 x3 x4, .int .u64 y1, .slice y2 y3 y4] 92))); replace ba := hide ((B0.out.then_below ba).then_below (alloc_below wa (.cells #[.bool b1, .int .u64 x1, .slice x2 x3 x4, .int .u64 y1, .slice y2 y3 y4] 92))))
        refine ⟨.inr (.inl ⟨rfl, trivial, ?_⟩), by decide⟩
        have q := set5 (wa.alloc (.cells #[.bool b1, .int .u64 x1, .slice x2 x3 x4, .int .u64 y1, .slice y2 y3 y4] 92)) w.heap.size (.bool b1) (.int .u64 x1) (.slice x2 x3 x4) (.int .u64 y1) (.slice y2 y3 y4)
        exact ⟨b1, x1, x2, x3, x4, y1, y2, y3, y4, lo10 A1.out _ _ _ _ _, h1.out.keep A1.out (nopair10 _ _ _ _ _ _ _ _ _ _ _ _ _ _ _ _ _ _) q, ba.out.then_grown q (by rintro g ⟨⟩; exact Nat.le_refl _)⟩
    · subst hka1
      obtain ⟨b1, x1, x2, x3, x4, y1, y2, y3, y4, o1, o2, o3⟩ := h1.out
      replace o1 := hide o1
      replace o2 := hide o2
      have e1 := c1.out wr o3
      replace o3 := hide o3
      clear h1
      cases kb with
      | false =>
        go_wp2_with (go_at_call 56; refine (q2.out wr o3.out).mono ?_; rintro e wa ⟨⟨b2, p1, p2, p3, p4, r1, r2, r3, r4, rfl, h1⟩, ba⟩; replace h1 := hide h1; replace ba := hide ba)
        go_ret2
        exact ⟨⟨fun h => by simp at h, fun _ => rfl⟩, (o3.out.then_below ba.out).then_below (alloc_below wa _)⟩
      | true =>
        go_wp2_with (go_at_call 56; refine (q2.out wr o3.out).mono ?_; rintro e wa ⟨⟨b2, p1, p2, p3, p4, r1, r2, r3, r4, rfl, h1⟩, ba⟩; have A1 := hide (kept_block (kept_block o1.out ba) (alloc_below wa (.cells #[.bool b2, .int .u64 p1, .slice p2 p3 p4, .int .u64 r1, .slice r2 r3 r4] 92))); obtain ⟨⟨z0, z1, z2, z3, z4, z5, z6, z7, z8, z9⟩, f0, f1, f2, f3, f4, f5, f6, f7, f8, f9⟩ := cells10 A1.out; replace h1 := hide ((h1 (hkb.out.1 rfl)).below (alloc_below wa (.cells #[.bool b2, .int .u64 p1, .slice p2 p3 p4, .int .u64 r1, .slice r2 r3 r4] 92))); replace o2 := hide ((o2.out.below ba).below (alloc_below wa (.cells #[.bool b2, .int .u64 p1, .slice p2 p3 p4, .int .u64 r1, .slice r2 r3 r4] 92))); replace ba := hide ((o3.out.then_below ba).then_below (alloc_below wa (.cells #[.bool b2, .int .u64 p1, .slice p2 p3 p4, .int .u64 r1, .slice r2 r3 r4] 92))))
        refine ⟨.inr (.inr ⟨rfl, trivial, trivial, ?_⟩), by decide⟩
        have q := set5hi (wa.alloc (.cells #[.bool b2, .int .u64 p1, .slice p2 p3 p4, .int .u64 r1, .slice r2 r3 r4] 92)) w.heap.size (.bool b2) (.int .u64 p1) (.slice p2 p3 p4) (.int .u64 r1) (.slice r2 r3 r4)
        exact ⟨b1, x1, x2, x3, x4, y1, y2, y3, y4, b2, p1, p2, p3, p4, r1, r2, r3, r4, hi10 A1.out _ _ _ _ _, o2.out.keep A1.out (nopair10 _ _ _ _ _ _ _ _ _ _ _ _ _ _ _ _ _ _) q, h1.out.keep A1.out (nopair10 _ _ _ _ _ _ _ _ _ _ _ _ _ _ _ _ _ _) q, ba.out.then_grown q (by rintro g ⟨⟩; exact Nat.le_refl _)⟩
    · subst hka1
      subst hkb1
      have hB : Hid (Below w.heap.size w wr) := by
        obtain ⟨b1, x1, x2, x3, x4, y1, y2, y3, y4, b2, p1, p2, p3, p4, r1, r2, r3, r4, -, -, -, h⟩ := h2.out
        exact h
      go_wp2
      go_ret2
      exact ⟨⟨rfl, h2.out⟩, hB.out⟩
end Go.Proofs.YtlepicdpelkmlaaGreatDoor
/- ==== NumReckon ==== -/
namespace Go.Proofs.YtlepicdpelkmlaaGreatDoor
open Go.RowKit
set_option linter.unusedVariables false
theorem lo5 {w : World} {g : Nat} {t : TypeId} {c0 c1 c2 c3 c4 : Value} (h : w.heap[g]? = some (.cells #[c0, c1, c2, c3, c4] t (0, 0))) (a b c d e : Value) :
    (((((w.setCell ⟨g, 0, none⟩ a).setCell ⟨g, 1, none⟩ b).setCell ⟨g, 2, none⟩ c).setCell ⟨g, 3, none⟩ d).setCell ⟨g, 4, none⟩ e).heap[g]? = some (.cells #[a, b, c, d, e] t (0, 0)) := by
  simp only [World.setCell, Array.getElem?_modify, if_pos, h, Option.map_some]
  simp
def Done (w wr : World) (G : Nat) (s : Bool) (n d : Nat) : Prop := ∃ (b : Bool) (x1 : Int) (x2 : Option Addr) (x3 x4 : Nat) (y1 : Int) (y2 : Option Addr) (y3 y4 : Nat), wr.heap[G]? = some (.cells #[.bool b, .int .u64 x1, .slice x2 x3 x4, .int .u64 y1, .slice y2 y3 y4] 92 (0, 0)) ∧ DenR wr (.agg #[.bool b, .int .u64 x1, .slice x2 x3 x4, .int .u64 y1, .slice y2 y3 y4]) s n d ∧ Below w.heap.size w wr
set_option maxRecDepth 100000 in
set_option maxHeartbeats 4000000 in
theorem reckon_no (w : World) (sa sb : ByteArray) (la lb : List UInt8) (ha : sa.data.toList = la) (hb : sb.data.toList = lb) (hla : la.length ≤ 1073741824) (hlb : lb.length ≤ 1073741824) (g cap : Nat) (hc0 : w.cell? ⟨g, 0, none⟩ = some (.string sa)) (hc1 : w.cell? ⟨g, 1, none⟩ = some (.string sb))
    (m : Int) (hM : w.cell? ⟨3, 0, none⟩ = some (.int .i64 m)) (hT : Tab w) (ka kb : Bool) (hka : ka = true ↔ CanT la) (hkb : kb = true ↔ CanT lb) (hk : (ka && kb) = false) :
    Calls Tryz.prog 37 #[.func (.func 58) #[] #[], .slice (some ⟨g, 0, none⟩) 2 cap] w fun e w' => e = .returned (.tuple #[.string ⟨#[]⟩, .int .i64 1]) ∧ Below w.heap.size w w' := by
  have q1 := hide ((parse_two w sa sb la lb ha hb hla hlb g cap hc0 hc1 m hM hT ka kb hka hkb).mono (fun e w' ⟨⟨_, h2⟩, h3⟩ => (⟨h2 hk, h3⟩ : e = Ending.returned (.tuple #[.slice none 0 0, .bool false]) ∧ Below w.heap.size w w')))
  clear hka hkb hk ha hb hc0 hc1 hM hT
  go_enter Tryz.func37, Tryz.ntmps37
  go_wp2_with (go_at_call 39; (with_reducible refine q1.out.mono ?_); rintro e w1 ⟨rfl, b1⟩; replace b1 := hide b1)
  go_ret2
  exact ⟨rfl, b1.out⟩
set_option maxRecDepth 100000 in
set_option maxHeartbeats 4000000 in
theorem reckon_yes (w : World) (sa sb : ByteArray) (la lb : List UInt8) (ha : sa.data.toList = la) (hb : sb.data.toList = lb) (hla : la.length ≤ 1073741824) (hlb : lb.length ≤ 1073741824) (g cap : Nat) (hc0 : w.cell? ⟨g, 0, none⟩ = some (.string sa)) (hc1 : w.cell? ⟨g, 1, none⟩ = some (.string sb))
    (m : Int) (hM : w.cell? ⟨3, 0, none⟩ = some (.int .i64 m)) (hT : Tab w) (hP : Pows w) (hca : CanT la) (hcb : CanT lb) (s : Bool) (n d K : Nat) (hn : (n : Int) < M.BB ^ K) (hd : (d : Int) < M.BB ^ K) (hK : K ≤ 54975581388)
    (step : ∀ W va vb, DenR W va (cneg la) (M.dec (cup la)) (if cslash la then M.dec (clow la) else 0) → DenR W vb (cneg lb) (M.dec (cup lb)) (if cslash lb then M.dec (clow lb) else 0) → Tab W → Calls Tryz.prog 58 #[va, vb] W fun e w' => (∃ r, e = .returned r ∧ DenR w' r s n d) ∧ Below W.heap.size W w') :
    Calls Tryz.prog 37 #[.func (.func 58) #[] #[], .slice (some ⟨g, 0, none⟩) 2 cap] w fun e w' => e = .returned (.tuple #[.string ⟨(ratText s n d).toArray⟩, .int .i64 0]) ∧ Below w.heap.size w w' := by
  have q1 := hide ((parse_two w sa sb la lb ha hb hla hlb g cap hc0 hc1 m hM hT true true ⟨fun _ => hca, fun _ => rfl⟩ ⟨fun _ => hcb, fun _ => rfl⟩).mono (fun e w' ⟨⟨h1, _⟩, h3⟩ => (⟨h1 rfl, h3⟩ : (e = Ending.returned (.tuple #[.slice (some ⟨w.heap.size, 0, none⟩) 2 2, .bool true]) ∧ TwoR w w' la lb) ∧ Below w.heap.size w w')))
  have TT := hide hT
  have PP := hide hP
  have ST := hide step
  replace hn := hide hn
  replace hd := hide hd
  clear ha hb hc0 hc1 hM hT hP hca hcb step
  go_enter Tryz.func37, Tryz.ntmps37
  go_wp2_with (go_at_call 39; (with_reducible refine q1.out.mono ?_); rintro e w1 ⟨⟨rfl, h1⟩, b1_1⟩; obtain ⟨b1, x1, x2, x3, x4, y1, y2, y3, y4, b2, p1, p2, p3, p4, r1, r2, r3, r4, A1, da, db, B1⟩ := h1; obtain ⟨⟨z0, z1, z2, z3, z4, z5, z6, z7, z8, z9⟩, -⟩ := cells10 A1; replace A1 := hide A1; replace da := hide da; replace db := hide db; replace B1 := hide B1)
  obtain ⟨W2, hW2⟩ : ∃ W2, w1.alloc (.cells #[.bool b1, .int .u64 x1, .slice x2 x3 x4, .int .u64 y1, .slice y2 y3 y4] 92) = W2 := ⟨_, rfl⟩
  have bA : Below w1.heap.size w1 W2 := by rw [← hW2]; exact alloc_below w1 _
  have P2 : Hid (W2.heap[w1.heap.size]? = some (.cells #[.bool b1, .int .u64 x1, .slice x2 x3 x4, .int .u64 y1, .slice y2 y3 y4] 92 (0, 0))) := by rw [← hW2]; exact heap_alloc_new w1 _
  have A2 := hide (kept_block A1.out bA)
  have DA := hide (da.out.below bA)
  have DB := hide (db.out.below bA)
  have B2 := hide (B1.out.then_below bA)
  have hG : w.heap.size ≤ w1.heap.size := B1.out.size
  clear z0 z1 z2 z3 z4 z5 z6 z7 z8 z9 bA da db A1 b1_1
  rw [hW2]
  clear hW2
  generalize w1.heap.size = G at *
  go_loopw [24] (fun i wr => (i = .int .i64 0 ∧ wr = W2) ∨ (i = .int .i64 1 ∧ Hid (Done w wr G s n d))) (fun i _ => 2 - (intOf i).toNat)
  case atStart => exact .inl ⟨rfl, rfl⟩
  case round =>
    rcases hrel with ⟨rfl, hw⟩ | ⟨rfl, h1⟩
    · replace hw := hw.symm
      subst hw
      obtain ⟨⟨z0, z1, z2, z3, z4, z5, z6, z7, z8, z9⟩, -⟩ := cells10 A2.out
      have bB := alloc_below W2 (.cells #[.bool b2, .int .u64 p1, .slice p2 p3 p4, .int .u64 r1, .slice r2 r3 r4] 92)
      have P3 := hide (kept_block P2.out bB)
      obtain ⟨⟨v0, v1, v2, v3, v4⟩, -⟩ := ratBox P3.out
      have DA3 := hide (DA.out.below bB)
      have DB3 := hide (DB.out.below bB)
      have B3 := hide (B2.out.then_below bB)
      have T3 := hide (TT.out.below B3.out)
      clear bB
      go_wp2_with (go_at_call 58; refine (ST.out _ _ _ DA3.out DB3.out T3.out).mono ?_; rintro e wa ⟨⟨r, rfl, hr⟩, ba⟩; obtain ⟨e1, e2, e3, e4, g1, g2, g3, g4, rfl, m1, m2⟩ := hr; have P4 := hide (kept_block P3.out ba); obtain ⟨⟨t0, t1, t2, t3, t4⟩, f0, f1, f2, f3, f4⟩ := ratBox P4.out; replace m1 := hide m1; replace m2 := hide m2; replace ba := hide (B3.out.then_below ba))
      refine ⟨.inr ⟨rfl, ?_⟩, by decide⟩
      have q := set5 wa G (.bool s) (.int .u64 e1) (.slice e2 e3 e4) (.int .u64 g1) (.slice g2 g3 g4)
      exact ⟨s, e1, e2, e3, e4, g1, g2, g3, g4, lo5 P4.out _ _ _ _ _, DenR.make m1.out m2.out P4.out (nopair5 _ _ _ _ _ _ _ _ _) q, ba.out.then_grown q (by rintro g ⟨⟩; exact hG)⟩
    · obtain ⟨c0, e1, e2, e3, e4, g1, g2, g3, g4, o1, o2, o3⟩ := h1.out
      obtain ⟨⟨v0, v1, v2, v3, v4⟩, -⟩ := ratBox o1
      have P5 := hide (PP.out.below o3)
      replace o1 := hide o1
      replace o2 := hide o2
      replace o3 := hide o3
      go_wp2_with (go_at_call 42; refine (ratText_calls _ _ s n d K o2.out hn.out hd.out hK P5.out).mono ?_; rintro e wd ⟨rfl, bd⟩; replace bd := hide bd)
      go_ret2
      exact ⟨rfl, o3.out.then_below bd.out⟩
end Go.Proofs.YtlepicdpelkmlaaGreatDoor
/- ==== RatBoxes ==== -/
namespace Go.Proofs.YtlepicdpelkmlaaGreatDoor
open Go.RowKit
set_option linter.unusedVariables false
/-- The number under the stroke. -/
def lowN (d : Nat) : Nat := if d = 0 then 1 else d
theorem lowN_pos (d : Nat) : 0 < lowN d := by unfold lowN; split <;> omega
theorem div_BB {a b K : Nat} (h : (a : Int) < M.BB ^ K) : ((a / b : Nat) : Int) < M.BB ^ K := Int.lt_of_le_of_lt (by exact_mod_cast Nat.div_le_self a b) h
theorem lower_low (w : World) (v : Value) (neg : Bool) (n d : Nat) (h : DenR w v neg n d) :
    Calls Tryz.prog 60 #[v] w fun e w' => (∃ r, e = .returned r ∧ Den w' r (lowN d)) ∧ Below w.heap.size w w' := lower_calls w v neg n d h
theorem cells8_keep {w W W2 : World} {a1 a2 a3 a4 a5 a6 a7 a8 : Addr} {v1 v2 v3 v4 v5 v6 v7 v8 : Value} (h : W.cell? a1 = some v1 ∧ W.cell? a2 = some v2 ∧ W.cell? a3 = some v3 ∧ W.cell? a4 = some v4 ∧ W.cell? a5 = some v5 ∧ W.cell? a6 = some v6 ∧ W.cell? a7 = some v7 ∧ W.cell? a8 = some v8 ∧ Below w.heap.size w W) (b : Below W.heap.size W W2) :
    W2.cell? a1 = some v1 ∧ W2.cell? a2 = some v2 ∧ W2.cell? a3 = some v3 ∧ W2.cell? a4 = some v4 ∧ W2.cell? a5 = some v5 ∧ W2.cell? a6 = some v6 ∧ W2.cell? a7 = some v7 ∧ W2.cell? a8 = some v8 ∧ Below w.heap.size w W2 := by
  obtain ⟨h1, h2, h3, h4, h5, h6, h7, h8, hb⟩ := h
  exact ⟨by rw [b.cell (World.block_lt_of_cell? W _ h1)]; exact h1, by rw [b.cell (World.block_lt_of_cell? W _ h2)]; exact h2, by rw [b.cell (World.block_lt_of_cell? W _ h3)]; exact h3, by rw [b.cell (World.block_lt_of_cell? W _ h4)]; exact h4, by rw [b.cell (World.block_lt_of_cell? W _ h5)]; exact h5, by rw [b.cell (World.block_lt_of_cell? W _ h6)]; exact h6, by rw [b.cell (World.block_lt_of_cell? W _ h7)]; exact h7, by rw [b.cell (World.block_lt_of_cell? W _ h8)]; exact h8, hb.then_below b⟩
theorem cells10_keep {w W W2 : World} {a1 a2 a3 a4 a5 a6 a7 a8 a9 a10 : Addr} {v1 v2 v3 v4 v5 v6 v7 v8 v9 v10 : Value} (h : W.cell? a1 = some v1 ∧ W.cell? a2 = some v2 ∧ W.cell? a3 = some v3 ∧ W.cell? a4 = some v4 ∧ W.cell? a5 = some v5 ∧ W.cell? a6 = some v6 ∧ W.cell? a7 = some v7 ∧ W.cell? a8 = some v8 ∧ W.cell? a9 = some v9 ∧ W.cell? a10 = some v10 ∧ Below w.heap.size w W) (b : Below W.heap.size W W2) :
    W2.cell? a1 = some v1 ∧ W2.cell? a2 = some v2 ∧ W2.cell? a3 = some v3 ∧ W2.cell? a4 = some v4 ∧ W2.cell? a5 = some v5 ∧ W2.cell? a6 = some v6 ∧ W2.cell? a7 = some v7 ∧ W2.cell? a8 = some v8 ∧ W2.cell? a9 = some v9 ∧ W2.cell? a10 = some v10 ∧ Below w.heap.size w W2 := by
  obtain ⟨h1, h2, h3, h4, h5, h6, h7, h8, h9, h10, hb⟩ := h
  exact ⟨by rw [b.cell (World.block_lt_of_cell? W _ h1)]; exact h1, by rw [b.cell (World.block_lt_of_cell? W _ h2)]; exact h2, by rw [b.cell (World.block_lt_of_cell? W _ h3)]; exact h3, by rw [b.cell (World.block_lt_of_cell? W _ h4)]; exact h4, by rw [b.cell (World.block_lt_of_cell? W _ h5)]; exact h5, by rw [b.cell (World.block_lt_of_cell? W _ h6)]; exact h6, by rw [b.cell (World.block_lt_of_cell? W _ h7)]; exact h7, by rw [b.cell (World.block_lt_of_cell? W _ h8)]; exact h8, by rw [b.cell (World.block_lt_of_cell? W _ h9)]; exact h9, by rw [b.cell (World.block_lt_of_cell? W _ h10)]; exact h10, hb.then_below b⟩
theorem bare10_keep {W W2 : World} {a1 a2 a3 a4 a5 a6 a7 a8 a9 a10 : Addr} {v1 v2 v3 v4 v5 v6 v7 v8 v9 v10 : Value} (h : W.cell? a1 = some v1 ∧ W.cell? a2 = some v2 ∧ W.cell? a3 = some v3 ∧ W.cell? a4 = some v4 ∧ W.cell? a5 = some v5 ∧ W.cell? a6 = some v6 ∧ W.cell? a7 = some v7 ∧ W.cell? a8 = some v8 ∧ W.cell? a9 = some v9 ∧ W.cell? a10 = some v10) (b : Below W.heap.size W W2) :
    W2.cell? a1 = some v1 ∧ W2.cell? a2 = some v2 ∧ W2.cell? a3 = some v3 ∧ W2.cell? a4 = some v4 ∧ W2.cell? a5 = some v5 ∧ W2.cell? a6 = some v6 ∧ W2.cell? a7 = some v7 ∧ W2.cell? a8 = some v8 ∧ W2.cell? a9 = some v9 ∧ W2.cell? a10 = some v10 := by
  obtain ⟨h1, h2, h3, h4, h5, h6, h7, h8, h9, h10⟩ := h
  exact ⟨by rw [b.cell (World.block_lt_of_cell? W _ h1)]; exact h1, by rw [b.cell (World.block_lt_of_cell? W _ h2)]; exact h2, by rw [b.cell (World.block_lt_of_cell? W _ h3)]; exact h3, by rw [b.cell (World.block_lt_of_cell? W _ h4)]; exact h4, by rw [b.cell (World.block_lt_of_cell? W _ h5)]; exact h5, by rw [b.cell (World.block_lt_of_cell? W _ h6)]; exact h6, by rw [b.cell (World.block_lt_of_cell? W _ h7)]; exact h7, by rw [b.cell (World.block_lt_of_cell? W _ h8)]; exact h8, by rw [b.cell (World.block_lt_of_cell? W _ h9)]; exact h9, by rw [b.cell (World.block_lt_of_cell? W _ h10)]; exact h10⟩
theorem bare10_set5 {W : World} {a1 a2 a3 a4 a5 a6 a7 a8 a9 a10 : Addr} {v1 v2 v3 v4 v5 v6 v7 v8 v9 v10 a b c d e : Value} {H : Nat} (h : W.cell? a1 = some v1 ∧ W.cell? a2 = some v2 ∧ W.cell? a3 = some v3 ∧ W.cell? a4 = some v4 ∧ W.cell? a5 = some v5 ∧ W.cell? a6 = some v6 ∧ W.cell? a7 = some v7 ∧ W.cell? a8 = some v8 ∧ W.cell? a9 = some v9 ∧ W.cell? a10 = some v10) (n1 : a1.block ≠ H) (n2 : a2.block ≠ H) (n3 : a3.block ≠ H) (n4 : a4.block ≠ H) (n5 : a5.block ≠ H) (n6 : a6.block ≠ H) (n7 : a7.block ≠ H) (n8 : a8.block ≠ H) (n9 : a9.block ≠ H) (n10 : a10.block ≠ H) :
    let W2 := (((((W.setCell ⟨H, 0, none⟩ a).setCell ⟨H, 1, none⟩ b).setCell ⟨H, 2, none⟩ c).setCell ⟨H, 3, none⟩ d).setCell ⟨H, 4, none⟩ e)
    W2.cell? a1 = some v1 ∧ W2.cell? a2 = some v2 ∧ W2.cell? a3 = some v3 ∧ W2.cell? a4 = some v4 ∧ W2.cell? a5 = some v5 ∧ W2.cell? a6 = some v6 ∧ W2.cell? a7 = some v7 ∧ W2.cell? a8 = some v8 ∧ W2.cell? a9 = some v9 ∧ W2.cell? a10 = some v10 := by
  obtain ⟨h1, h2, h3, h4, h5, h6, h7, h8, h9, h10⟩ := h
  have q := set5 W H a b c d e
  exact ⟨q.cell h1 (by simpa using n1), q.cell h2 (by simpa using n2), q.cell h3 (by simpa using n3), q.cell h4 (by simpa using n4), q.cell h5 (by simpa using n5), q.cell h6 (by simpa using n6), q.cell h7 (by simpa using n7), q.cell h8 (by simpa using n8), q.cell h9 (by simpa using n9), q.cell h10 (by simpa using n10)⟩
/-- A box that holds the number a. -/
def OneB (w1 wx : World) (g7 : Nat) (q1 : Int) (q2 : Option Addr) (q3 q4 : Nat) (a : Nat) : Prop :=
  wx.heap[g7]? = some (.cells #[.int .u64 q1, .slice q2 q3 q4] 90 (0, 0)) ∧ Den wx (.agg #[.int .u64 q1, .slice q2 q3 q4]) a ∧ w1.heap.size ≤ g7 ∧ Below w1.heap.size w1 wx
theorem ob_alloc {w1 w2 : World} {q1 : Int} {q2 : Option Addr} {q3 q4 : Nat} {a : Nat} (bw : Below w1.heap.size w1 w2) (hq : Den w2 (.agg #[.int .u64 q1, .slice q2 q3 q4]) a) :
    OneB w1 (w2.alloc (.cells #[.int .u64 q1, .slice q2 q3 q4] 90)) w2.heap.size q1 q2 q3 q4 a :=
  ⟨heap_alloc_new w2 _, hq.below (alloc_below w2 _), bw.size, bw.then_below (alloc_below w2 _)⟩
theorem ob_set {w1 w2 : World} {q1 : Int} {q2 : Option Addr} {q3 q4 : Nat} {a h : Nat} (bw : Below w1.heap.size w1 w2) (hq : Den w2 (.agg #[.int .u64 q1, .slice q2 q3 q4]) a)
    (AZ : w2.heap[h]? = some (.cells #[.int .u64 0, .slice none 0 0] 90 (0, 0))) (hh : w1.heap.size ≤ h) :
    OneB w1 ((w2.setCell ⟨h, 0, none⟩ (.int .u64 q1)).setCell ⟨h, 1, none⟩ (.slice q2 q3 q4)) h q1 q2 q3 q4 a := by
  have q := box_grown w2 h (.int .u64 q1) (.slice q2 q3 q4)
  exact ⟨box_store AZ _ _, hq.kept q (hq.notin (nopair2 _ _ _ _) AZ), hh, bw.then_grown q (by rintro g ⟨⟩; exact hh)⟩
theorem bare8_keep {W W2 : World} {a1 a2 a3 a4 a5 a6 a7 a8 : Addr} {v1 v2 v3 v4 v5 v6 v7 v8 : Value} (h : W.cell? a1 = some v1 ∧ W.cell? a2 = some v2 ∧ W.cell? a3 = some v3 ∧ W.cell? a4 = some v4 ∧ W.cell? a5 = some v5 ∧ W.cell? a6 = some v6 ∧ W.cell? a7 = some v7 ∧ W.cell? a8 = some v8) (b : Below W.heap.size W W2) :
    W2.cell? a1 = some v1 ∧ W2.cell? a2 = some v2 ∧ W2.cell? a3 = some v3 ∧ W2.cell? a4 = some v4 ∧ W2.cell? a5 = some v5 ∧ W2.cell? a6 = some v6 ∧ W2.cell? a7 = some v7 ∧ W2.cell? a8 = some v8 := by
  obtain ⟨h1, h2, h3, h4, h5, h6, h7, h8⟩ := h
  exact ⟨by rw [b.cell (World.block_lt_of_cell? W _ h1)]; exact h1, by rw [b.cell (World.block_lt_of_cell? W _ h2)]; exact h2, by rw [b.cell (World.block_lt_of_cell? W _ h3)]; exact h3, by rw [b.cell (World.block_lt_of_cell? W _ h4)]; exact h4, by rw [b.cell (World.block_lt_of_cell? W _ h5)]; exact h5, by rw [b.cell (World.block_lt_of_cell? W _ h6)]; exact h6, by rw [b.cell (World.block_lt_of_cell? W _ h7)]; exact h7, by rw [b.cell (World.block_lt_of_cell? W _ h8)]; exact h8⟩
theorem bare8_set5 {W : World} {a1 a2 a3 a4 a5 a6 a7 a8 : Addr} {v1 v2 v3 v4 v5 v6 v7 v8 a b c d e : Value} {H : Nat} (h : W.cell? a1 = some v1 ∧ W.cell? a2 = some v2 ∧ W.cell? a3 = some v3 ∧ W.cell? a4 = some v4 ∧ W.cell? a5 = some v5 ∧ W.cell? a6 = some v6 ∧ W.cell? a7 = some v7 ∧ W.cell? a8 = some v8) (n1 : a1.block ≠ H) (n2 : a2.block ≠ H) (n3 : a3.block ≠ H) (n4 : a4.block ≠ H) (n5 : a5.block ≠ H) (n6 : a6.block ≠ H) (n7 : a7.block ≠ H) (n8 : a8.block ≠ H) :
    let W2 := (((((W.setCell ⟨H, 0, none⟩ a).setCell ⟨H, 1, none⟩ b).setCell ⟨H, 2, none⟩ c).setCell ⟨H, 3, none⟩ d).setCell ⟨H, 4, none⟩ e)
    W2.cell? a1 = some v1 ∧ W2.cell? a2 = some v2 ∧ W2.cell? a3 = some v3 ∧ W2.cell? a4 = some v4 ∧ W2.cell? a5 = some v5 ∧ W2.cell? a6 = some v6 ∧ W2.cell? a7 = some v7 ∧ W2.cell? a8 = some v8 := by
  obtain ⟨h1, h2, h3, h4, h5, h6, h7, h8⟩ := h
  have q := set5 W H a b c d e
  exact ⟨q.cell h1 (by simpa using n1), q.cell h2 (by simpa using n2), q.cell h3 (by simpa using n3), q.cell h4 (by simpa using n4), q.cell h5 (by simpa using n5), q.cell h6 (by simpa using n6), q.cell h7 (by simpa using n7), q.cell h8 (by simpa using n8)⟩
theorem cells6n_keep {w W W2 : World} {a1 a2 a3 a4 a5 a6 : Addr} {v1 v2 v3 v4 v5 v6 : Value} (h : W.cell? a1 = some v1 ∧ W.cell? a2 = some v2 ∧ W.cell? a3 = some v3 ∧ W.cell? a4 = some v4 ∧ W.cell? a5 = some v5 ∧ W.cell? a6 = some v6 ∧ Below w.heap.size w W) (b : Below W.heap.size W W2) :
    W2.cell? a1 = some v1 ∧ W2.cell? a2 = some v2 ∧ W2.cell? a3 = some v3 ∧ W2.cell? a4 = some v4 ∧ W2.cell? a5 = some v5 ∧ W2.cell? a6 = some v6 ∧ Below w.heap.size w W2 := by
  obtain ⟨h1, h2, h3, h4, h5, h6, hb⟩ := h
  exact ⟨by rw [b.cell (World.block_lt_of_cell? W _ h1)]; exact h1, by rw [b.cell (World.block_lt_of_cell? W _ h2)]; exact h2, by rw [b.cell (World.block_lt_of_cell? W _ h3)]; exact h3, by rw [b.cell (World.block_lt_of_cell? W _ h4)]; exact h4, by rw [b.cell (World.block_lt_of_cell? W _ h5)]; exact h5, by rw [b.cell (World.block_lt_of_cell? W _ h6)]; exact h6, hb.then_below b⟩
end Go.Proofs.YtlepicdpelkmlaaGreatDoor
/- ==== RatSigned ==== -/
namespace Go.Proofs.YtlepicdpelkmlaaGreatDoor
open Go.RowKit
set_option linter.unusedVariables false
theorem cmp_ge {a b : Nat} (h : b ≤ a) : 0 ≤ M.cmp a b := by unfold M.cmp; split <;> (try split) <;> omega
theorem cmp_lt {a b : Nat} (h : ¬ b ≤ a) : M.cmp a b < 0 := by unfold M.cmp; rw [if_pos (by omega)]; decide
set_option maxRecDepth 100000 in
set_option maxHeartbeats 4000000 in
theorem addSigned_same (w : World) (na : Bool) (u v : Value) (a b K : Nat) (hu : Den w u a) (hv : Den w v b) (ka : (a : Int) < M.BB ^ K) (kb : (b : Int) < M.BB ^ K) (hK : K ≤ 4398046511104) :
    Calls Tryz.prog 72 #[.bool na, u, .bool na, v] w fun e w' => (∃ r, e = .returned (.tuple #[.bool na, r]) ∧ Den w' r (a + b)) ∧ Below w.heap.size w w' := by
  obtain ⟨x1, x2, x3, x4, rfl⟩ := hu.shape2
  obtain ⟨y1, y2, y3, y4, rfl⟩ := hv.shape2
  obtain ⟨A1, C1, R1, B1⟩ := three_new' w (.cells #[.int .u64 x1, .slice x2 x3 x4] 90) (.cells #[.int .u64 y1, .slice y2 y3 y4] 90) (.cells #[.int .u64 0, .slice none 0 0] 90)
  obtain ⟨W0, hW0⟩ : ∃ W0, ((w.alloc (.cells #[.int .u64 x1, .slice x2 x3 x4] 90)).alloc (.cells #[.int .u64 y1, .slice y2 y3 y4] 90)).alloc (.cells #[.int .u64 0, .slice none 0 0] 90) = W0 := ⟨_, rfl⟩
  rw [hW0] at A1 C1 R1 B1
  have q := hide (natAdd_calls W0 _ _ a b K (hu.below B1) (hv.below B1) ka kb hK)
  obtain ⟨a0, a1, -, -⟩ := box_facts A1
  obtain ⟨c0, c1, -, -⟩ := box_facts C1
  replace A1 := hide A1
  replace C1 := hide C1
  replace R1 := hide R1
  replace B1 := hide B1
  clear hu hv ka kb
  go_enter Tryz.func72, Tryz.ntmps72
  go_wp2_with (go_at_call 90; refine q.out.mono ?_; rintro e w2 ⟨⟨r, rfl, hr⟩, b2⟩; obtain ⟨r1, r2, r3, r4, rfl⟩ := hr.shape2; have R2 := hide (kept_block R1.out b2); obtain ⟨z0, z1, f0, f1⟩ := box_facts R2.out; replace hr := hide hr; replace b2 := hide (B1.out.then_below b2))
  refine bodyPost_ret (v := .tuple #[.bool na, .agg #[.int .u64 r1, .slice r2 r3 r4]]) (by simp [results, Tryz.results72, go_sem, z0, z1]) rfl ?_
  have q := box_grown w2 (w.heap.size + 1 + 1) (.int .u64 r1) (.slice r2 r3 r4)
  exact ⟨⟨_, rfl, hr.out.kept q (hr.out.notin (nopair2 _ _ _ _) R2.out)⟩, b2.out.then_grown q (by rintro g ⟨⟩; omega)⟩
set_option maxRecDepth 100000 in
set_option maxHeartbeats 4000000 in
theorem addSigned_ge (w : World) (na nb : Bool) (u v : Value) (a b K : Nat) (hu : Den w u a) (hv : Den w v b) (ka : (a : Int) < M.BB ^ K) (hn : na ≠ nb) (hle : b ≤ a) (hK : K ≤ 4398046511104) :
    Calls Tryz.prog 72 #[.bool na, u, .bool nb, v] w fun e w' => (∃ r, e = .returned (.tuple #[.bool na, r]) ∧ Den w' r (a - b)) ∧ Below w.heap.size w w' := by
  obtain ⟨x1, x2, x3, x4, rfl⟩ := hu.shape2
  obtain ⟨y1, y2, y3, y4, rfl⟩ := hv.shape2
  obtain ⟨A1, C1, R1, B1⟩ := three_new' w (.cells #[.int .u64 x1, .slice x2 x3 x4] 90) (.cells #[.int .u64 y1, .slice y2 y3 y4] 90) (.cells #[.int .u64 0, .slice none 0 0] 90)
  obtain ⟨W0, hW0⟩ : ∃ W0, ((w.alloc (.cells #[.int .u64 x1, .slice x2 x3 x4] 90)).alloc (.cells #[.int .u64 y1, .slice y2 y3 y4] 90)).alloc (.cells #[.int .u64 0, .slice none 0 0] 90) = W0 := ⟨_, rfl⟩
  rw [hW0] at A1 C1 R1 B1
  have q0 := hide (natCmp_calls W0 _ _ a b (hu.below B1) (hv.below B1))
  have hc := cmp_ge hle
  have q := hide (fun W (hW : Below W0.heap.size W0 W) => natSub_calls W _ _ a b K ((hu.below B1).below hW) ((hv.below B1).below hW) ka hle hK)
  obtain ⟨a0, a1, -, -⟩ := box_facts A1
  obtain ⟨c0, c1, -, -⟩ := box_facts C1
  replace A1 := hide A1
  replace C1 := hide C1
  replace R1 := hide R1
  replace B1 := hide B1
  generalize M.cmp a b = c at *
  have hne : (na == nb) = false := by simpa using hn
  clear hu hv ka hle
  go_enter Tryz.func72, Tryz.ntmps72
  go_wp2_with (first
    | (go_at_call 84; refine q0.out.mono ?_; rintro e w1 ⟨rfl, b1⟩; obtain ⟨d0, d1, -, -⟩ := box_facts (kept_block A1.out b1); obtain ⟨d2, d3, -, -⟩ := box_facts (kept_block C1.out b1); replace b1 := hide b1)
    | (go_at_call 91; refine (q.out _ b1.out).mono ?_; rintro e w2 ⟨⟨r, rfl, hr⟩, b2⟩; obtain ⟨r1, r2, r3, r4, rfl⟩ := hr.shape2; have R2 := hide (kept_block R1.out (b1.out.then_below b2)); obtain ⟨z0, z1, f0, f1⟩ := box_facts R2.out; replace hr := hide hr; replace b2 := hide ((B1.out.then_below b1.out).then_below b2)))
  refine bodyPost_ret (v := .tuple #[.bool na, .agg #[.int .u64 r1, .slice r2 r3 r4]]) (by simp [results, Tryz.results72, go_sem, z0, z1]) rfl ?_
  have q := box_grown w2 (w.heap.size + 1 + 1) (.int .u64 r1) (.slice r2 r3 r4)
  exact ⟨⟨_, rfl, hr.out.kept q (hr.out.notin (nopair2 _ _ _ _) R2.out)⟩, b2.out.then_grown q (by rintro g ⟨⟩; omega)⟩
set_option maxRecDepth 100000 in
set_option maxHeartbeats 4000000 in
theorem addSigned_lt (w : World) (na nb : Bool) (u v : Value) (a b K : Nat) (hu : Den w u a) (hv : Den w v b) (kb : (b : Int) < M.BB ^ K) (hn : na ≠ nb) (hle : ¬ b ≤ a) (hK : K ≤ 4398046511104) :
    Calls Tryz.prog 72 #[.bool na, u, .bool nb, v] w fun e w' => (∃ r, e = .returned (.tuple #[.bool nb, r]) ∧ Den w' r (b - a)) ∧ Below w.heap.size w w' := by
  obtain ⟨x1, x2, x3, x4, rfl⟩ := hu.shape2
  obtain ⟨y1, y2, y3, y4, rfl⟩ := hv.shape2
  obtain ⟨A1, C1, R1, B1⟩ := three_new' w (.cells #[.int .u64 x1, .slice x2 x3 x4] 90) (.cells #[.int .u64 y1, .slice y2 y3 y4] 90) (.cells #[.int .u64 0, .slice none 0 0] 90)
  obtain ⟨W0, hW0⟩ : ∃ W0, ((w.alloc (.cells #[.int .u64 x1, .slice x2 x3 x4] 90)).alloc (.cells #[.int .u64 y1, .slice y2 y3 y4] 90)).alloc (.cells #[.int .u64 0, .slice none 0 0] 90) = W0 := ⟨_, rfl⟩
  rw [hW0] at A1 C1 R1 B1
  have q0 := hide (natCmp_calls W0 _ _ a b (hu.below B1) (hv.below B1))
  have hc := cmp_lt hle
  have q := hide (fun W (hW : Below W0.heap.size W0 W) => natSub_calls W _ _ b a K ((hv.below B1).below hW) ((hu.below B1).below hW) kb (by omega) hK)
  obtain ⟨a0, a1, -, -⟩ := box_facts A1
  obtain ⟨c0, c1, -, -⟩ := box_facts C1
  replace A1 := hide A1
  replace C1 := hide C1
  replace R1 := hide R1
  replace B1 := hide B1
  generalize M.cmp a b = c at *
  have hne : (na == nb) = false := by simpa using hn
  clear hu hv kb hle
  go_enter Tryz.func72, Tryz.ntmps72
  go_wp2_with (first
    | (go_at_call 84; refine q0.out.mono ?_; rintro e w1 ⟨rfl, b1⟩; obtain ⟨d0, d1, -, -⟩ := box_facts (kept_block A1.out b1); obtain ⟨d2, d3, -, -⟩ := box_facts (kept_block C1.out b1); replace b1 := hide b1)
    | (go_at_call 91; refine (q.out _ b1.out).mono ?_; rintro e w2 ⟨⟨r, rfl, hr⟩, b2⟩; obtain ⟨r1, r2, r3, r4, rfl⟩ := hr.shape2; have R2 := hide (kept_block R1.out (b1.out.then_below b2)); obtain ⟨z0, z1, f0, f1⟩ := box_facts R2.out; replace hr := hide hr; replace b2 := hide ((B1.out.then_below b1.out).then_below b2)))
  refine bodyPost_ret (v := .tuple #[.bool nb, .agg #[.int .u64 r1, .slice r2 r3 r4]]) (by simp [results, Tryz.results72, go_sem, z0, z1]) rfl ?_
  have q := box_grown w2 (w.heap.size + 1 + 1) (.int .u64 r1) (.slice r2 r3 r4)
  exact ⟨⟨_, rfl, hr.out.kept q (hr.out.notin (nopair2 _ _ _ _) R2.out)⟩, b2.out.then_grown q (by rintro g ⟨⟩; omega)⟩
theorem addSigned_calls (w : World) (na nb : Bool) (u v : Value) (a b K : Nat) (hu : Den w u a) (hv : Den w v b) (ka : (a : Int) < M.BB ^ K) (kb : (b : Int) < M.BB ^ K) (hK : K ≤ 4398046511104) :
    Calls Tryz.prog 72 #[.bool na, u, .bool nb, v] w fun e w' => (∃ r, e = .returned (.tuple #[.bool (M.addS na a nb b).1, r]) ∧ Den w' r (M.addS na a nb b).2) ∧ Below w.heap.size w w' := by
  by_cases hn : na = nb
  · subst hn
    have e1 : M.addS na a na b = (na, a + b) := by unfold M.addS; rw [if_pos rfl]
    rw [e1]
    exact addSigned_same w na u v a b K hu hv ka kb hK
  · by_cases hle : b ≤ a
    · have e1 : M.addS na a nb b = (na, a - b) := by unfold M.addS; rw [if_neg hn, if_pos hle]
      rw [e1]
      exact addSigned_ge w na nb u v a b K hu hv ka hn hle hK
    · have e1 : M.addS na a nb b = (nb, b - a) := by unfold M.addS; rw [if_neg hn, if_neg hle]
      rw [e1]
      exact addSigned_lt w na nb u v a b K hu hv kb hn hle hK
end Go.Proofs.YtlepicdpelkmlaaGreatDoor
/- ==== RatNeg ==== -/
namespace Go.Proofs.YtlepicdpelkmlaaGreatDoor
open Go.RowKit
set_option linter.unusedVariables false
set_option maxRecDepth 100000 in
set_option maxHeartbeats 4000000 in
theorem neg_calls (w : World) (v : Value) (s : Bool) (n d : Nat) (h : DenR w v s n d) :
    Calls Tryz.prog 55 #[v] w fun e w' => (∃ r, e = .returned r ∧ DenR w' r (!s && !decide (n = 0)) n d) ∧ Below w.heap.size w w' := by
  obtain ⟨x1, x2, x3, x4, y1, y2, y3, y4, rfl, h1, h2⟩ := h
  obtain ⟨X1, Y1, -⟩ := two_new w (.cells #[.bool s, .int .u64 x1, .slice x2 x3 x4, .int .u64 y1, .slice y2 y3 y4] 92) (.cells #[.bool false, .int .u64 0, .slice none 0 0, .int .u64 0, .slice none 0 0] 92)
  have B0 := alloc2_below w (.cells #[.bool s, .int .u64 x1, .slice x2 x3 x4, .int .u64 y1, .slice y2 y3 y4] 92) (.cells #[.bool false, .int .u64 0, .slice none 0 0, .int .u64 0, .slice none 0 0] 92)
  obtain ⟨W0, hW0⟩ : ∃ W0, (w.alloc (.cells #[.bool s, .int .u64 x1, .slice x2 x3 x4, .int .u64 y1, .slice y2 y3 y4] 92)).alloc (.cells #[.bool false, .int .u64 0, .slice none 0 0, .int .u64 0, .slice none 0 0] 92) = W0 := ⟨_, rfl⟩
  rw [hW0] at X1 Y1 B0
  have q1 := hide (isZero_calls W0 _ n (h1.below B0))
  replace X1 := hide X1
  replace Y1 := hide Y1
  replace B0 := hide B0
  replace h1 := hide h1
  replace h2 := hide h2
  obtain ⟨⟨i0, i1, i2, i3, i4⟩, i5, i6, i7, i8, i9⟩ := ratBox X1.out
  obtain ⟨⟨j0, j1, j2, j3, j4⟩, j5, j6, j7, j8, j9⟩ := ratBox Y1.out
  have fin : ∀ (W : World) (x : Bool), Below W0.heap.size W0 W → DenR ((((((W.setCell ⟨w.heap.size, 0, none⟩ (.bool x)).setCell ⟨w.heap.size + 1, 0, none⟩ (.bool x)).setCell ⟨w.heap.size + 1, 1, none⟩ (.int .u64 x1)).setCell ⟨w.heap.size + 1, 2, none⟩ (.slice x2 x3 x4)).setCell ⟨w.heap.size + 1, 3, none⟩ (.int .u64 y1)).setCell ⟨w.heap.size + 1, 4, none⟩ (.slice y2 y3 y4)) (.agg #[.bool x, .int .u64 x1, .slice x2 x3 x4, .int .u64 y1, .slice y2 y3 y4]) x n d ∧ Below w.heap.size w ((((((W.setCell ⟨w.heap.size, 0, none⟩ (.bool x)).setCell ⟨w.heap.size + 1, 0, none⟩ (.bool x)).setCell ⟨w.heap.size + 1, 1, none⟩ (.int .u64 x1)).setCell ⟨w.heap.size + 1, 2, none⟩ (.slice x2 x3 x4)).setCell ⟨w.heap.size + 1, 3, none⟩ (.int .u64 y1)).setCell ⟨w.heap.size + 1, 4, none⟩ (.slice y2 y3 y4)) := by
    intro W x hW
    have q := grown_set W w.heap.size 0 (.bool x)
    have X2 := kept_block X1.out hW
    have Y2 := grown_block (kept_block Y1.out hW) q (by omega)
    have d1 := (h1.out.below B0.out).below hW
    have d2 := (h2.out.below B0.out).below hW
    have e1 := d1.kept q (d1.notin (nopair5 _ _ _ _ _ _ _ _ _) X2)
    have e2 := d2.kept q (d2.notin (nopair5 _ _ _ _ _ _ _ _ _) X2)
    have bw := (B0.out.then_below hW).then_grown q (by rintro g ⟨⟩; omega)
    have q' := set5 (W.setCell ⟨w.heap.size, 0, none⟩ (.bool x)) (w.heap.size + 1) (.bool x) (.int .u64 x1) (.slice x2 x3 x4) (.int .u64 y1) (.slice y2 y3 y4)
    exact ⟨DenR.make e1 e2 Y2 (nopair5 _ _ _ _ _ _ _ _ _) q', bw.then_grown q' (by rintro g ⟨⟩; omega)⟩
  replace fin := hide fin
  cases s with
  | true =>
    clear q1
    go_enter Tryz.func55, Tryz.ntmps55
    go_wp2
    refine bodyPost_ret (v := .agg #[.bool false, .int .u64 x1, .slice x2 x3 x4, .int .u64 y1, .slice y2 y3 y4]) (by simp [results, Tryz.results55, go_sem, j0, j1, j2, j3, j4]) rfl ?_
    obtain ⟨u, v⟩ := fin.out W0 false (Below.refl _ _)
    exact ⟨⟨_, rfl, u⟩, v⟩
  | false =>
    by_cases hn : n = 0
    · rw [decide_eq_true hn] at q1 ⊢
      clear hn
      go_enter Tryz.func55, Tryz.ntmps55
      go_wp2_with (go_at_call 57; refine q1.out.mono ?_; rintro e w2 ⟨rfl, b2⟩; obtain ⟨⟨k0, k1, k2, k3, k4⟩, k5, k6, k7, k8, k9⟩ := ratBox (kept_block X1.out b2); obtain ⟨⟨m0, m1, m2, m3, m4⟩, m5, m6, m7, m8, m9⟩ := ratBox (kept_block Y1.out b2); replace b2 := hide b2)
      refine bodyPost_ret (v := .agg #[.bool false, .int .u64 x1, .slice x2 x3 x4, .int .u64 y1, .slice y2 y3 y4]) (by simp [results, Tryz.results55, go_sem, m0, m1, m2, m3, m4]) rfl ?_
      obtain ⟨u, v⟩ := fin.out w2 false b2.out
      exact ⟨⟨_, rfl, u⟩, v⟩
    · rw [decide_eq_false hn] at q1 ⊢
      clear hn
      go_enter Tryz.func55, Tryz.ntmps55
      go_wp2_with (go_at_call 57; refine q1.out.mono ?_; rintro e w2 ⟨rfl, b2⟩; obtain ⟨⟨k0, k1, k2, k3, k4⟩, k5, k6, k7, k8, k9⟩ := ratBox (kept_block X1.out b2); obtain ⟨⟨m0, m1, m2, m3, m4⟩, m5, m6, m7, m8, m9⟩ := ratBox (kept_block Y1.out b2); replace b2 := hide b2)
      refine bodyPost_ret (v := .agg #[.bool true, .int .u64 x1, .slice x2 x3 x4, .int .u64 y1, .slice y2 y3 y4]) (by simp [results, Tryz.results55, go_sem, m0, m1, m2, m3, m4]) rfl ?_
      obtain ⟨u, v⟩ := fin.out w2 true b2.out
      exact ⟨⟨_, rfl, u⟩, v⟩
/-- How two rationals lie. -/
def cmpR (s1 : Bool) (n1 D1 : Nat) (s2 : Bool) (n2 D2 : Nat) : Int := if s1 = s2 then (if s1 then - M.cmp (n1 * D2 : Nat) (n2 * D1 : Nat) else M.cmp (n1 * D2 : Nat) (n2 * D1 : Nat)) else if s1 then -1 else 1
theorem natCmp_c (w : World) (u v : Value) (n m : Nat) (c : Int) (hc : M.cmp n m = c) (hu : Den w u n) (hv : Den w v m) :
    Calls Tryz.prog 84 #[u, v] w fun e w' => e = .returned (.int .i64 c) ∧ Below w.heap.size w w' := by
  rw [← hc]
  exact natCmp_calls w u v n m hu hv
theorem cmp_range (a b : Int) : -1 ≤ M.cmp a b ∧ M.cmp a b ≤ 1 := by unfold M.cmp; split <;> (try split) <;> decide
set_option maxRecDepth 100000 in
set_option maxHeartbeats 8000000 in
theorem pcmp_ne (w : World) (va vb : Value) (s1 s2 : Bool) (n1 d1 n2 d2 : Nat) (ha : DenR w va s1 n1 d1) (hb : DenR w vb s2 n2 d2) (hs : s1 ≠ s2) :
    Calls Tryz.prog 43 #[va, vb] w fun e w' => e = .returned (.int .i64 (if s1 then -1 else 1)) ∧ Below w.heap.size w w' := by
  have ha' := hide ha
  have hb' := hide hb
  obtain ⟨x1, x2, x3, x4, y1, y2, y3, y4, rfl, a1, a2⟩ := ha
  obtain ⟨p1, p2, p3, p4, r1, r2, r3, r4, rfl, b1, b2⟩ := hb
  have z1 : (w.alloc (.cells #[.bool s1, .int .u64 x1, .slice x2 x3 x4, .int .u64 y1, .slice y2 y3 y4] 92)).heap.size = w.heap.size + 1 := by show (w.heap.push _).size = _; simp
  have P0 := kept_block (heap_alloc_new w (.cells #[.bool s1, .int .u64 x1, .slice x2 x3 x4, .int .u64 y1, .slice y2 y3 y4] 92)) (alloc_below _ (.cells #[.bool s2, .int .u64 p1, .slice p2 p3 p4, .int .u64 r1, .slice r2 r3 r4] 92))
  have Q0 := heap_alloc_new (w.alloc (.cells #[.bool s1, .int .u64 x1, .slice x2 x3 x4, .int .u64 y1, .slice y2 y3 y4] 92)) (.cells #[.bool s2, .int .u64 p1, .slice p2 p3 p4, .int .u64 r1, .slice r2 r3 r4] 92)
  rw [z1] at Q0
  have B0 := alloc2_below w (.cells #[.bool s1, .int .u64 x1, .slice x2 x3 x4, .int .u64 y1, .slice y2 y3 y4] 92) (.cells #[.bool s2, .int .u64 p1, .slice p2 p3 p4, .int .u64 r1, .slice r2 r3 r4] 92)
  clear z1
  obtain ⟨W0, hW0⟩ : ∃ W0, ((w.alloc (.cells #[.bool s1, .int .u64 x1, .slice x2 x3 x4, .int .u64 y1, .slice y2 y3 y4] 92)).alloc (.cells #[.bool s2, .int .u64 p1, .slice p2 p3 p4, .int .u64 r1, .slice r2 r3 r4] 92)) = W0 := ⟨_, rfl⟩
  rw [hW0] at P0 Q0 B0
  replace P0 := hide P0
  replace Q0 := hide Q0
  replace B0 := hide B0
  replace a1 := hide a1
  replace a2 := hide a2
  replace b1 := hide b1
  replace b2 := hide b2
  obtain ⟨⟨i0, i1, i2, i3, i4⟩, -⟩ := ratBox P0.out
  obtain ⟨⟨j0, j1, j2, j3, j4⟩, -⟩ := ratBox Q0.out
  cases s1 <;> cases s2
  · exact absurd rfl hs
  · go_enter Tryz.func43, Tryz.ntmps43
    go_wp2
    go_ret
    exact ⟨rfl, B0.out⟩
  · go_enter Tryz.func43, Tryz.ntmps43
    go_wp2
    go_ret
    exact ⟨rfl, B0.out⟩
  · exact absurd rfl hs
set_option maxRecDepth 100000 in
set_option maxHeartbeats 8000000 in
theorem psizes_calls (w : World) (va vb : Value) (s1 s2 : Bool) (n1 d1 n2 d2 K : Nat) (ha : DenR w va s1 n1 d1) (hb : DenR w vb s2 n2 d2) (k1 : (n1 : Int) < M.BB ^ K) (l1 : ((lowN d1 : Nat) : Int) < M.BB ^ K) (k2 : (n2 : Int) < M.BB ^ K) (l2 : ((lowN d2 : Nat) : Int) < M.BB ^ K) (hK : K ≤ 4398046511104) (c : Int) (hc : M.cmp (n1 * lowN d2 : Nat) (n2 * lowN d1 : Nat) = c) :
    Calls Tryz.prog 63 #[va, vb] w fun e w' => e = .returned (.int .i64 c) ∧ Below w.heap.size w w' := by
  have ha' := hide ha
  have hb' := hide hb
  obtain ⟨x1, x2, x3, x4, y1, y2, y3, y4, rfl, a1, a2⟩ := ha
  obtain ⟨p1, p2, p3, p4, r1, r2, r3, r4, rfl, b1, b2⟩ := hb
  have z1 : (w.alloc (.cells #[.bool s1, .int .u64 x1, .slice x2 x3 x4, .int .u64 y1, .slice y2 y3 y4] 92)).heap.size = w.heap.size + 1 := by show (w.heap.push _).size = _; simp
  have P0 := kept_block (heap_alloc_new w (.cells #[.bool s1, .int .u64 x1, .slice x2 x3 x4, .int .u64 y1, .slice y2 y3 y4] 92)) (alloc_below _ (.cells #[.bool s2, .int .u64 p1, .slice p2 p3 p4, .int .u64 r1, .slice r2 r3 r4] 92))
  have Q0 := heap_alloc_new (w.alloc (.cells #[.bool s1, .int .u64 x1, .slice x2 x3 x4, .int .u64 y1, .slice y2 y3 y4] 92)) (.cells #[.bool s2, .int .u64 p1, .slice p2 p3 p4, .int .u64 r1, .slice r2 r3 r4] 92)
  rw [z1] at Q0
  have B0 := alloc2_below w (.cells #[.bool s1, .int .u64 x1, .slice x2 x3 x4, .int .u64 y1, .slice y2 y3 y4] 92) (.cells #[.bool s2, .int .u64 p1, .slice p2 p3 p4, .int .u64 r1, .slice r2 r3 r4] 92)
  clear z1
  obtain ⟨W0, hW0⟩ : ∃ W0, ((w.alloc (.cells #[.bool s1, .int .u64 x1, .slice x2 x3 x4, .int .u64 y1, .slice y2 y3 y4] 92)).alloc (.cells #[.bool s2, .int .u64 p1, .slice p2 p3 p4, .int .u64 r1, .slice r2 r3 r4] 92)) = W0 := ⟨_, rfl⟩
  rw [hW0] at P0 Q0 B0
  replace P0 := hide P0
  replace Q0 := hide Q0
  replace B0 := hide B0
  replace a1 := hide a1
  replace a2 := hide a2
  replace b1 := hide b1
  replace b2 := hide b2
  obtain ⟨⟨i0, i1, i2, i3, i4⟩, -⟩ := ratBox P0.out
  obtain ⟨⟨j0, j1, j2, j3, j4⟩, -⟩ := ratBox Q0.out
  have HA := hide (ha'.out.below B0.out)
  have HB := hide (hb'.out.below B0.out)
  have A1 := hide (a1.out.below B0.out)
  have N1 := hide (b1.out.below B0.out)
  clear ha' hb' a1 a2 b1 b2
  replace k1 := hide k1
  replace k2 := hide k2
  replace l1 := hide l1
  replace l2 := hide l2
  obtain ⟨hm1, hm2⟩ := cmp_range (n1 * lowN d2 : Nat) (n2 * lowN d1 : Nat)
  rw [hc] at hm1 hm2
  replace hc := hide hc
  go_enter Tryz.func63, Tryz.ntmps63
  by_cases hd : d1 = 0 ∧ d2 = 0
  · obtain ⟨h1, h2⟩ := hd
    have q1 := hide (isWhole_calls W0 _ s1 n1 d1 HA.out)
    have q2 := hide (fun W (hW : Below W0.heap.size W0 W) => isWhole_calls W _ s2 n2 d2 (HB.out.below hW))
    rw [decide_eq_true h1] at q1
    rw [decide_eq_true h2] at q2
    have hc' : M.cmp (n1 : Nat) (n2 : Nat) = c := by
      have := hc.out
      rw [h1, h2, show lowN 0 = 1 from rfl, Nat.mul_one, Nat.mul_one] at this
      exact this
    have q3 := hide (fun W (hW : Below W0.heap.size W0 W) => natCmp_c W _ _ n1 n2 c hc' (A1.out.below hW) (N1.out.below hW))
    clear h1 h2 hc' hc k1 k2 l1 l2 hm1 hm2
    go_wp2_with (first
      | (go_at_call_of 62 (Value.agg #[.bool s1, .int .u64 x1, .slice x2 x3 x4, .int .u64 y1, .slice y2 y3 y4]); refine q1.out.mono ?_; rintro e wa ⟨rfl, ba⟩; obtain ⟨⟨t0, t1, t2, t3, t4⟩, -⟩ := ratBox (kept_block Q0.out ba); replace ba := hide ba)
      | (go_at_call_of 62 (Value.agg #[.bool s2, .int .u64 p1, .slice p2 p3 p4, .int .u64 r1, .slice r2 r3 r4]); refine (q2.out _ ba.out).mono ?_; rintro e wb ⟨rfl, bb⟩; replace bb := hide (ba.out.then_below bb); obtain ⟨⟨u0, u1, u2, u3, u4⟩, -⟩ := ratBox (kept_block P0.out bb.out); obtain ⟨⟨v0, v1, v2, v3, v4⟩, -⟩ := ratBox (kept_block Q0.out bb.out))
      | (go_at_call 84; refine (q3.out _ bb.out).mono ?_; rintro e wz ⟨rfl, bz⟩))
    go_ret
    exact ⟨rfl, B0.out.then_below (bb.out.then_below bz)⟩
  · have HD := hide hd
    clear hd
    go_upto_region 1 with fail
    go_cut [10] (fun sx wx => sx = .bool false ∧ Hid (Below W0.heap.size W0 wx))
    case first =>
      by_cases h1 : d1 = 0
      · have h2 : d2 ≠ 0 := fun e => HD.out ⟨h1, e⟩
        have q1 := hide (isWhole_calls W0 _ s1 n1 d1 HA.out)
        have q2 := hide (fun W (hW : Below W0.heap.size W0 W) => isWhole_calls W _ s2 n2 d2 (HB.out.below hW))
        rw [decide_eq_true h1] at q1
        rw [decide_eq_false h2] at q2
        clear h1 h2
        go_wp2_with (first
          | (go_at_call_of 62 (Value.agg #[.bool s1, .int .u64 x1, .slice x2 x3 x4, .int .u64 y1, .slice y2 y3 y4]); refine q1.out.mono ?_; rintro e wa ⟨rfl, ba⟩; obtain ⟨⟨t0, t1, t2, t3, t4⟩, -⟩ := ratBox (kept_block Q0.out ba); replace ba := hide ba)
          | (go_at_call_of 62 (Value.agg #[.bool s2, .int .u64 p1, .slice p2 p3 p4, .int .u64 r1, .slice r2 r3 r4]); refine (q2.out _ ba.out).mono ?_; rintro e wb ⟨rfl, bb⟩; replace bb := hide (ba.out.then_below bb)))
        go_meet
        exact ⟨rfl, bb⟩
      · have q1 := hide (isWhole_calls W0 _ s1 n1 d1 HA.out)
        rw [decide_eq_false h1] at q1
        clear h1
        go_wp2_with (first
          | (go_at_call_of 62 (Value.agg #[.bool s1, .int .u64 x1, .slice x2 x3 x4, .int .u64 y1, .slice y2 y3 y4]); refine q1.out.mono ?_; rintro e wa ⟨rfl, ba⟩; replace ba := hide ba))
        go_meet
        exact ⟨rfl, ba⟩
    case rest =>
      obtain ⟨rfl, BC⟩ := hcut
      clear i0 i1 i2 i3 i4 j0 j1 j2 j3 j4
      obtain ⟨⟨i0, i1, i2, i3, i4⟩, -⟩ := ratBox (kept_block P0.out BC.out)
      obtain ⟨⟨j0, j1, j2, j3, j4⟩, -⟩ := ratBox (kept_block Q0.out BC.out)
      have HA := hide (HA.out.below BC.out)
      have HB := hide (HB.out.below BC.out)
      have A1 := hide (A1.out.below BC.out)
      have N1 := hide (N1.out.below BC.out)
      have B0 := hide (B0.out.then_below BC.out)
      go_upto_region 3 with fail
      go_cut [4] (fun sx wx => sx = .int .i64 c ∧ Hid (Below wc.heap.size wc wx))
      case first =>
        have S0 := hide (And.intro i0 (And.intro i1 (And.intro i2 (And.intro i3 (And.intro i4 (And.intro j0 (And.intro j1 (And.intro j2 (And.intro j3 j4)))))))))
        clear i0 i1 i2 i3 i4 j0 j1 j2 j3 j4 hW0
        go_region_held3
          (fun w' => w'.cell? ⟨w.heap.size, 0, none⟩ = some (.bool s1) ∧ w'.cell? ⟨w.heap.size, 1, none⟩ = some (.int .u64 x1) ∧ w'.cell? ⟨w.heap.size, 2, none⟩ = some (.slice x2 x3 x4) ∧ w'.cell? ⟨w.heap.size, 3, none⟩ = some (.int .u64 y1) ∧ w'.cell? ⟨w.heap.size, 4, none⟩ = some (.slice y2 y3 y4) ∧ w'.cell? ⟨w.heap.size + 1, 0, none⟩ = some (.bool s2) ∧ w'.cell? ⟨w.heap.size + 1, 1, none⟩ = some (.int .u64 p1) ∧ w'.cell? ⟨w.heap.size + 1, 2, none⟩ = some (.slice p2 p3 p4) ∧ w'.cell? ⟨w.heap.size + 1, 3, none⟩ = some (.int .u64 r1) ∧ w'.cell? ⟨w.heap.size + 1, 4, none⟩ = some (.slice r2 r3 r4))
          ((repeat (first | with_reducible exact S0.out | with_reducible refine bare10_keep ?_ b5 | with_reducible refine bare10_keep ?_ b4 | with_reducible refine bare10_keep ?_ b3 | with_reducible refine bare10_keep ?_ b2 | with_reducible refine bare10_keep ?_ b1 | with_reducible refine bare10_keep ?_ ((Below.refl _ _).drew))))
          (first
            | (go_at_call_of 60 (Value.agg #[.bool s2, .int .u64 p1, .slice p2 p3 p4, .int .u64 r1, .slice r2 r3 r4]); refine (lower_low _ _ s2 n2 d2 (HB.out.below (by repeat (first | with_reducible exact Below.refl _ _ | with_reducible refine Below.drew ?_ | with_reducible refine Below.then_below ?_ (alloc_below _ _))))).mono ?_; rintro e w1 ⟨⟨qa, rfl, da⟩, b1⟩)
            | (go_at_call_of 75 (Value.agg #[.int .u64 x1, .slice x2 x3 x4]); refine (natMul_calls _ _ _ n1 (lowN d2) K (A1.out.below (by repeat (first | with_reducible exact Below.refl _ _ | with_reducible refine Below.drew ?_ | with_reducible refine Below.then_below ?_ (alloc_below _ _) | with_reducible refine Below.then_below ?_ b1))) da k1.out l2.out hK).mono ?_; rintro e w2 ⟨⟨qb, rfl, db⟩, b2⟩)
            | (go_at_call_of 60 (Value.agg #[.bool s1, .int .u64 x1, .slice x2 x3 x4, .int .u64 y1, .slice y2 y3 y4]); refine (lower_low _ _ s1 n1 d1 (HA.out.below (by repeat (first | with_reducible exact Below.refl _ _ | with_reducible refine Below.drew ?_ | with_reducible refine Below.then_below ?_ (alloc_below _ _) | with_reducible refine Below.then_below ?_ b2 | with_reducible refine Below.then_below ?_ b1)))).mono ?_; rintro e w3 ⟨⟨qc, rfl, dc⟩, b3⟩)
            | (go_at_call_of 75 (Value.agg #[.int .u64 p1, .slice p2 p3 p4]); refine (natMul_calls _ _ _ n2 (lowN d1) K (N1.out.below (by repeat (first | with_reducible exact Below.refl _ _ | with_reducible refine Below.drew ?_ | with_reducible refine Below.then_below ?_ (alloc_below _ _) | with_reducible refine Below.then_below ?_ b3 | with_reducible refine Below.then_below ?_ b2 | with_reducible refine Below.then_below ?_ b1))) dc k2.out l1.out hK).mono ?_; rintro e w4 ⟨⟨qd, rfl, dd⟩, b4⟩)
            | (go_at_call 84; refine (natCmp_c _ _ _ (n1 * lowN d2) (n2 * lowN d1) c hc.out ((db.below b3).below b4) dd).mono ?_; rintro e w5 ⟨rfl, b5⟩))
        go_wp2_with fail
        go_meet
        exact ⟨rfl, hide ((by repeat (first | with_reducible exact Below.refl _ _ | with_reducible refine Below.drew ?_ | with_reducible refine Below.then_below ?_ (alloc_below _ _) | with_reducible refine Below.then_below ?_ b5 | with_reducible refine Below.then_below ?_ b4 | with_reducible refine Below.then_below ?_ b3 | with_reducible refine Below.then_below ?_ b2 | with_reducible refine Below.then_below ?_ b1)))⟩
      case rest =>
        obtain ⟨rfl, B1⟩ := hcut
        go_wp2
        go_ret
        exact ⟨rfl, B0.out.then_below B1.out⟩
set_option maxRecDepth 100000 in
set_option maxHeartbeats 8000000 in
theorem pcmp_eq (w : World) (va vb : Value) (s1 : Bool) (n1 d1 n2 d2 K : Nat) (ha : DenR w va s1 n1 d1) (hb : DenR w vb s1 n2 d2) (k1 : (n1 : Int) < M.BB ^ K) (l1 : ((lowN d1 : Nat) : Int) < M.BB ^ K) (k2 : (n2 : Int) < M.BB ^ K) (l2 : ((lowN d2 : Nat) : Int) < M.BB ^ K) (hK : K ≤ 4398046511104) (c : Int) (hc : M.cmp (n1 * lowN d2 : Nat) (n2 * lowN d1 : Nat) = c) :
    Calls Tryz.prog 43 #[va, vb] w fun e w' => e = .returned (.int .i64 (if s1 then - c else c)) ∧ Below w.heap.size w w' := by
  have ha' := hide ha
  have hb' := hide hb
  obtain ⟨x1, x2, x3, x4, y1, y2, y3, y4, rfl, a1, a2⟩ := ha
  obtain ⟨p1, p2, p3, p4, r1, r2, r3, r4, rfl, b1, b2⟩ := hb
  have z1 : (w.alloc (.cells #[.bool s1, .int .u64 x1, .slice x2 x3 x4, .int .u64 y1, .slice y2 y3 y4] 92)).heap.size = w.heap.size + 1 := by show (w.heap.push _).size = _; simp
  have P0 := kept_block (heap_alloc_new w (.cells #[.bool s1, .int .u64 x1, .slice x2 x3 x4, .int .u64 y1, .slice y2 y3 y4] 92)) (alloc_below _ (.cells #[.bool s1, .int .u64 p1, .slice p2 p3 p4, .int .u64 r1, .slice r2 r3 r4] 92))
  have Q0 := heap_alloc_new (w.alloc (.cells #[.bool s1, .int .u64 x1, .slice x2 x3 x4, .int .u64 y1, .slice y2 y3 y4] 92)) (.cells #[.bool s1, .int .u64 p1, .slice p2 p3 p4, .int .u64 r1, .slice r2 r3 r4] 92)
  rw [z1] at Q0
  have B0 := alloc2_below w (.cells #[.bool s1, .int .u64 x1, .slice x2 x3 x4, .int .u64 y1, .slice y2 y3 y4] 92) (.cells #[.bool s1, .int .u64 p1, .slice p2 p3 p4, .int .u64 r1, .slice r2 r3 r4] 92)
  clear z1
  obtain ⟨W0, hW0⟩ : ∃ W0, ((w.alloc (.cells #[.bool s1, .int .u64 x1, .slice x2 x3 x4, .int .u64 y1, .slice y2 y3 y4] 92)).alloc (.cells #[.bool s1, .int .u64 p1, .slice p2 p3 p4, .int .u64 r1, .slice r2 r3 r4] 92)) = W0 := ⟨_, rfl⟩
  rw [hW0] at P0 Q0 B0
  replace P0 := hide P0
  replace Q0 := hide Q0
  replace B0 := hide B0
  replace a1 := hide a1
  replace a2 := hide a2
  replace b1 := hide b1
  replace b2 := hide b2
  obtain ⟨⟨i0, i1, i2, i3, i4⟩, -⟩ := ratBox P0.out
  obtain ⟨⟨j0, j1, j2, j3, j4⟩, -⟩ := ratBox Q0.out
  have HA := hide (ha'.out.below B0.out)
  have HB := hide (hb'.out.below B0.out)
  have A1 := hide (a1.out.below B0.out)
  have N1 := hide (b1.out.below B0.out)
  clear ha' hb' a1 a2 b1 b2
  replace k1 := hide k1
  replace k2 := hide k2
  replace l1 := hide l1
  replace l2 := hide l2
  obtain ⟨hm1, hm2⟩ := cmp_range (n1 * lowN d2 : Nat) (n2 * lowN d1 : Nat)
  rw [hc] at hm1 hm2
  replace hc := hide hc
  have q5 := hide (psizes_calls W0 _ _ s1 s1 n1 d1 n2 d2 K HA.out HB.out k1.out l1.out k2.out l2.out hK c hc.out)
  clear k1 k2 l1 l2 hc
  go_enter Tryz.func43, Tryz.ntmps43
  go_upto_region 5 with fail
  go_cut [5] (fun sx wx => sx = .int .i64 c ∧ Hid (Below W0.heap.size W0 wx))
  case first =>
    go_wp2_with (go_at_call 63; refine q5.out.mono ?_; rintro e w5 ⟨rfl, b5⟩; replace b5 := hide b5)
    go_meet
    exact ⟨rfl, b5⟩
  case rest =>
  obtain ⟨rfl, B1⟩ := hcut
  have BW := hide (B0.out.then_below B1.out)
  obtain ⟨⟨i0, i1, i2, i3, i4⟩, -⟩ := ratBox (kept_block P0.out B1.out)
  cases s1 with
  | true =>
    go_wp2
    go_ret
    exact ⟨rfl, BW.out⟩
  | false =>
    go_wp2
    go_ret
    exact ⟨rfl, BW.out⟩
theorem pcmp_calls (w : World) (va vb : Value) (s1 s2 : Bool) (n1 d1 n2 d2 K : Nat) (ha : DenR w va s1 n1 d1) (hb : DenR w vb s2 n2 d2) (k1 : (n1 : Int) < M.BB ^ K) (l1 : ((lowN d1 : Nat) : Int) < M.BB ^ K) (k2 : (n2 : Int) < M.BB ^ K) (l2 : ((lowN d2 : Nat) : Int) < M.BB ^ K) (hK : K ≤ 4398046511104) :
    Calls Tryz.prog 43 #[va, vb] w fun e w' => e = .returned (.int .i64 (cmpR s1 n1 (lowN d1) s2 n2 (lowN d2))) ∧ Below w.heap.size w w' := by
  unfold cmpR
  by_cases h : s1 = s2
  · subst h
    rw [if_pos rfl]
    exact pcmp_eq w va vb s1 n1 d1 n2 d2 K ha hb k1 l1 k2 l2 hK _ rfl
  · rw [if_neg h]
    exact pcmp_ne w va vb s1 s2 n1 d1 n2 d2 ha hb h
end Go.Proofs.YtlepicdpelkmlaaGreatDoor
