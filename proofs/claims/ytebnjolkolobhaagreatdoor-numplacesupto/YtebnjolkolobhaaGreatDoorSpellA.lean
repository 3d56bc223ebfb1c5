/- Laid together of: SpellMath, NumParse1, RatUpper. -/
import Derived.Test.YtebnjolkolobhaaGreatDoorFieldA
import Derived.Test.YtebnjolkolobhaaGreatDoorReadA
import Derived.Test.YtebnjolkolobhaaGreatDoorMulB
/- ==== SpellMath ==== -/
namespace Go.Proofs.YtebnjolkolobhaaGreatDoor
open Go.RowKit
set_option linter.unusedVariables false
/-- The constant of a number without its sign. -/
def spellP (n d : Nat) : List UInt8 := if d = 0 then Lib.decDigits n ++ [46, 48] else [40, 47, 32] ++ (Lib.decDigits n ++ ([46, 48, 32] ++ (Lib.decDigits d ++ [46, 48, 41])))
/-- The constant of a number. -/
def spellL (s : Bool) (n d : Nat) : List UInt8 := if s then [40, 45, 32] ++ (spellP n d ++ [41]) else spellP n d
def spellT (la : List UInt8) : List UInt8 × Int := if canB la then (spellL (cneg la) (M.dec (cup la)) (cden la), 0) else ([], 1)
theorem spellT_no {la : List UInt8} (h : canB la = false) : spellT la = ([], 1) := by unfold spellT; rw [h]; rfl
theorem spellT_yes {la : List UInt8} (h : CanT la) : spellT la = (spellL (cneg la) (M.dec (cup la)) (cden la), 0) := by unfold spellT; rw [(canB_iff la).2 h]; rfl
theorem digs_ne {u : List UInt8} (h : M.Digs u) (c : UInt8) (hc : c.toNat < 48 ∨ 57 < c.toNat) (j : Nat) (hj : j < u.length) : u.getD j 0 ≠ c := by
  have := digit_at h hj
  intro e
  rw [e] at this
  omega
/-- What Read answers of a numeral, a point and one 0. -/
theorem read_zero (n : Nat) : readText (Lib.decDigits n ++ [46, 48]) = (qT (mkRat n 1), 0) := by
  have hcut : Lib.cut (Lib.decDigits n ++ [46, 48]) [46] = (Lib.decDigits n, [48], true) := by
    have hno : ∀ j, j < (Lib.decDigits n).length → (Lib.decDigits n ++ [46, 48]).getD j 0 ≠ 46 := fun j hj => by
      rw [List.getD_eq_getElem?_getD, List.getElem?_append_left hj, ← List.getD_eq_getElem?_getD]
      exact digs_ne (M.Digs.decDigits n) 46 (by decide) j hj
    rw [cutp_at (Lib.decDigits n ++ [46, 48]) (Lib.decDigits n).length hno (by simp) (by simp [List.getD_eq_getElem?_getD])]
    simp
  unfold readText
  rw [hcut]
  show readParts (Lib.decDigits n) [48] true = _
  rw [read_yes ⟨lit_digits n, fun _ => by decide⟩]
  have hd : M.dec (Lib.decDigits n ++ [48]) = n * 10 := by
    rw [M.dec_append, M.dec_decDigits]
    show n * 10 ^ 1 + 0 = _
    omega
  have e10 : 10 ^ ([48] : List UInt8).length = 10 := rfl
  rw [hd, e10, ← text_same false (n * 10) 10 (by decide), frac_qT false (n * 10) 10 (by decide)]
  have e : mkRat (M.sg false (n * 10)) 10 = mkRat n 1 := by
    rw [Rat.mkRat_eq_iff (by decide) (by decide)]
    show ((n * 10 : Nat) : Int) * (1 : Nat) = (n : Int) * (10 : Nat)
    push_cast
    omega
  rw [e]
theorem can_spell {la : List UInt8} (h : CanT la) : qV la = if cneg la then 0 - mkRat (M.dec (cup la)) (lowN (cden la)) else mkRat (M.dec (cup la)) (lowN (cden la)) := by
  rw [lowN_can h]
  unfold qV M.sg
  cases cneg la with
  | false => rfl
  | true =>
    simp only [if_true]
    rw [← Rat.neg_mkRat]
    grind
theorem quo_spell (n d : Nat) (hd : d ≠ 0) : (mkRat n 1 : Rat) / mkRat d 1 = mkRat n d := by
  have := M.mk_div false false n 1 d 1
  simp only [M.sg] at this
  simpa using this.symm
end Go.Proofs.YtebnjolkolobhaaGreatDoor
/- ==== NumParse1 ==== -/
namespace Go.Proofs.YtebnjolkolobhaaGreatDoor
open Go.RowKit
set_option linter.unusedVariables false
theorem run_make_one (w : World) : (Instr.makeSlice 37 (.int .i64 1) (.int .i64 1)).run Tryz.prog w = .ok (.slice (some ⟨w.heap.size, 0, none⟩) 1 1) (w.alloc (.cells #[.bool false, .int .u64 0, .slice none 0 0, .int .u64 0, .slice none 0 0] 45)) := by
  obtain ⟨i, hi, hz0, hz1, hz2⟩ := info_parts infoRat
  have hrun := run_make (P := Tryz.prog) w 37 45 i (.agg #[.bool false, .int .u64 0, .slice none 0 0, .int .u64 0, .slice none 0 0]) sliceRat hi hz0 .i64 .i64 1 1 (by omega) (Int.le_refl _) (by rw [hz2]; decide) (by decide)
  rw [hz1] at hrun
  refine hrun.trans ?_
  kernel_rfl
def OneS (w wr : World) (la : List UInt8) : Prop := ∃ (b1 : Bool) (x1 : Int) (x2 : Option Addr) (x3 x4 : Nat) (y1 : Int) (y2 : Option Addr) (y3 y4 : Nat), wr.heap[w.heap.size]? = some (.cells #[.bool b1, .int .u64 x1, .slice x2 x3 x4, .int .u64 y1, .slice y2 y3 y4] 45 (0, 0)) ∧ DenR wr (.agg #[.bool b1, .int .u64 x1, .slice x2 x3 x4, .int .u64 y1, .slice y2 y3 y4]) (cneg la) (M.dec (cup la)) (if cslash la then M.dec (clow la) else 0) ∧ Below w.heap.size w wr
set_option maxRecDepth 100000 in
set_option maxHeartbeats 4000000 in
theorem parse_single (w : World) (sa : ByteArray) (la : List UInt8) (ha : sa.data.toList = la) (hla : la.length ≤ 1073741824) (g cap : Nat) (hc0 : w.cell? ⟨g, 0, none⟩ = some (.string sa))
    (m : Int) (hM : w.cell? ⟨0, 0, none⟩ = some (.int .i64 m)) (hT : Tab w) (ka : Bool) (hka : ka = true ↔ CanT la) :
    Calls Tryz.prog 29 #[.slice (some ⟨g, 0, none⟩) 1 cap] w fun e w' => ((ka = true → e = .returned (.tuple #[.slice (some ⟨w.heap.size, 0, none⟩) 1 1, .bool true]) ∧ OneS w w' la) ∧ (ka = false → e = .returned (.tuple #[.slice none 0 0, .bool false]))) ∧ Below w.heap.size w w' := by
  have mk := run_make_one w
  obtain ⟨W0, hW0⟩ : ∃ W0, w.alloc (.cells #[.bool false, .int .u64 0, .slice none 0 0, .int .u64 0, .slice none 0 0] 45) = W0 := ⟨_, rfl⟩
  rw [hW0] at mk
  have A0 : Hid (W0.heap[w.heap.size]? = some (.cells #[.bool false, .int .u64 0, .slice none 0 0, .int .u64 0, .slice none 0 0] 45 (0, 0))) := by rw [← hW0]; exact heap_alloc_new w _
  have B0 : Hid (Below w.heap.size w W0) := by rw [← hW0]; exact alloc_below w _
  clear hW0
  have q1 := hide (fun W (b : Below w.heap.size w W) => parse_one W sa la ha hla m (by rw [b.cell (World.block_lt_of_cell? w _ hM)]; exact hM) (hT.below b) ka hka)
  have c0 := hide (fun W (b : Below w.heap.size w W) => (show W.cell? ⟨g, 0, none⟩ = some (.string sa) by rw [b.cell (World.block_lt_of_cell? w _ hc0)]; exact hc0))
  replace hka := hide hka
  clear hc0 hM hT ha
  go_enter Tryz.func29, Tryz.ntmps29
  go_wp2
  go_loopw [14] (fun i wr => (i = .int .i64 0 ∧ wr = W0) ∨ (i = .int .i64 1 ∧ ka = true ∧ Hid (OneS w wr la))) (fun i _ => 1 - (intOf i).toNat)
  case atStart => exact .inl ⟨rfl, rfl⟩
  case round =>
    rcases hrel with ⟨rfl, hw⟩ | ⟨rfl, hka1, h2⟩
    · replace hw := hw.symm
      subst hw
      have e0 := c0.out W0 B0.out
      cases ka with
      | false =>
        go_wp2_with (go_at_call 71; refine (q1.out W0 B0.out).mono ?_; rintro e wa ⟨⟨b1, x1, x2, x3, x4, y1, y2, y3, y4, rfl, h1⟩, ba⟩; replace h1 := hide h1; replace ba := hide ba)
        go_ret2
        exact ⟨rfl, (B0.out.then_below ba.out).then_below (alloc_below wa _)⟩
      | true =>
        go_wp2_with (go_at_call 71; refine (q1.out W0 B0.out).mono ?_; rintro e wa ⟨⟨b1, x1, x2, x3, x4, y1, y2, y3, y4, rfl, h1⟩, ba⟩; have A1 := hide (kept_block (kept_block A0.out ba) (alloc_below wa (.cells #[.bool b1, .int .u64 x1, .slice x2 x3 x4, .int .u64 y1, .slice y2 y3 y4] 45))); obtain ⟨⟨z0, z1, z2, z3, z4⟩, f0, f1, f2, f3, f4⟩ := ratBox A1.out; replace h1 := hide ((h1 (hka.out.1 rfl)).below (alloc_below wa (.cells #[.bool b1, .int .u64 x1, .slice x2 x3 x4, .int .u64 y1, .slice y2 y3 y4] 45))); replace ba := hide ((B0.out.then_below ba).then_below (alloc_below wa (.cells #[.bool b1, .int .u64 x1, .slice x2 x3 x4, .int .u64 y1, .slice y2 y3 y4] 45))))
        refine ⟨.inr ⟨rfl, trivial, ?_⟩, by decide⟩
        have q := set5 (wa.alloc (.cells #[.bool b1, .int .u64 x1, .slice x2 x3 x4, .int .u64 y1, .slice y2 y3 y4] 45)) w.heap.size (.bool b1) (.int .u64 x1) (.slice x2 x3 x4) (.int .u64 y1) (.slice y2 y3 y4)
        exact ⟨b1, x1, x2, x3, x4, y1, y2, y3, y4, lo5 A1.out _ _ _ _ _, h1.out.keep A1.out (nopair5 _ _ _ _ _ _ _ _ _) q, ba.out.then_grown q (by rintro g ⟨⟩; exact Nat.le_refl _)⟩
    · subst hka1
      have hB : Hid (Below w.heap.size w wr) := by
        obtain ⟨b1, x1, x2, x3, x4, y1, y2, y3, y4, -, -, h⟩ := h2.out
        exact h
      go_wp2
      go_ret2
      exact ⟨⟨rfl, h2.out⟩, hB.out⟩
end Go.Proofs.YtebnjolkolobhaaGreatDoor
/- ==== RatUpper ==== -/
namespace Go.Proofs.YtebnjolkolobhaaGreatDoor
open Go.RowKit
set_option linter.unusedVariables false
set_option maxRecDepth 100000 in
set_option maxHeartbeats 4000000 in
theorem upper_calls (w : World) (v : Value) (neg : Bool) (n d : Nat) (h : DenR w v neg n d) :
    Calls Tryz.prog 30 #[v] w fun e w' => (∃ r, e = .returned r ∧ Den w' r n) ∧ Below w.heap.size w w' := by
  obtain ⟨x1, x2, x3, x4, y1, y2, y3, y4, rfl, h1, h2⟩ := h
  obtain ⟨X1, Y1, -⟩ := two_new w (.cells #[.bool neg, .int .u64 x1, .slice x2 x3 x4, .int .u64 y1, .slice y2 y3 y4] 45) (.cells #[.int .u64 0, .slice none 0 0] 43)
  have B0 := alloc2_below w (.cells #[.bool neg, .int .u64 x1, .slice x2 x3 x4, .int .u64 y1, .slice y2 y3 y4] 45) (.cells #[.int .u64 0, .slice none 0 0] 43)
  obtain ⟨W0, hW0⟩ : ∃ W0, (w.alloc (.cells #[.bool neg, .int .u64 x1, .slice x2 x3 x4, .int .u64 y1, .slice y2 y3 y4] 45)).alloc (.cells #[.int .u64 0, .slice none 0 0] 43) = W0 := ⟨_, rfl⟩
  rw [hW0] at X1 Y1 B0
  have D1 := hide (h1.below B0)
  obtain ⟨⟨t0, t1, t2, t3, t4⟩, -⟩ := ratBox X1
  obtain ⟨z0, z1, f0, f1⟩ := box_facts Y1
  replace X1 := hide X1
  replace Y1 := hide Y1
  replace B0 := hide B0
  clear h1 h2
  go_enter Tryz.func30, Tryz.ntmps30
  go_wp2
  refine bodyPost_ret (v := .agg #[.int .u64 x1, .slice x2 x3 x4]) (by simp [results, Tryz.results30, go_sem, z0, z1]) rfl ?_
  have q := box_grown W0 (w.heap.size + 1) (.int .u64 x1) (.slice x2 x3 x4)
  exact ⟨⟨_, rfl, D1.out.kept q (D1.out.notin (nopair2 _ _ _ _) Y1.out)⟩, B0.out.then_grown q (by rintro g ⟨⟩; omega)⟩
end Go.Proofs.YtebnjolkolobhaaGreatDoor
