/-
  The tables that start-up lays, read off a row's list; a world that holds them.
-/
import Derived.Test.YtlepicdpelkmlaaGreatDoorRows
import Derived.Test.YtlepicdpelkmlaaGreatDoorPickLaw
import Derived.Lib.LaidTab
import Derived.Lib.TrailingZeros
import Derived.Lib.ItoaNum
import Derived.Deep.DeepHandedRow
import Derived.LaidMore
import Derived.Shelf.Vars
import Derived.ProofKit
namespace Go.Proofs.YtlepicdpelkmlaaGreatDoor
open Go.RowKit
set_option linter.unusedVariables false
theorem g64 : Tryz.prog.globalNamed "math/bits.deBruijn64tab" = some 2 := by kernel_rfl
theorem gPow : Tryz.prog.globalNamed "internal/strconv.uint64pow10" = some 4 := by kernel_rfl
theorem t64 : ∃ t, (Tryz.prog.globals[2]?).map (·.type) = some t ∧ Tryz.prog.underlying t = some (.array 64 5) ∧ Tryz.prog.cellsOf t = 64 := ⟨179, by kernel_rfl, by kernel_rfl, by kernel_rfl⟩
theorem tPow : ∃ t, (Tryz.prog.globals[4]?).map (·.type) = some t ∧ Tryz.prog.underlying t = some (.array 20 87) ∧ Tryz.prog.cellsOf t = 20 := ⟨188, by kernel_rfl, by kernel_rfl, by kernel_rfl⟩
theorem c8 : Tryz.prog.cellsOf 5 = 1 := by kernel_rfl
theorem c64 : Tryz.prog.cellsOf 87 = 1 := by kernel_rfl
theorem d64 : (Rows.laid_math_bits_deBruijn64tab : DataW Unit) = Lib.tabData .u8 (Lib.deBruijn64tab.map (fun z : Nat => (z : Int))) := by kernel_rfl
theorem dPow : (Rows.laid_internal_strconv_uint64pow10 : DataW Unit) = Lib.tabData .u64 Lib.pow10Tab := by kernel_rfl
theorem gZero : Tryz.prog.globalNamed "arbiter/lin.zero" = some 1 := by kernel_rfl
theorem gOne : Tryz.prog.globalNamed "arbiter/lin.one" = some 0 := by kernel_rfl
theorem tNum0 : (Tryz.prog.globals[1]?).map (·.type) = some 46 := by kernel_rfl
theorem tNum1 : (Tryz.prog.globals[0]?).map (·.type) = some 46 := by kernel_rfl
theorem underNum : ∃ f0 : Field, Tryz.prog.underlying 46 = some (.struct #[f0]) ∧ f0.offset = 0 ∧ f0.type = 9 := ⟨_, Tryz.underlying46, rfl, rfl⟩
theorem cellsNum : Tryz.prog.cellsOf 46 = 1 := by kernel_rfl
set_option maxRecDepth 100000 in
theorem num_of_trod {W : World} {nm : String} {g : Nat} {cs : Array Value} {b : UInt8} {f : Nat} {base : Nat} {sp : Nat → Bool} {held : Bool} {enc : TypeId × Value → Unit} {ps : List MemPlace} (hg : Tryz.prog.globalNamed nm = some g) (hv : W.var? Tryz.prog nm = some cs)
    (h : DataW.trod enc Tryz.prog W base sp held f 46 cs.toList = some (.agg [.lit (.string [b])], ps)) : W.cell? ⟨g, 0, none⟩ = some (.string ⟨#[b]⟩) := by
  obtain ⟨f0, hu, o0, t0⟩ := underNum
  obtain ⟨xs, k, hk, hxy, hcl, hxl, hf⟩ := DataW.trod_struct hu h
  rw [cellsNum] at hcl
  obtain ⟨l⟩ := cs
  match l, hcl with
  | [v0], _ =>
    match xs, hxl with
    | [y0], _ =>
      have g0 := hf 0 f0 rfl
      simp [o0, t0, cellsStr] at g0
      obtain ⟨s, e0, z0, -⟩ := DataW.trod_string Tryz.underlying9 g0
      have ev : v0 = .string s := by simpa using e0
      subst ev
      have ed := (Prod.mk.inj hxy).1
      rw [z0] at ed
      have es : [b] = s.data.toList := by simpa using ed
      have hs : s = ⟨#[b]⟩ := by
        obtain ⟨d⟩ := s
        congr 1
        exact Array.toList_inj.1 es.symm
      subst hs
      unfold World.var? at hv
      rw [hg] at hv
      simp only [Option.bind_some] at hv
      unfold World.cell?
      cases hb : W.heap[g]? with
      | none => rw [hb] at hv; simp at hv
      | some o =>
        rw [hb] at hv
        cases o with
        | cells c T fz =>
          simp only [Option.some.injEq] at hv
          subst hv
          simp
        | _ => simp at hv
/-- What the row's list gives. -/
theorem ltabs_of {W : World} (h : laidMetH Tryz.prog [("math/bits.deBruijn32tab", Rows.laid_math_bits_deBruijn32tab), ("math/bits.deBruijn64tab", Rows.laid_math_bits_deBruijn64tab), ("internal/strconv.uint64pow10", Rows.laid_internal_strconv_uint64pow10), ("unicode/utf8.acceptRanges", Rows.laid_unicode_utf8_acceptRanges), ("arbiter/lin.zero", Rows.laid_arbiter_lin_zero), ("arbiter/lin.one", Rows.laid_arbiter_lin_one), ("unicode/utf8.first", Rows.laid_unicode_utf8_first)] W) :
    (Lib.TabIs Tryz.prog W "math/bits.deBruijn64tab" .u8 (Lib.deBruijn64tab.map (fun z : Nat => (z : Int))) ∧ Lib.TabIs Tryz.prog W "internal/strconv.uint64pow10" .u64 Lib.pow10Tab) ∧ W.cell? ⟨1, 0, none⟩ = some (.string ⟨#[48]⟩) ∧ W.cell? ⟨0, 0, none⟩ = some (.string ⟨#[49]⟩) := by
  rw [MakeChecks.laidMetH_plain _ _ _ (by kernel_rfl)] at h
  obtain ⟨ps, ⟨g0, t0, cs0, f0, p0, q0, hg0, ht0, hv0, hd0, ⟨g1, t1, cs1, f1, p1, q1, hg1, ht1, hv1, hd1, ⟨g2, t2, cs2, f2, p2, q2, hg2, ht2, hv2, hd2, ⟨g3, t3, cs3, f3, p3, q3, hg3, ht3, hv3, hd3, ⟨g4, t4, cs4, f4, p4, q4, hg4, ht4, hv4, hd4, ⟨g5, t5, cs5, f5, p5, q5, hg5, ht5, hv5, hd5, _, _⟩, _⟩, _⟩, _⟩, _⟩, _⟩, _, _⟩ := h
  obtain rfl := Option.some.inj (g64.symm.trans hg1)
  obtain rfl := Option.some.inj (gPow.symm.trans hg2)
  obtain rfl := Option.some.inj (gZero.symm.trans hg4)
  obtain rfl := Option.some.inj (gOne.symm.trans hg5)
  obtain ⟨u1, a1, b1, k1⟩ := t64
  obtain ⟨u2, a2, b2, k2⟩ := tPow
  obtain rfl := Option.some.inj (a1.symm.trans ht1)
  obtain rfl := Option.some.inj (a2.symm.trans ht2)
  obtain rfl := Option.some.inj (tNum0.symm.trans ht4)
  obtain rfl := Option.some.inj (tNum1.symm.trans ht5)
  rw [d64] at hd1
  rw [dPow] at hd2
  refine ⟨⟨?_, ?_⟩, num_of_trod gZero hv4 hd4, num_of_trod gOne hv5 hd5⟩
  · unfold Lib.TabIs
    rw [hv1, ← Lib.cells_of_tab b1 (by kernel_rfl) c8 k1 hd1]
  · unfold Lib.TabIs
    rw [hv2, ← Lib.cells_of_tab b2 (by kernel_rfl) c64 k2 hd2]
theorem maxLen_of {W : World} (h : W.ShapedOpen Tryz.prog) : ∃ m, W.cell? ⟨3, 0, none⟩ = some (.int .i64 m) :=
  cell_of_shapedOpen_int (zero := #[.int .i64 0]) (t := 3) h (of_decide_eq_true (by kernel_rfl)) (by kernel_rfl) rfl (by kernel_rfl) (by kernel_rfl) (by kernel_rfl)
/-- A world that holds the tables. -/
theorem lin_met (os : Os) (args : Array Value) : laidMet Tryz.prog [("math/bits.deBruijn32tab", Rows.laid_math_bits_deBruijn32tab), ("math/bits.deBruijn64tab", Rows.laid_math_bits_deBruijn64tab), ("internal/strconv.uint64pow10", Rows.laid_internal_strconv_uint64pow10), ("unicode/utf8.acceptRanges", Rows.laid_unicode_utf8_acceptRanges), ("arbiter/lin.zero", Rows.laid_arbiter_lin_zero), ("arbiter/lin.one", Rows.laid_arbiter_lin_one), ("unicode/utf8.first", Rows.laid_unicode_utf8_first)] (({ World.holding Tryz.prog os ⟨#[], #[], []⟩ with heap := (((((((((World.holding Tryz.prog os ⟨#[], #[], []⟩).heap).modify 9 (fun | .cells _ t fz => .cells ((Lib.deBruijn32tab.map (fun z : Nat => Value.int .u8 (z : Int))).toArray) t fz | o => o)).modify 2 (fun | .cells _ t fz => .cells ((Lib.deBruijn64tab.map (fun z : Nat => Value.int .u8 (z : Int))).toArray) t fz | o => o)).modify 4 (fun | .cells _ t fz => .cells ((Lib.pow10Tab.map (fun z : Int => Value.int .u64 z)).toArray) t fz | o => o)).modify 6 (fun | .cells _ t fz => .cells ((([128, 191, 160, 191, 128, 159, 144, 191, 128, 143, 0, 0, 0, 0, 0, 0, 0, 0, 0, 0, 0, 0, 0, 0, 0, 0, 0, 0, 0, 0, 0, 0] : List Int).map (fun z : Int => Value.int .u8 z)).toArray) t fz | o => o)).modify 1 (fun | .cells _ t fz => .cells #[.string ⟨#[48]⟩] t fz | o => o)).modify 0 (fun | .cells _ t fz => .cells #[.string ⟨#[49]⟩] t fz | o => o)).modify 5 (fun | .cells _ t fz => .cells ((Pinned.utf8FirstZ.map (fun z : Nat => Value.int .u8 (z : Int))).toArray) t fz | o => o)) } : World).forCall (fun _ _ => 0) ⟨#[], args, []⟩).memory :=
  laidMet_of_run' 8 (by kernel_rfl) (by kernel_rfl)
end Go.Proofs.YtlepicdpelkmlaaGreatDoor
