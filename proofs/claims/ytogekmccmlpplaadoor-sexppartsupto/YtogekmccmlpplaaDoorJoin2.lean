/-
  The library's Builder, at this program.
-/
import Derived.Test.YtogekmccmlpplaaDoorJoin1
import Derived.Shelf.Strings.BuilderK
namespace Go.Proofs.YtogekmccmlpplaaDoor
open Go.RowKit Go.Lib
set_option linter.unusedVariables false
def renB : Go.Shelf.Ren := ⟨fun | 167 => 40 | n => Tryd.lays154_ren.f n, Tryd.lays154_ren.t, Tryd.lays154_ren.g⟩
theorem laysB : Lays.n167 Tryd.prog renB := { Tryd.lays154 with f167 := by kernel_rfl, f240 := by kernel_rfl, f276 := by kernel_rfl }
theorem extraB : Builder.Extra Tryd.prog renB := {
  sizeBuilder := by kernel_rfl
  liesBuilder := by kernel_rfl
  t5 := Tryd.underlying5
  a5 := Tryd.isAgg5
  z5 := Tryd.sizeOf5
  v5 := Tryd.zeroValue5
  infoByte := by kernel_rfl
  cellsByte := by kernel_rfl
  sizeByte := by kernel_rfl
  neB5 := by decide }
theorem laysW : Lays.n166 Tryd.prog Tryd.lays154_ren := { Tryd.lays154 with }
theorem writeByte_k (B b : Nat) (bs : List Value) (c : Int) (w : World) (h : Lib.IsBuilderF 91 5 B b bs w) (hlen : bs.length + 1 ≤ 140737488355328) (hBw : B ≤ w.heap.size) :
    Calls Tryd.prog 40 #[.pointer (some ⟨b, 0, none⟩), .int .u8 c] w fun e w' => e = .returned .nilIface ∧ (Lib.BuilderAtF 91 5 B b (.pointer (some ⟨b, 0, none⟩)) (bs ++ [.int .u8 c]) w' ∧ Below B w w' ∧ Lib.OthersKept 5 (some b) w w') :=
  Any.Builder_WriteByte_k laysB extraB B b bs c w h hlen hBw
theorem writeString_k (B b : Nat) (bs : List Value) (s : ByteArray) (w : World) (h : Lib.IsBuilderF 91 5 B b bs w) (hlen : bs.length + s.size ≤ 140737488355328) (hBw : B ≤ w.heap.size) :
    Calls Tryd.prog 39 #[.pointer (some ⟨b, 0, none⟩), .string s] w fun e w' => e = .returned (.tuple #[.int .i64 s.size, .nilIface]) ∧ (Lib.BuilderAtF 91 5 B b (.pointer (some ⟨b, 0, none⟩)) (bs ++ Lib.strCells s) w' ∧ Below B w w' ∧ Lib.OthersKept 5 (some b) w w') :=
  Any.Builder_WriteString_k laysW Tryd.Builder_Extra_154 B b bs s w h hlen hBw
theorem string_k (B b : Nat) (l : List UInt8) (w : World) (h : Lib.IsBuilderF 91 5 B b (Lib.byteCells l) w) (hBw : B ≤ w.heap.size) :
    Calls Tryd.prog 41 #[.pointer (some ⟨b, 0, none⟩)] w fun e w' => e = .returned (.string ⟨l.toArray⟩) ∧ (Lib.IsBuilderF 91 5 B b (Lib.byteCells l) w' ∧ Below B w w' ∧ Lib.OthersKept 5 (some b) w w') :=
  Tryd.Builder_String_any_k B b l w h hBw
/-- A token as it is handed in: any numbers. -/
structure J where
  kind : Int
  beg : Int
  fin : Int
  text : List UInt8
abbrev j0 : J := ⟨0, 0, 0, []⟩
/-- The slice value v holds the tokens ts. -/
def JRow (w : World) (v : Value) (ts : List J) : Prop :=
  ∃ a cap, v = .slice a ts.length cap ∧ ts.length ≤ cap ∧ cap ≤ 9223372036854775807 ∧
    (ts ≠ [] → ∃ b off, a = some ⟨b, off, none⟩ ∧ ∀ j, j < ts.length →
      w.cell? ⟨b, off + j * 4, none⟩ = some (.int .i64 (ts.getD j j0).kind) ∧
      w.cell? ⟨b, off + j * 4 + 1, none⟩ = some (.int .i64 (ts.getD j j0).beg) ∧
      w.cell? ⟨b, off + j * 4 + 2, none⟩ = some (.int .i64 (ts.getD j j0).fin) ∧
      w.cell? ⟨b, off + j * 4 + 3, none⟩ = some (.string ⟨(ts.getD j j0).text.toArray⟩))
theorem JRow.below {w w' : World} {v : Value} {ts : List J} (h : JRow w v ts) (q : Below w.heap.size w w') : JRow w' v ts := by
  obtain ⟨a, cap, rfl, h1, h2, h4⟩ := h
  refine ⟨a, cap, rfl, h1, h2, fun hne => ?_⟩
  obtain ⟨g, off, rfl, hc⟩ := h4 hne
  refine ⟨g, off, rfl, fun j hj => ?_⟩
  obtain ⟨c0, c1, c2, c3⟩ := hc j hj
  have hg : g < w.heap.size := World.block_lt_of_cell? w _ c0
  exact ⟨(q.cell (p := ⟨g, _, none⟩) hg).trans c0, (q.cell (p := ⟨g, _, none⟩) hg).trans c1, (q.cell (p := ⟨g, _, none⟩) hg).trans c2, (q.cell (p := ⟨g, _, none⟩) hg).trans c3⟩
theorem JRow.shape {w : World} {v : Value} {ts : List J} (h : JRow w v ts) : ∃ a cap, v = .slice a ts.length cap ∧ ts.length ≤ cap ∧ cap ≤ 9223372036854775807 := by
  obtain ⟨a, cap, rfl, h1, h2, h4⟩ := h
  exact ⟨a, cap, rfl, h1, h2⟩
theorem JRow.at_ {w : World} {a : Option Addr} {n cap : Nat} {ts : List J} (h : JRow w (.slice a n cap) ts) {j : Nat} (hj : j < ts.length) :
    ∃ b off, a = some ⟨b, off, none⟩ ∧ w.cell? ⟨b, off + j * 4, none⟩ = some (.int .i64 (ts.getD j j0).kind) ∧
      w.cell? ⟨b, off + j * 4 + 1, none⟩ = some (.int .i64 (ts.getD j j0).beg) ∧
      w.cell? ⟨b, off + j * 4 + 2, none⟩ = some (.int .i64 (ts.getD j j0).fin) ∧
      w.cell? ⟨b, off + j * 4 + 3, none⟩ = some (.string ⟨(ts.getD j j0).text.toArray⟩) := by
  obtain ⟨a', cap', e, h1, h2, h4⟩ := h
  cases e
  obtain ⟨b, off, rfl, hc⟩ := h4 (by intro e; rw [e] at hj; simp at hj)
  exact ⟨b, off, rfl, hc j hj⟩
def jk (ts : List J) : List (Int × List UInt8) := ts.map fun t => (t.kind, t.text)
/-- How long it can become. -/
def jtot : List J → Nat
  | [] => 0
  | t :: r => 2 * t.text.length + 3 + jtot r
theorem jtot_append (a b : List J) : jtot (a ++ b) = jtot a + jtot b := by
  induction a with
  | nil => simp [jtot]
  | cons t r ih => simp only [List.cons_append, jtot, ih]; omega
theorem quo_len (l : List UInt8) : ((S.quo resv l).getD []).length ≤ 2 * l.length + 2 := by
  unfold S.quo
  repeat' split
  all_goals simp
  all_goals omega
theorem lit_len (l : List UInt8) : ((S.lit l).getD []).length ≤ 2 * l.length + 2 := by
  unfold S.lit
  have := S.dbl_len l
  split
  all_goals simp
  all_goals omega
theorem spl_len (k : Int) (l : List UInt8) : ((S.spl resv k l).getD []).length ≤ 2 * l.length + 2 := by
  unfold S.spl
  have h1 := quo_len l
  have h2 := lit_len l
  repeat' split
  all_goals first | exact h1 | exact h2 | (simp; done) | (simp; omega)
end Go.Proofs.YtogekmccmlpplaaDoor
