/-
  Lists of nodes in memory.
-/
import Derived.Test.YtogekmccmlpplaaDoorTextBase
import Derived.Laws.AppendOwn
namespace Go.Proofs.YtogekmccmlpplaaDoor
open Go.RowKit
set_option linter.unusedVariables false
/-- A node: its kind, place, end, size and text. -/
structure Nd where
  kind : Int
  pos : Int
  fin : Int
  size : Int
  text : ByteArray
def Nd.cells (x : Nd) : List Value := [.int .i64 x.kind, .int .i64 x.pos, .int .i64 x.fin, .int .i64 x.size, .string x.text]
def Nd.z : Nd := ⟨0, 0, 0, 0, ByteArray.empty⟩
/-- May the node stand at i, in a list that ends at hi? -/
def Nd.ok (x : Nd) (i hi : Int) : Prop :=
  (x.kind = 1 ∧ x.text.toList = [] ∧ 1 ≤ x.size ∧ x.size ≤ hi - i) ∨ (x.kind ≠ 1 ∧ 3 ≤ x.kind ∧ x.kind ≤ 10 ∧ x.size = 1)
/-- The slice value v holds the nodes ns, in a block below B. -/
def Nds (B : Nat) (w : World) (v : Value) (ns : List Nd) : Prop :=
  ∃ a cap, v = .slice a ns.length cap ∧ ns.length ≤ cap ∧ (cap ≤ 9223372036854775807 ∧ ns.length ≤ 2932031007402) ∧ (a = none → ns = []) ∧
    (ns ≠ [] → ∃ b off, a = some ⟨b, off, none⟩ ∧ b < B ∧ ∀ j, j < ns.length →
      w.cell? ⟨b, off + j * 5, none⟩ = some (.int .i64 (ns.getD j Nd.z).kind) ∧
      w.cell? ⟨b, off + j * 5 + 1, none⟩ = some (.int .i64 (ns.getD j Nd.z).pos) ∧
      w.cell? ⟨b, off + j * 5 + 2, none⟩ = some (.int .i64 (ns.getD j Nd.z).fin) ∧
      w.cell? ⟨b, off + j * 5 + 3, none⟩ = some (.int .i64 (ns.getD j Nd.z).size) ∧
      w.cell? ⟨b, off + j * 5 + 4, none⟩ = some (.string (ns.getD j Nd.z).text))
theorem Nds.below {B : Nat} {w w' : World} {v : Value} {ns : List Nd} (h : Nds B w v ns) (b : Below B w w') : Nds B w' v ns := by
  obtain ⟨a, cap, rfl, h1, h2, h3, h4⟩ := h
  refine ⟨a, cap, rfl, h1, h2, h3, fun hne => ?_⟩
  obtain ⟨g, off, rfl, hg, hc⟩ := h4 hne
  refine ⟨g, off, rfl, hg, fun j hj => ?_⟩
  obtain ⟨c0, c1, c2, c3, c4⟩ := hc j hj
  exact ⟨(b.cell (p := ⟨g, _, none⟩) hg).trans c0, (b.cell (p := ⟨g, _, none⟩) hg).trans c1, (b.cell (p := ⟨g, _, none⟩) hg).trans c2, (b.cell (p := ⟨g, _, none⟩) hg).trans c3, (b.cell (p := ⟨g, _, none⟩) hg).trans c4⟩
theorem Nds.mono {B B' : Nat} {w : World} {v : Value} {ns : List Nd} (h : Nds B w v ns) (hB : B ≤ B') : Nds B' w v ns := by
  obtain ⟨a, cap, rfl, h1, h2, h3, h4⟩ := h
  refine ⟨a, cap, rfl, h1, h2, h3, fun hne => ?_⟩
  obtain ⟨g, off, rfl, hg, hc⟩ := h4 hne
  exact ⟨g, off, rfl, by omega, hc⟩
end Go.Proofs.YtogekmccmlpplaaDoor
