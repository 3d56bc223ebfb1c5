/-
  The scanner in memory: its block, its text, its list of tokens; what each call of its own methods leaves.
-/
import Derived.Test.YtjbalgjdcdmjjaaDoorTextBase
import Derived.Test.YtjbalgjdcdmjjaaDoorScanModel
import Derived.Laws.EntriesVeiled
import Derived.Laws.AppendOwn
namespace Go.Proofs.YtjbalgjdcdmjjaaDoor
open Go.RowKit
set_option linter.unusedVariables false
theorem unhide {p : Prop} (h : Hid p) : p := h
/-- The scanner's plain fields. -/
structure Sc where
  step : Value
  stop : Value
  i : Nat
  beg : Nat
  kind : Nat
  most : Nat
  cbeg : Nat
  left : Nat
  low : Nat
  top : Nat
  cstep : Value
  cstop : Value
  ended : Bool
  fault : Nat
  place : Nat
def Sc.arr (c : Sc) (tv ov : Value) : Array Value := #[c.step, c.stop, .int .i64 c.i, .int .i64 c.beg, .int .i64 c.kind, .int .u8 c.most, tv, .int .i64 c.cbeg, .int .i64 c.left, .int .u8 c.low, .int .u8 c.top, c.cstep, c.cstop, ov, .bool c.ended, .int .i64 c.fault, .int .i64 c.place]
def str (l : List UInt8) : Value := .string ⟨l.toArray⟩
def tkCells (t : S.Tok) : List Value := [.int .i64 t.kind, .int .i64 t.beg, .int .i64 t.fin, str t.text]
def tksCells : List S.Tok → List Value
  | [] => []
  | t :: r => tkCells t ++ tksCells r
theorem tksCells_append (a b : List S.Tok) : tksCells (a ++ b) = tksCells a ++ tksCells b := by
  induction a with
  | nil => rfl
  | cons t r ih => simp [tksCells, ih]
theorem tksCells_length (a : List S.Tok) : (tksCells a).length = a.length * 4 := by
  induction a with
  | nil => rfl
  | cons t r ih => simp [tksCells, tkCells, ih]; omega
def byteV (b : UInt8) : Value := .int .u8 b.toNat
/-- Foreign blocks are as they were. -/
structure Kp (F : Nat → Prop) (w w' : World) : Prop where
  os : w'.os = w.os
  tape : w'.tape = w.tape
  output : w'.output = w.output
  size : w.heap.size ≤ w'.heap.size
  block : ∀ k, k < w.heap.size → F k → w'.heap[k]? = w.heap[k]?
section
variable {F : Nat → Prop} {w w1 w2 : World}
theorem Kp.refl (F : Nat → Prop) (w : World) : Kp F w w := ⟨rfl, rfl, rfl, Nat.le_refl _, fun _ _ _ => rfl⟩
theorem Kp.trans (a : Kp F w w1) (b : Kp F w1 w2) : Kp F w w2 :=
  ⟨b.os.trans a.os, b.tape.trans a.tape, b.output.trans a.output, Nat.le_trans a.size b.size, fun k hk hF => (b.block k (Nat.lt_of_lt_of_le hk a.size) hF).trans (a.block k hk hF)⟩
theorem Kp.set (a : Kp F w w1) {g : Nat} (hg : ¬ F g) (j : Nat) (u : Value) : Kp F w (w1.setCell ⟨g, j, none⟩ u) :=
  ⟨a.os, a.tape, a.output, by simpa [World.setCell] using a.size, fun k hk hF => (Below.heap_setCell _ _ _ _ (fun e => hg (by cases e; exact hF))).trans (a.block k hk hF)⟩
theorem Kp.drew (a : Kp F w w1) : Kp F w w1.drew := ⟨a.os, a.tape, a.output, a.size, a.block⟩
theorem Kp.drewN (a : Kp F w w1) (n : Nat) : Kp F w (w1.drewN n) := ⟨a.os, a.tape, a.output, a.size, a.block⟩
theorem Kp.alloc (a : Kp F w w1) (o : Obj) : Kp F w (w1.alloc o) :=
  ⟨a.os, a.tape, a.output, by have := a.size; simp; omega, fun k hk hF => (heap_alloc_old w1 o (Nat.lt_of_lt_of_le hk a.size)).trans (a.block k hk hF)⟩
theorem Kp.grown (a : Kp F w w1) {r : Option Nat} (q : w1.grownBy w2 r) (hr : ∀ g, r = some g → ¬ F g) : Kp F w w2 :=
  ⟨q.os.trans a.os, q.tape.trans a.tape, q.output.trans a.output, Nat.le_trans a.size q.size, fun k hk hF => (q.block k (Nat.lt_of_lt_of_le hk a.size) (fun e => hr k e.symm hF)).trans (a.block k hk hF)⟩
end
/-- The classes' table. -/
def clsTab : List Nat := [5, 5, 5, 5, 5, 5, 5, 5, 5, 4, 4, 5, 5, 4, 5, 5, 5, 5, 5, 5, 5, 5, 5, 5, 5, 5, 5, 5, 5, 5, 5, 5, 4, 3, 7, 7, 3, 3, 3, 6, 7, 7, 3, 3, 6, 3, 3, 3, 0, 0, 1, 1, 1, 1, 1, 1, 1, 1, 7, 7, 3, 3, 3, 3, 3, 2, 2, 2, 2, 2, 2, 3, 3, 3, 3, 3, 3, 3, 3, 3, 3, 3, 3, 3, 3, 3, 3, 3, 3, 3, 3, 6, 6, 6, 3, 3, 6, 2, 2, 2, 2, 2, 2, 3, 3, 3, 3, 3, 3, 3, 3, 3, 3, 3, 3, 3, 3, 3, 3, 3, 3, 3, 3, 6, 7, 6, 3, 5]
def cls (n : Nat) : Nat := clsTab.getD n 8
def Cls (w : World) : Prop := ∀ j, j < 256 → w.cell? ⟨1, j, none⟩ = some (.int .u8 (cls j))
theorem Cls.lt {w : World} (h : Cls w) : 1 < w.heap.size := World.block_lt_of_cell? w _ (h 0 (by decide))
theorem Cls.kept {F : Nat → Prop} {w w' : World} (h : Cls w) (hF : F 1) (q : Kp F w w') : Cls w' := by
  intro j hj
  rw [World.cell?_of_block (w := w) (q.block _ h.lt hF)]
  exact h j hj
/-- A scanner at block g: its fields c, its text acc, what it has told and not handed over ts. -/
structure SS (F : Nat → Prop) (w : World) (g : Nat) (c : Sc) (acc : List UInt8) (ts : List S.Tok) (tv ov : Value) : Prop where
  blk : w.heap[g]? = some (.cells (c.arr tv ov) 74 (0, 0))
  mine : ¬ F g
  text : w.ownsRow 0 5 1 tv acc.length (acc.map byteV)
  tmine : ∀ k, tv.ownBlock = some k → ¬ F k
  told : w.ownsRow 0 66 4 ov ts.length (tksCells ts)
  omine : ∀ k, ov.ownBlock = some k → ¬ F k
  cls : Cls w
  cF : F 1
  Flt : ∀ k, F k → k < w.heap.size
section
variable {F : Nat → Prop} {w : World} {g : Nat} {c : Sc} {acc : List UInt8} {ts : List S.Tok} {tv ov : Value}
theorem SS.lt (h : SS F w g c acc ts tv ov) : g < w.heap.size := (Array.getElem?_eq_some_iff.1 h.blk).1
theorem SS.cell (h : SS F w g c acc ts tv ov) (j : Nat) (v : Value) (e : (c.arr tv ov)[j]? = some v) : w.cell? ⟨g, j, none⟩ = some v := by
  rw [cell_of_row w g j _ _ (0, 0) h.blk]
  exact e
theorem SS.frozen (h : SS F w g c acc ts tv ov) (j : Nat) : w.frozen? ⟨g, j, none⟩ = false := by
  have := h.blk
  simp [World.frozen?, this]
theorem SS.cells (h : SS F w g c acc ts tv ov) :
    w.cell? ⟨g, 0, none⟩ = some c.step ∧ w.cell? ⟨g, 1, none⟩ = some c.stop ∧ w.cell? ⟨g, 2, none⟩ = some (.int .i64 c.i) ∧ w.cell? ⟨g, 3, none⟩ = some (.int .i64 c.beg) ∧
    w.cell? ⟨g, 4, none⟩ = some (.int .i64 c.kind) ∧ w.cell? ⟨g, 5, none⟩ = some (.int .u8 c.most) ∧ w.cell? ⟨g, 6, none⟩ = some tv ∧ w.cell? ⟨g, 7, none⟩ = some (.int .i64 c.cbeg) ∧
    w.cell? ⟨g, 8, none⟩ = some (.int .i64 c.left) ∧ w.cell? ⟨g, 9, none⟩ = some (.int .u8 c.low) ∧ w.cell? ⟨g, 10, none⟩ = some (.int .u8 c.top) ∧ w.cell? ⟨g, 11, none⟩ = some c.cstep ∧
    w.cell? ⟨g, 12, none⟩ = some c.cstop ∧ w.cell? ⟨g, 13, none⟩ = some ov ∧ w.cell? ⟨g, 14, none⟩ = some (.bool c.ended) ∧ w.cell? ⟨g, 15, none⟩ = some (.int .i64 c.fault) ∧ w.cell? ⟨g, 16, none⟩ = some (.int .i64 c.place) :=
  ⟨h.cell 0 _ rfl, h.cell 1 _ rfl, h.cell 2 _ rfl, h.cell 3 _ rfl, h.cell 4 _ rfl, h.cell 5 _ rfl, h.cell 6 _ rfl, h.cell 7 _ rfl, h.cell 8 _ rfl, h.cell 9 _ rfl, h.cell 10 _ rfl, h.cell 11 _ rfl, h.cell 12 _ rfl, h.cell 13 _ rfl, h.cell 14 _ rfl, h.cell 15 _ rfl, h.cell 16 _ rfl⟩
/-- The text's block and the told list's are not the scanner's own. -/
theorem SS.tne (h : SS F w g c acc ts tv ov) : tv.ownBlock ≠ some g := by
  intro e
  rcases h.text.2 with ⟨rfl, _⟩ | ⟨b, cap, cur, rfl, _, hb, _⟩
  · simp [Value.ownBlock] at e
  · simp [Value.ownBlock] at e
    subst e
    have := hb.symm.trans h.blk
    simp at this
theorem SS.one (h : SS F w g c acc ts tv ov) : ov.ownBlock ≠ some g := by
  intro e
  rcases h.told.2 with ⟨rfl, _⟩ | ⟨b, cap, cur, rfl, _, hb, _⟩
  · simp [Value.ownBlock] at e
  · simp [Value.ownBlock] at e
    subst e
    have := hb.symm.trans h.blk
    simp at this
theorem SS.tone (h : SS F w g c acc ts tv ov) {b : Nat} (e1 : tv.ownBlock = some b) (e2 : ov.ownBlock = some b) : False := by
  rcases h.text.2 with ⟨rfl, _⟩ | ⟨b1, cap1, cur1, rfl, _, hb1, _⟩
  · simp [Value.ownBlock] at e1
  · rcases h.told.2 with ⟨rfl, _⟩ | ⟨b2, cap2, cur2, rfl, _, hb2, _⟩
    · simp [Value.ownBlock] at e2
    · simp [Value.ownBlock] at e1 e2
      subst e1
      subst e2
      have := hb1.symm.trans hb2
      simp at this
/-- A cell of the scanner is written. -/
theorem ownsRow_set {e : TypeId} {size : Nat} {v : Value} {n : Nat} {xs : List Value} (h : w.ownsRow 0 e size v n xs) (hv : v.ownBlock ≠ some g) (j : Nat) (u : Value) : (w.setCell ⟨g, j, none⟩ u).ownsRow 0 e size v n xs := by
  obtain ⟨h1, h2⟩ := h
  refine ⟨h1, ?_⟩
  rcases h2 with h2 | ⟨b, cap, cur, rfl, h3, hb, h4⟩
  · exact .inl h2
  · refine .inr ⟨b, cap, cur, rfl, h3, ?_, h4⟩
    rw [Below.heap_setCell _ _ _ _ (fun e => hv (by cases e; rfl))]
    exact hb
theorem SS.set (h : SS F w g c acc ts tv ov) (j : Nat) (u : Value) (c' : Sc) (e : (c.arr tv ov).setIfInBounds j u = c'.arr tv ov) : SS F (w.setCell ⟨g, j, none⟩ u) g c' acc ts tv ov := by
  refine ⟨?_, h.mine, ownsRow_set h.text h.tne j u, h.tmine, ownsRow_set h.told h.one j u, h.omine, h.cls.kept h.cF ((Kp.refl F w).set h.mine j u), h.cF, fun k hF => by simpa [World.setCell] using h.Flt k hF⟩
  have := h.blk
  simp only [World.setCell, Array.getElem?_modify, if_pos, this, Option.map_some]
  rw [← e]
  rfl
theorem SS.drew (h : SS F w g c acc ts tv ov) : SS F w.drew g c acc ts tv ov := ⟨h.blk, h.mine, h.text, h.tmine, h.told, h.omine, h.cls, h.cF, h.Flt⟩
theorem SS.drewN (h : SS F w g c acc ts tv ov) (n : Nat) : SS F (w.drewN n) g c acc ts tv ov := ⟨h.blk, h.mine, h.text, h.tmine, h.told, h.omine, h.cls, h.cF, h.Flt⟩
end
/-- What a method call leaves. -/
def Left (F : Nat → Prop) (w w' : World) (g : Nat) (c : Sc) (acc : List UInt8) (ts : List S.Tok) : Prop := (∃ tv ov, SS F w' g c acc ts tv ov) ∧ Kp F w w'
/-- A method's value. -/
def mv (k g : Nat) : Value := .func (.func k) #[.pointer (some ⟨g, 0, none⟩)] #[]
set_option maxRecDepth 100000 in
theorem become_calls {F : Nat → Prop} {w : World} {g : Nat} {c : Sc} {acc : List UInt8} {ts : List S.Tok} {tv ov : Value} (h : SS F w g c acc ts tv ov) (a b : Nat) :
    Calls Tryd.prog 50 #[.pointer (some ⟨g, 0, none⟩), mv a g, mv b g] w fun e w' => e = .returned (.tuple #[]) ∧ Left F w w' g { c with step := mv a g, stop := mv b g } acc ts := by
  obtain ⟨c0, c1, -⟩ := h.cells
  have fz := h.frozen
  have h1 := hide ((h.set 0 (mv a g) { c with step := mv a g } rfl).set 1 (mv b g) { c with step := mv a g, stop := mv b g } rfl)
  have k1 := hide (((Kp.refl F w).set h.mine 0 (mv a g)).set h.mine 1 (mv b g))
  unfold mv at *
  go_enter Tryd.func50, Tryd.ntmps50
  go_wp2
  go_end0
  exact ⟨rfl, ⟨_, _, h1.out⟩, k1.out⟩
end Go.Proofs.YtjbalgjdcdmjjaaDoor
