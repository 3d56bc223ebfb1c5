/-
  What all walks of the packages rat, num and arbiterref1 share: a slice's elements as a list of numbers ('Row'), a block as a list of numbers ('Own').
-/
import Derived.Test.YtigbclhkmjcjjaaProg
import Derived.Test.YtigbclhkmjcjjaaMath
import Derived.WalkKit
import Derived.WalkSpells
import Derived.WalkLawsBesides
import Derived.Laws.CopyOwn
import Derived.Deep.QuietTactic
import Derived.BigQuiet
namespace Go.Proofs.Ytigbclhkmjcjjaa
open Go.RowKit Go.Proofs.Ytigbclhkmjcjjaa.M

/-- The slice value v reads as the numbers l, each of kind k, in the world w. -/
def Row (k : IntKind) (w : World) (v : Value) (l : List Int) : Prop :=
  ∃ ao cap, v = .slice ao l.length cap ∧ l.length ≤ cap ∧ cap ≤ 140737488355328 ∧ (ao = none → cap = 0) ∧
    (l ≠ [] → ∃ b off, ao = some ⟨b, off, none⟩ ∧ ∀ j, j < l.length → w.cell? ⟨b, off + j, none⟩ = some (.int k (l.getD j 0)))

/-- The block g of the world w is just the numbers z, each of kind k, of the element type e; no cell is frozen. -/
def Own (k : IntKind) (e : TypeId) (w : World) (g : Nat) (z : List Int) : Prop :=
  w.heap[g]? = some (.cells (z.map (Value.int k)).toArray e (0, 0))

/-- The length of a slice's value: for a loop's measure. -/
def lenOf : Value → Nat | .slice _ n _ => n | _ => 0

section
variable {k : IntKind} {e : TypeId} {w w' : World} {g : Nat} {z : List Int}
theorem Own.lt (h : Own k e w g z) : g < w.heap.size := (Array.getElem?_eq_some_iff.1 h).1
theorem Own.cell (h : Own k e w g z) (j : Nat) (hj : j < z.length) : w.cell? ⟨g, j, none⟩ = some (.int k (z.getD j 0)) := by
  rw [cell_of_row w g j _ e (0, 0) h]
  simp [List.getD_eq_getElem?_getD, List.getElem?_eq_getElem hj]
theorem Own.frozen (h : Own k e w g z) (j : Nat) : w.frozen? ⟨g, j, none⟩ = false := by
  unfold Own at h
  simp [World.frozen?, h]
theorem Own.set (h : Own k e w g z) (j : Nat) (x : Int) : Own k e (w.setCell ⟨g, j, none⟩ (.int k x)) g (z.set j x) := by
  unfold Own at *
  simp only [World.setCell, Array.getElem?_modify, if_pos, h, Option.map_some]
  simp [List.map_set]
theorem grown_set (w : World) (g j : Nat) (u : Value) : w.grownBy (w.setCell ⟨g, j, none⟩ u) (some g) :=
  ⟨rfl, rfl, rfl, by simp [World.setCell], fun i _ hne => Below.heap_setCell _ _ _ _ (fun e => hne (by rw [e]))⟩
theorem Own.drew (h : Own k e w g z) : Own k e w.drew g z := h
theorem Own.drewN (h : Own k e w g z) (n : Nat) : Own k e (w.drewN n) g z := h
theorem grown_refl (w : World) (r : Option Nat) : w.grownBy w r := ⟨rfl, rfl, rfl, Nat.le_refl _, fun _ _ _ => rfl⟩
theorem grown_trans {a b c : World} {r : Option Nat} (h : a.grownBy b r) (q : b.grownBy c r) : a.grownBy c r :=
  ⟨q.os.trans h.os, q.tape.trans h.tape, q.output.trans h.output, Nat.le_trans h.size q.size, fun i hi hne => (q.block i (Nat.lt_of_lt_of_le hi h.size) hne).trans (h.block i hi hne)⟩
theorem grown_drew {a b : World} {r : Option Nat} (h : a.grownBy b r) : a.grownBy b.drew r := ⟨h.os, h.tape, h.output, h.size, h.block⟩
theorem Own.kept (h : Own k e w g z) {r : Option Nat} (q : w.grownBy w' r) (hr : r ≠ some g) : Own k e w' g z := by
  unfold Own at *
  rw [q.block g (Array.getElem?_eq_some_iff.1 h).1 (fun e => hr e.symm)]
  exact h
end

/-- The value's memory does not lie in the block g (or nothing is read of it). -/
def Apart (v : Value) (l : List Int) (g : Nat) : Prop := l ≠ [] → ∀ a n c, v = .slice (some a) n c → a.block ≠ g

theorem Row.apart {k : IntKind} {w : World} {v : Value} {l : List Int} (h : Row k w v l) {g : Nat} (hg : w.heap.size ≤ g) : Apart v l g := by
  intro hl a n c he
  obtain ⟨ao, cap, rfl, h1, h2, h3, h4⟩ := h
  obtain ⟨b, off, rfl, hc⟩ := h4 hl
  have hlt := World.block_lt_of_cell? w _ (hc 0 (List.length_pos_iff.2 hl))
  simp at he
  rw [← he.1]
  simp at hlt
  show b ≠ g
  omega

theorem Row.kept {k : IntKind} {w w' : World} {v : Value} {l : List Int} (h : Row k w v l) {r : Option Nat} (q : w.grownBy w' r) (hr : ∀ g, r = some g → Apart v l g) : Row k w' v l := by
  obtain ⟨ao, cap, rfl, h1, h2, h3, h4⟩ := h
  refine ⟨ao, cap, rfl, h1, h2, h3, fun hl => ?_⟩
  obtain ⟨b, off, rfl, hc⟩ := h4 hl
  refine ⟨b, off, rfl, fun j hj => ?_⟩
  have hlt := World.block_lt_of_cell? w _ (hc j hj)
  rw [World.cell?_of_block (w := w) (q.block b hlt (fun e => hr b e.symm hl _ _ _ rfl rfl))]
  exact hc j hj
theorem Row.below {k : IntKind} {w w' : World} {v : Value} {l : List Int} (h : Row k w v l) (q : Below w.heap.size w w') : Row k w' v l := by
  obtain ⟨ao, cap, rfl, h1, h2, h3, h4⟩ := h
  refine ⟨ao, cap, rfl, h1, h2, h3, fun hl => ?_⟩
  obtain ⟨b, off, rfl, hc⟩ := h4 hl
  refine ⟨b, off, rfl, fun j hj => ?_⟩
  rw [q.cell (p := ⟨b, off + j, none⟩) (World.block_lt_of_cell? w _ (hc j hj))]
  exact hc j hj

/-- The value's memory lies from block B on (or nothing is read of it). -/
def Fresh (B : Nat) (v : Value) (l : List Int) : Prop := l ≠ [] → ∀ a n c, v = .slice (some a) n c → B ≤ a.block
theorem Fresh.apart {B g : Nat} {v : Value} {l : List Int} (h : Fresh B v l) (hg : g < B) : Apart v l g := fun hl a n c e => by have := h hl a n c e; omega
theorem Fresh.mono {B B' : Nat} {v : Value} {l : List Int} (h : Fresh B v l) (hB : B' ≤ B) : Fresh B' v l := fun hl a n c e => Nat.le_trans hB (h hl a n c e)

/-- A block that is read as a slice from a place on. -/
theorem Own.row {k : IntKind} {e : TypeId} {w : World} {g : Nat} {z : List Int} (h : Own k e w g z) (off n cap : Nat) (hn : off + n ≤ z.length) (hc : n ≤ cap) (hm : cap ≤ 140737488355328) :
    Row k w (.slice (some ⟨g, off, none⟩) n cap) ((z.drop off).take n) := by
  have e1 : ((z.drop off).take n).length = n := by simp; omega
  refine ⟨some ⟨g, off, none⟩, cap, by rw [e1], by omega, hm, (by simp), fun _ => ⟨g, off, rfl, fun j hj => ?_⟩⟩
  rw [h.cell (off + j) (by omega)]
  congr 2
  rw [List.getD_eq_getElem?_getD, List.getD_eq_getElem?_getD, List.getElem?_take, if_pos (by omega), List.getElem?_drop]
theorem Own.all {k : IntKind} {e : TypeId} {w : World} {g : Nat} {z : List Int} (h : Own k e w g z) (cap : Nat) (hc : z.length ≤ cap) (hm : cap ≤ 140737488355328) :
    Row k w (.slice (some ⟨g, 0, none⟩) z.length cap) z := by
  have := h.row 0 z.length cap (by omega) hc hm
  simpa using this
theorem grown_none {w w' : World} (h : w.grownBy w' none) (r : Option Nat) : w.grownBy w' r := ⟨h.os, h.tape, h.output, h.size, fun k hk _ => h.block k hk (by simp)⟩
theorem grown_below {w w' : World} (h : w.grownBy w' none) : Below w.heap.size w w' := ⟨h.os, h.tape, h.output, h.size, fun k hk => h.block k hk (by simp)⟩
theorem below_grown {w w' : World} (h : Below w.heap.size w w') : w.grownBy w' none := ⟨h.os, h.tape, h.output, h.size, fun k hk _ => h.block k hk⟩
end Go.Proofs.Ytigbclhkmjcjjaa
namespace Go.RowKit
/-- New blocks, then writes to one of them. -/
theorem Below.then_grown {w w1 w2 : World} {r : Option Nat} (h : Below w.heap.size w w1) (q : w1.grownBy w2 r) (hr : ∀ g, r = some g → w.heap.size ≤ g) : Below w.heap.size w w2 :=
  h.trans ⟨q.os, q.tape, q.output, q.size, fun k hk => q.block k (Nat.lt_of_lt_of_le hk h.size) (fun e => by have := hr k e.symm; omega)⟩
theorem Below.then_below {w w1 w2 : World} (h : Below w.heap.size w w1) (q : Below w1.heap.size w1 w2) : Below w.heap.size w w2 := h.trans (q.mono h.size)
end Go.RowKit
namespace Go.Proofs.Ytigbclhkmjcjjaa
open Go.RowKit Go.Proofs.Ytigbclhkmjcjjaa.M

theorem Own.below {k : IntKind} {e : TypeId} {w w' : World} {g : Nat} {z : List Int} (h : Own k e w g z) (q : Below w.heap.size w w') : Own k e w' g z := by
  have := h.lt
  unfold Own at *
  rw [q.block g this]
  exact h
theorem Row.take {k : IntKind} {w : World} {ao : Option Addr} {n cap : Nat} {l : List Int} (h : Row k w (.slice ao n cap) l) (m : Nat) (hm : m ≤ n) : Row k w (.slice ao m cap) (l.take m) := by
  obtain ⟨ao', cap', e, h1, h2, h3, h4⟩ := h
  simp at e
  obtain ⟨rfl, rfl, rfl⟩ := e
  have e1 : (l.take m).length = m := by rw [List.length_take]; omega
  refine ⟨ao, cap, by rw [e1], by omega, h2, h3, fun hl => ?_⟩
  obtain ⟨b, off, rfl, hc⟩ := h4 (by rintro rfl; simp at hl)
  refine ⟨b, off, rfl, fun j hj => ?_⟩
  rw [hc j (by omega), List.getD_eq_getElem?_getD, List.getD_eq_getElem?_getD, List.getElem?_take, if_pos (by omega)]
theorem Row.drop {k : IntKind} {w : World} {b off n cap : Nat} {l : List Int} (h : Row k w (.slice (some ⟨b, off, none⟩) n cap) l) (m : Nat) (hm : m ≤ n) : Row k w (.slice (some ⟨b, off + m, none⟩) (n - m) (cap - m)) (l.drop m) := by
  obtain ⟨ao', cap', e, h1, h2, h3, h4⟩ := h
  simp at e
  obtain ⟨rfl, rfl, rfl⟩ := e
  have e1 : (l.drop m).length = l.length - m := by simp
  refine ⟨some ⟨b, off + m, none⟩, cap - m, by rw [e1], by omega, by omega, by simp, fun hl => ?_⟩
  obtain ⟨b', off', e, hc⟩ := h4 (by rintro rfl; simp at hl)
  simp at e
  obtain ⟨rfl, rfl⟩ := e
  refine ⟨b, off + m, rfl, fun j hj => ?_⟩
  rw [Nat.add_assoc, hc (m + j) (by omega), List.getD_eq_getElem?_getD, List.getD_eq_getElem?_getD, List.getElem?_drop]

/-- 'make([]T, n)', T a kind of numbers. -/
theorem wpList_make_row {P : Program} (w : World) {ops : Array Oper} {rest : List Oper} {o : Oper} {a : Act} {Q : Exit → Act → World → Prop}
    (hg : o.guard = none) (l c : Operand) (t : TypeId) (hop : o.op = Op.makeSlice t l c) (k : IntKind) (e : TypeId) (bytes : Nat) (h1 : P.underlying t = some (.slice e))
    (h2 : (P.info? e).map (fun i => (i.zero, i.size, i.bytes)) = some (some (.int k 0), 1, bytes))
    (kl kc : IntKind) (L C : Int) (n : Nat) (hl : a.eval l = .int kl L) (hc : a.eval c = .int kc C) (hL : L = (n : Int)) (hC : C = (n : Int)) (hb : bytes ≤ 8) (hn : n ≤ 35184372088832)
    (hK : ∀ w' z, Hid (z = List.replicate n (0 : Int)) → Own k e w' w.heap.size z → w.grownBy w' none → Hid (w'.heap.size = w.heap.size + 1) → wpList P ops Q rest (a.put o.dst (.slice (some ⟨w.heap.size, 0, none⟩) n n)) w') :
    wpList P ops Q (o :: rest) a w := by
  obtain ⟨i, hi, hz0, hz1, hz2⟩ := info_parts h2
  refine wpList_plain hg fun K hK' => ?_
  have hbn : i.bytes * n ≤ 8 * 35184372088832 := Nat.mul_le_mul (by omega) hn
  have hrun := run_make (P := P) w t e i (.int k 0) h1 hi hz0 kl kc n n (by omega) (Int.le_refl _) (by
    have : ((i.bytes * n : Nat) : Int) ≤ 281474976710656 := by omega
    simpa using this) (by omega)
  subst hL
  subst hC
  have hcells : (madeCells (Value.int k 0).cells ((n : Int).toNat * i.size)) = ((List.replicate n (0 : Int)).map (Value.int k)).toArray := by
    rw [hz1]
    simp [madeCells, Value.cells]
    apply Array.ext
    · simp
    · intro j h1 h2
      simp [Nat.mod_one]
  rw [hcells] at hrun
  have hk := hK (w.alloc (.cells ((List.replicate n (0 : Int)).map (Value.int k)).toArray e)) _ rfl (heap_alloc_new w _) (World.grownBy_alloc _ _ _) (by show _ = _; simp)
  unfold Oper.wp
  simp only [Int.toNat_natCast] at hrun
  generalize hcs : ((List.replicate n (0 : Int)).map (Value.int k)).toArray = cs at *
  clear hcs hcells
  simp [execOp, hop, hl, hc, hrun, Result.andThen]
  exact hK' _ _ hk

/-- 'copy(d, s)', d a part of a block of the call's own, s a slice of numbers that fits. -/
theorem wpList_copy_row {P : Program} {w : World} {ops : Array Oper} {rest : List Oper} {o : Oper} {a : Act} {Q : Exit → Act → World → Prop} (hgd : o.guard = none) (d s : Operand) (dT sT : TypeId)
    (ho : o.op = .call { callee := .builtin .copy, args := #[d, s], argTypes := #[dT, sT] }) (k : IntKind) (e : TypeId) (hu : P.underlying dT = some (.slice e)) (hsz : (P.info? e).map (·.size) = some 1)
    (g off dLen dCap : Nat) (v : Value) (l z : List Int) (hd : a.eval d = .slice (some ⟨g, off, none⟩) dLen dCap) (hs : a.eval s = v)
    (hv : Row k w v l) (hz : Own k e w g z) (hfit : off + l.length ≤ z.length) (hlen : l.length ≤ dLen)
    (h : ∀ w' z', Hid (z' = splice z off l) → Own k e w' g z' → w.grownBy w' (some g) → wpList P ops Q rest (a.put o.dst (goInt l.length)) w') : wpList P ops Q (o :: rest) a w := by
  obtain ⟨ao, cap, rfl, h1, h2, h3, h4⟩ := hv
  have hmin : Nat.min l.length dLen = l.length := Nat.min_eq_left hlen
  by_cases hl : l = []
  · subst hl
    refine wpList_copy_nothing hgd d s dT sT ho e hu hsz _ _ _ _ _ _ hd hs (by simp) ?_
    exact h w _ rfl (by simpa [splice] using hz) (grown_refl _ _)
  · obtain ⟨b, so, rfl, hc⟩ := h4 hl
    have hsplice : ((z.map (Value.int k)).toArray.toList.take off ++ (l.map (Value.int k) ++ (z.map (Value.int k)).toArray.toList.drop (off + (l.map (Value.int k)).length))).toArray = ((splice z off l).map (Value.int k)).toArray := by
      simp [splice, List.map_take, List.map_drop]
    refine wpList_copy_own hgd d s dT sT ho e hu hsz g off dLen dCap ⟨b, so, none⟩ l.length cap hd hs (z.map (Value.int k)).toArray e hz (l.map (Value.int k)) (by simpa using hmin.symm) ?_ (by simpa using hfit) (by simp [Value.oneCell']) ?_
    · intro j u hu'
      have hj : j < l.length := by
        have := (List.getElem?_eq_some_iff.1 hu').1
        simpa using this
      have := hc j hj
      rw [show (⟨b, so, none⟩ : Addr).add j = ⟨b, so + j, none⟩ from by simp [Addr.add], this]
      rw [List.getElem?_map, List.getElem?_eq_getElem hj] at hu'
      simp [List.getD_eq_getElem?_getD, List.getElem?_eq_getElem hj]
      simpa using hu'
    · rw [hsplice, show (l.map (Value.int k)).length = l.length from by simp]
      refine h _ _ rfl (setRow_heap w g _ _ e _ hz) ⟨rfl, rfl, rfl, by simp, fun j _ hne => setRow_other w g j _ (fun e => hne (by rw [e]))⟩

/-- The same, the operation written out: it fits a copy and nothing else. -/
theorem at_copy {P : Program} {w : World} {ops : Array Oper} {rest : List Oper} {a : Act} {Q : Exit → Act → World → Prop} {dst : Option Tmp} {d s : Operand} {dT sT ty : TypeId} {pos : String} {af : Array Edge}
    (k : IntKind) (e : TypeId) (hu : P.underlying dT = some (.slice e)) (hsz : (P.info? e).map (·.size) = some 1)
    (g off dLen dCap : Nat) (v : Value) (l z : List Int) (hd : a.eval d = .slice (some ⟨g, off, none⟩) dLen dCap) (hs : a.eval s = v)
    (hv : Row k w v l) (hz : Own k e w g z) (hfit : off + l.length ≤ z.length) (hlen : l.length ≤ dLen)
    (h : ∀ w' z', Hid (z' = splice z off l) → Own k e w' g z' → w.grownBy w' (some g) → wpList P ops Q rest (a.put dst (goInt l.length)) w') :
    wpList P ops Q ({ dst := dst, op := .call { callee := .builtin .copy, args := #[d, s], argTypes := #[dT, sT] }, type := ty, pos := pos, after := af, guard := none } :: rest) a w :=
  wpList_copy_row rfl d s dT sT rfl k e hu hsz g off dLen dCap v l z hd hs hv hz hfit hlen h

/-- A guard: the next operation is a copy ('with_reducible refine is_copy ?_'). -/
theorem is_copy {P : Program} {w : World} {ops : Array Oper} {rest : List Oper} {a : Act} {Q : Exit → Act → World → Prop} {dst : Option Tmp} {args : Array Operand} {ats : Array TypeId} {ty : TypeId} {pos : String} {af : Array Edge} {gd : Option (Nat × Bool)}
    (h : wpList P ops Q ({ dst := dst, op := .call { callee := .builtin .copy, args := args, argTypes := ats }, type := ty, pos := pos, after := af, guard := gd } :: rest) a w) :
    wpList P ops Q ({ dst := dst, op := .call { callee := .builtin .copy, args := args, argTypes := ats }, type := ty, pos := pos, after := af, guard := gd } :: rest) a w := h

theorem hide {p : Prop} (h : p) : Hid p := h
theorem unhide {p : Prop} (h : Hid p) : p := h
theorem ret_int {k : IntKind} {a b : Int} (h : a = b) : Ending.returned (.int k a) = .returned (.int k b) := by rw [h]
theorem ret_slice {ao : Option Addr} {a b c : Nat} (h : a = b) : Ending.returned (.slice ao a c) = .returned (.slice ao b c) := by rw [h]

end Go.Proofs.Ytigbclhkmjcjjaa
