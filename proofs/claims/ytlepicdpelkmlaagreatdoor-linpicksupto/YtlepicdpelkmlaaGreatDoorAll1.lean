/- Laid together of: Base, Bits, Types, Trim, Mul, Shift, Div64, Div64b, DivByDigit. -/
import Derived.Test.YtlepicdpelkmlaaGreatDoorProg
import Derived.Test.YtlepicdpelkmlaaGreatDoorAllMath
import Derived.WalkKit
import Derived.WalkSpells
import Derived.WalkLawsBesides
import Derived.Laws.CopyOwn
import Derived.Deep.QuietTactic
import Derived.BigQuiet
import Derived.Shelf.Spec.BitsCarry
import Derived.Test.YtlepicdpelkmlaaGreatDoorShelf
import Derived.Laws.BitsAllLaws
import Derived.Laws.Bits64b
import Derived.Lib.ItoaNum
/- ==== Base ==== -/
namespace Go.Proofs.YtlepicdpelkmlaaGreatDoor
open Go.RowKit Go.Proofs.YtlepicdpelkmlaaGreatDoor.M

/-- The slice value v reads as the numbers l, each of kind k, in the world w. -/
def Row (k : IntKind) (w : World) (v : Value) (l : List Int) : Prop :=
  ∃ ao cap, v = .slice ao l.length cap ∧ l.length ≤ cap ∧ cap ≤ 140737488355328 ∧ (ao = none → cap = 0) ∧
    (l ≠ [] → ∃ b off, ao = some ⟨b, off, none⟩ ∧ ∀ j, j < l.length → w.cell? ⟨b, off + j, none⟩ = some (.int k (l.getD j 0)))

/-- The block g of the world w is just the numbers z, each of kind k, of the element type e; no cell is frozen. -/
def Own (k : IntKind) (e : TypeId) (w : World) (g : Nat) (z : List Int) : Prop :=
  w.heap[g]? = some (.cells (z.map (Value.int k)).toArray e (0, 0))

/-- The length of a slice's value: for a loop's measure. -/
def lenOf : Value → Nat | .slice _ n _ => n | _ => 0

section
variable {k : IntKind} {e : TypeId} {w w' : World} {g : Nat} {z : List Int}
theorem Own.lt (h : Own k e w g z) : g < w.heap.size := (Array.getElem?_eq_some_iff.1 h).1
theorem Own.cell (h : Own k e w g z) (j : Nat) (hj : j < z.length) : w.cell? ⟨g, j, none⟩ = some (.int k (z.getD j 0)) := by
  rw [cell_of_row w g j _ e (0, 0) h]
  simp [List.getD_eq_getElem?_getD, List.getElem?_eq_getElem hj]
theorem Own.frozen (h : Own k e w g z) (j : Nat) : w.frozen? ⟨g, j, none⟩ = false := by
  unfold Own at h
  simp [World.frozen?, h]
theorem Own.set (h : Own k e w g z) (j : Nat) (x : Int) : Own k e (w.setCell ⟨g, j, none⟩ (.int k x)) g (z.set j x) := by
  unfold Own at *
  simp only [World.setCell, Array.getElem?_modify, if_pos, h, Option.map_some]
  simp [List.map_set]
theorem grown_set (w : World) (g j : Nat) (u : Value) : w.grownBy (w.setCell ⟨g, j, none⟩ u) (some g) :=
  ⟨rfl, rfl, rfl, by simp [World.setCell], fun i _ hne => Below.heap_setCell _ _ _ _ (fun e => hne (by rw [e]))⟩
theorem Own.drew (h : Own k e w g z) : Own k e w.drew g z := h
theorem Own.drewN (h : Own k e w g z) (n : Nat) : Own k e (w.drewN n) g z := h
theorem grown_refl (w : World) (r : Option Nat) : w.grownBy w r := ⟨rfl, rfl, rfl, Nat.le_refl _, fun _ _ _ => rfl⟩
theorem grown_trans {a b c : World} {r : Option Nat} (h : a.grownBy b r) (q : b.grownBy c r) : a.grownBy c r :=
  ⟨q.os.trans h.os, q.tape.trans h.tape, q.output.trans h.output, Nat.le_trans h.size q.size, fun i hi hne => (q.block i (Nat.lt_of_lt_of_le hi h.size) hne).trans (h.block i hi hne)⟩
theorem grown_drew {a b : World} {r : Option Nat} (h : a.grownBy b r) : a.grownBy b.drew r := ⟨h.os, h.tape, h.output, h.size, h.block⟩
theorem Own.kept (h : Own k e w g z) {r : Option Nat} (q : w.grownBy w' r) (hr : r ≠ some g) : Own k e w' g z := by
  unfold Own at *
  rw [q.block g (Array.getElem?_eq_some_iff.1 h).1 (fun e => hr e.symm)]
  exact h
end

/-- The value's memory does not lie in the block g (or nothing is read of it). -/
def Apart (v : Value) (l : List Int) (g : Nat) : Prop := l ≠ [] → ∀ a n c, v = .slice (some a) n c → a.block ≠ g

theorem Row.apart {k : IntKind} {w : World} {v : Value} {l : List Int} (h : Row k w v l) {g : Nat} (hg : w.heap.size ≤ g) : Apart v l g := by
  intro hl a n c he
  obtain ⟨ao, cap, rfl, h1, h2, h3, h4⟩ := h
  obtain ⟨b, off, rfl, hc⟩ := h4 hl
  have hlt := World.block_lt_of_cell? w _ (hc 0 (List.length_pos_iff.2 hl))
  simp at he
  rw [← he.1]
  simp at hlt
  show b ≠ g
  omega

theorem Row.kept {k : IntKind} {w w' : World} {v : Value} {l : List Int} (h : Row k w v l) {r : Option Nat} (q : w.grownBy w' r) (hr : ∀ g, r = some g → Apart v l g) : Row k w' v l := by
  obtain ⟨ao, cap, rfl, h1, h2, h3, h4⟩ := h
  refine ⟨ao, cap, rfl, h1, h2, h3, fun hl => ?_⟩
  obtain ⟨b, off, rfl, hc⟩ := h4 hl
  refine ⟨b, off, rfl, fun j hj => ?_⟩
  have hlt := World.block_lt_of_cell? w _ (hc j hj)
  rw [World.cell?_of_block (w := w) (q.block b hlt (fun e => hr b e.symm hl _ _ _ rfl rfl))]
  exact hc j hj
theorem Row.below {k : IntKind} {w w' : World} {v : Value} {l : List Int} (h : Row k w v l) (q : Below w.heap.size w w') : Row k w' v l := by
  obtain ⟨ao, cap, rfl, h1, h2, h3, h4⟩ := h
  refine ⟨ao, cap, rfl, h1, h2, h3, fun hl => ?_⟩
  obtain ⟨b, off, rfl, hc⟩ := h4 hl
  refine ⟨b, off, rfl, fun j hj => ?_⟩
  rw [q.cell (p := ⟨b, off + j, none⟩) (World.block_lt_of_cell? w _ (hc j hj))]
  exact hc j hj

/-- The value's memory lies from block B on (or nothing is read of it). -/
def Fresh (B : Nat) (v : Value) (l : List Int) : Prop := l ≠ [] → ∀ a n c, v = .slice (some a) n c → B ≤ a.block
theorem Fresh.apart {B g : Nat} {v : Value} {l : List Int} (h : Fresh B v l) (hg : g < B) : Apart v l g := fun hl a n c e => by have := h hl a n c e; omega
theorem Fresh.mono {B B' : Nat} {v : Value} {l : List Int} (h : Fresh B v l) (hB : B' ≤ B) : Fresh B' v l := fun hl a n c e => Nat.le_trans hB (h hl a n c e)

/-- A block that is read as a slice from a place on. -/
theorem Own.row {k : IntKind} {e : TypeId} {w : World} {g : Nat} {z : List Int} (h : Own k e w g z) (off n cap : Nat) (hn : off + n ≤ z.length) (hc : n ≤ cap) (hm : cap ≤ 140737488355328) :
    Row k w (.slice (some ⟨g, off, none⟩) n cap) ((z.drop off).take n) := by
  have e1 : ((z.drop off).take n).length = n := by simp; omega
  refine ⟨some ⟨g, off, none⟩, cap, by rw [e1], by omega, hm, (by simp), fun _ => ⟨g, off, rfl, fun j hj => ?_⟩⟩
  rw [h.cell (off + j) (by omega)]
  congr 2
  rw [List.getD_eq_getElem?_getD, List.getD_eq_getElem?_getD, List.getElem?_take, if_pos (by omega), List.getElem?_drop]
theorem Own.all {k : IntKind} {e : TypeId} {w : World} {g : Nat} {z : List Int} (h : Own k e w g z) (cap : Nat) (hc : z.length ≤ cap) (hm : cap ≤ 140737488355328) :
    Row k w (.slice (some ⟨g, 0, none⟩) z.length cap) z := by
  have := h.row 0 z.length cap (by omega) hc hm
  simpa using this
theorem grown_none {w w' : World} (h : w.grownBy w' none) (r : Option Nat) : w.grownBy w' r := ⟨h.os, h.tape, h.output, h.size, fun k hk _ => h.block k hk (by simp)⟩
theorem grown_below {w w' : World} (h : w.grownBy w' none) : Below w.heap.size w w' := ⟨h.os, h.tape, h.output, h.size, fun k hk => h.block k hk (by simp)⟩
theorem below_grown {w w' : World} (h : Below w.heap.size w w') : w.grownBy w' none := ⟨h.os, h.tape, h.output, h.size, fun k hk _ => h.block k hk⟩
end Go.Proofs.YtlepicdpelkmlaaGreatDoor
namespace Go.RowKit
/-- New blocks, then writes to one of them. -/
theorem Below.then_grown {w w1 w2 : World} {r : Option Nat} (h : Below w.heap.size w w1) (q : w1.grownBy w2 r) (hr : ∀ g, r = some g → w.heap.size ≤ g) : Below w.heap.size w w2 :=
  h.trans ⟨q.os, q.tape, q.output, q.size, fun k hk => q.block k (Nat.lt_of_lt_of_le hk h.size) (fun e => by have := hr k e.symm; omega)⟩
theorem Below.then_below {w w1 w2 : World} (h : Below w.heap.size w w1) (q : Below w1.heap.size w1 w2) : Below w.heap.size w w2 := h.trans (q.mono h.size)
end Go.RowKit
namespace Go.Proofs.YtlepicdpelkmlaaGreatDoor
open Go.RowKit Go.Proofs.YtlepicdpelkmlaaGreatDoor.M

theorem Own.below {k : IntKind} {e : TypeId} {w w' : World} {g : Nat} {z : List Int} (h : Own k e w g z) (q : Below w.heap.size w w') : Own k e w' g z := by
  have := h.lt
  unfold Own at *
  rw [q.block g this]
  exact h
theorem Row.take {k : IntKind} {w : World} {ao : Option Addr} {n cap : Nat} {l : List Int} (h : Row k w (.slice ao n cap) l) (m : Nat) (hm : m ≤ n) : Row k w (.slice ao m cap) (l.take m) := by
  obtain ⟨ao', cap', e, h1, h2, h3, h4⟩ := h
  simp at e
  obtain ⟨rfl, rfl, rfl⟩ := e
  have e1 : (l.take m).length = m := by rw [List.length_take]; omega
  refine ⟨ao, cap, by rw [e1], by omega, h2, h3, fun hl => ?_⟩
  obtain ⟨b, off, rfl, hc⟩ := h4 (by rintro rfl; simp at hl)
  refine ⟨b, off, rfl, fun j hj => ?_⟩
  rw [hc j (by omega), List.getD_eq_getElem?_getD, List.getD_eq_getElem?_getD, List.getElem?_take, if_pos (by omega)]
theorem Row.drop {k : IntKind} {w : World} {b off n cap : Nat} {l : List Int} (h : Row k w (.slice (some ⟨b, off, none⟩) n cap) l) (m : Nat) (hm : m ≤ n) : Row k w (.slice (some ⟨b, off + m, none⟩) (n - m) (cap - m)) (l.drop m) := by
  obtain ⟨ao', cap', e, h1, h2, h3, h4⟩ := h
  simp at e
  obtain ⟨rfl, rfl, rfl⟩ := e
  have e1 : (l.drop m).length = l.length - m := by simp
  refine ⟨some ⟨b, off + m, none⟩, cap - m, by rw [e1], by omega, by omega, by simp, fun hl => ?_⟩
  obtain ⟨b', off', e, hc⟩ := h4 (by rintro rfl; simp at hl)
  simp at e
  obtain ⟨rfl, rfl⟩ := e
  refine ⟨b, off + m, rfl, fun j hj => ?_⟩
  rw [Nat.add_assoc, hc (m + j) (by omega), List.getD_eq_getElem?_getD, List.getD_eq_getElem?_getD, List.getElem?_drop]

/-- 'make([]T, n)', T a kind of numbers. -/
theorem wpList_make_row {P : Program} (w : World) {ops : Array Oper} {rest : List Oper} {o : Oper} {a : Act} {Q : Exit → Act → World → Prop}
    (hg : o.guard = none) (l c : Operand) (t : TypeId) (hop : o.op = Op.makeSlice t l c) (k : IntKind) (e : TypeId) (bytes : Nat) (h1 : P.underlying t = some (.slice e))
    (h2 : (P.info? e).map (fun i => (i.zero, i.size, i.bytes)) = some (some (.int k 0), 1, bytes))
    (kl kc : IntKind) (L C : Int) (n : Nat) (hl : a.eval l = .int kl L) (hc : a.eval c = .int kc C) (hL : L = (n : Int)) (hC : C = (n : Int)) (hb : bytes ≤ 8) (hn : n ≤ 35184372088832)
    (hK : ∀ w' z, Hid (z = List.replicate n (0 : Int)) → Own k e w' w.heap.size z → w.grownBy w' none → Hid (w'.heap.size = w.heap.size + 1) → wpList P ops Q rest (a.put o.dst (.slice (some ⟨w.heap.size, 0, none⟩) n n)) w') :
    wpList P ops Q (o :: rest) a w := by
  obtain ⟨i, hi, hz0, hz1, hz2⟩ := info_parts h2
  refine wpList_plain hg fun K hK' => ?_
  have hbn : i.bytes * n ≤ 8 * 35184372088832 := Nat.mul_le_mul (by omega) hn
  have hrun := run_make (P := P) w t e i (.int k 0) h1 hi hz0 kl kc n n (by omega) (Int.le_refl _) (by
    have : ((i.bytes * n : Nat) : Int) ≤ 281474976710656 := by omega
    simpa using this) (by omega)
  subst hL
  subst hC
  have hcells : (madeCells (Value.int k 0).cells ((n : Int).toNat * i.size)) = ((List.replicate n (0 : Int)).map (Value.int k)).toArray := by
    rw [hz1]
    simp [madeCells, Value.cells]
    apply Array.ext
    · simp
    · intro j h1 h2
      simp [Nat.mod_one]
  rw [hcells] at hrun
  have hk := hK (w.alloc (.cells ((List.replicate n (0 : Int)).map (Value.int k)).toArray e)) _ rfl (heap_alloc_new w _) (World.grownBy_alloc _ _ _) (by show _ = _; simp)
  unfold Oper.wp
  simp only [Int.toNat_natCast] at hrun
  generalize hcs : ((List.replicate n (0 : Int)).map (Value.int k)).toArray = cs at *
  clear hcs hcells
  simp [execOp, hop, hl, hc, hrun, Result.andThen]
  exact hK' _ _ hk

/-- 'copy(d, s)', d a part of a block of the call's own, s a slice of numbers that fits. -/
theorem wpList_copy_row {P : Program} {w : World} {ops : Array Oper} {rest : List Oper} {o : Oper} {a : Act} {Q : Exit → Act → World → Prop} (hgd : o.guard = none) (d s : Operand) (dT sT : TypeId)
    (ho : o.op = .call { callee := .builtin .copy, args := #[d, s], argTypes := #[dT, sT] }) (k : IntKind) (e : TypeId) (hu : P.underlying dT = some (.slice e)) (hsz : (P.info? e).map (·.size) = some 1)
    (g off dLen dCap : Nat) (v : Value) (l z : List Int) (hd : a.eval d = .slice (some ⟨g, off, none⟩) dLen dCap) (hs : a.eval s = v)
    (hv : Row k w v l) (hz : Own k e w g z) (hfit : off + l.length ≤ z.length) (hlen : l.length ≤ dLen)
    (h : ∀ w' z', Hid (z' = splice z off l) → Own k e w' g z' → w.grownBy w' (some g) → wpList P ops Q rest (a.put o.dst (goInt l.length)) w') : wpList P ops Q (o :: rest) a w := by
  obtain ⟨ao, cap, rfl, h1, h2, h3, h4⟩ := hv
  have hmin : Nat.min l.length dLen = l.length := Nat.min_eq_left hlen
  by_cases hl : l = []
  · subst hl
    refine wpList_copy_nothing hgd d s dT sT ho e hu hsz _ _ _ _ _ _ hd hs (by simp) ?_
    exact h w _ rfl (by simpa [splice] using hz) (grown_refl _ _)
  · obtain ⟨b, so, rfl, hc⟩ := h4 hl
    have hsplice : ((z.map (Value.int k)).toArray.toList.take off ++ (l.map (Value.int k) ++ (z.map (Value.int k)).toArray.toList.drop (off + (l.map (Value.int k)).length))).toArray = ((splice z off l).map (Value.int k)).toArray := by
      simp [splice, List.map_take, List.map_drop]
    refine wpList_copy_own hgd d s dT sT ho e hu hsz g off dLen dCap ⟨b, so, none⟩ l.length cap hd hs (z.map (Value.int k)).toArray e hz (l.map (Value.int k)) (by simpa using hmin.symm) ?_ (by simpa using hfit) (by simp [Value.oneCell']) ?_
    · intro j u hu'
      have hj : j < l.length := by
        have := (List.getElem?_eq_some_iff.1 hu').1
        simpa using this
      have := hc j hj
      rw [show (⟨b, so, none⟩ : Addr).add j = ⟨b, so + j, none⟩ from by simp [Addr.add], this]
      rw [List.getElem?_map, List.getElem?_eq_getElem hj] at hu'
      simp [List.getD_eq_getElem?_getD, List.getElem?_eq_getElem hj]
      simpa using hu'
    · rw [hsplice, show (l.map (Value.int k)).length = l.length from by simp]
      refine h _ _ rfl (setRow_heap w g _ _ e _ hz) ⟨rfl, rfl, rfl, by simp, fun j _ hne => setRow_other w g j _ (fun e => hne (by rw [e]))⟩

/-- The same, the operation written out: it fits a copy and nothing else. -/
theorem at_copy {P : Program} {w : World} {ops : Array Oper} {rest : List Oper} {a : Act} {Q : Exit → Act → World → Prop} {dst : Option Tmp} {d s : Operand} {dT sT ty : TypeId} {pos : String} {af : Array Edge}
    (k : IntKind) (e : TypeId) (hu : P.underlying dT = some (.slice e)) (hsz : (P.info? e).map (·.size) = some 1)
    (g off dLen dCap : Nat) (v : Value) (l z : List Int) (hd : a.eval d = .slice (some ⟨g, off, none⟩) dLen dCap) (hs : a.eval s = v)
    (hv : Row k w v l) (hz : Own k e w g z) (hfit : off + l.length ≤ z.length) (hlen : l.length ≤ dLen)
    (h : ∀ w' z', Hid (z' = splice z off l) → Own k e w' g z' → w.grownBy w' (some g) → wpList P ops Q rest (a.put dst (goInt l.length)) w') :
    wpList P ops Q ({ dst := dst, op := .call { callee := .builtin .copy, args := #[d, s], argTypes := #[dT, sT] }, type := ty, pos := pos, after := af, guard := none } :: rest) a w :=
  wpList_copy_row rfl d s dT sT rfl k e hu hsz g off dLen dCap v l z hd hs hv hz hfit hlen h

/-- A guard: the next operation is a copy ('with_reducible refine is_copy ?_'). -/
theorem is_copy {P : Program} {w : World} {ops : Array Oper} {rest : List Oper} {a : Act} {Q : Exit → Act → World → Prop} {dst : Option Tmp} {args : Array Operand} {ats : Array TypeId} {ty : TypeId} {pos : String} {af : Array Edge} {gd : Option (Nat × Bool)}
    (h : wpList P ops Q ({ dst := dst, op := .call { callee := .builtin .copy, args := args, argTypes := ats }, type := ty, pos := pos, after := af, guard := gd } :: rest) a w) :
    wpList P ops Q ({ dst := dst, op := .call { callee := .builtin .copy, args := args, argTypes := ats }, type := ty, pos := pos, after := af, guard := gd } :: rest) a w := h

theorem hide {p : Prop} (h : p) : Hid p := h
theorem unhide {p : Prop} (h : Hid p) : p := h
theorem ret_int {k : IntKind} {a b : Int} (h : a = b) : Ending.returned (.int k a) = .returned (.int k b) := by rw [h]
theorem ret_slice {ao : Option Addr} {a b c : Nat} (h : a = b) : Ending.returned (.slice ao a c) = .returned (.slice ao b c) := by rw [h]

end Go.Proofs.YtlepicdpelkmlaaGreatDoor
/- ==== Bits ==== -/
namespace Go.Proofs.YtlepicdpelkmlaaGreatDoor
open Go.RowKit
namespace M
/-- The base 2^64, its low word, its high word, and what is borrowed. -/
def BB : Int := 18446744073709551616
def lo (x : Int) : Int := x % 18446744073709551616
def hi (x : Int) : Int := x / 18446744073709551616
def bo (x : Int) : Int := if x < 0 then 1 else 0
theorem BB_eq : BB = 18446744073709551616 := rfl
theorem BB_pos : 0 < BB := by decide
theorem lo_bd (x : Int) : 0 ≤ lo x ∧ lo x < BB := by unfold lo BB; omega
theorem lo_hi (x : Int) : lo x + BB * hi x = x := by unfold lo hi BB; omega
theorem hi_nn {x : Int} (h : 0 ≤ x) : 0 ≤ hi x := by unfold hi; omega
theorem hi_le {x y : Int} (h : x < BB * (y + 1)) : hi x ≤ y := by unfold BB at h; unfold hi; omega
theorem bo_bd (x : Int) : 0 ≤ bo x ∧ bo x ≤ 1 := by unfold bo; split <;> omega
theorem lo_bo {x : Int} (h0 : -BB ≤ x) (h1 : x < BB) : lo x - BB * bo x = x := by unfold BB at h0 h1; unfold lo bo BB; split <;> omega
end M

theorem add64 (x y c : Int) (hx : 0 ≤ x) (hy : 0 ≤ y) (hc0 : 0 ≤ c) (hc : c ≤ 1) (w : World) : (callFunc 113 #[.int .u64 x, .int .u64 y, .int .u64 c]).run Tryz.prog w =
    .ok (.value (.tuple #[.int .u64 (M.lo (x + y + c)), .int .u64 (M.hi (x + y + c))])) w := by
  obtain ⟨x, rfl⟩ := Int.eq_ofNat_of_zero_le hx
  obtain ⟨y, rfl⟩ := Int.eq_ofNat_of_zero_le hy
  obtain ⟨c, rfl⟩ := Int.eq_ofNat_of_zero_le hc0
  rw [run_callFunc_extern Tryz.func113 (by kernel_rfl) (by kernel_rfl) (by kernel_rfl) (e := add64Entry) (by kernel_rfl), run_add64 x y c (by omega) (by omega) (by omega) (by omega)]
  simp only [Result.andThen, M.lo, M.hi]
theorem add64_0 (x c : Int) (hx : 0 ≤ x) (hc0 : 0 ≤ c) (hc : c ≤ 1) (w : World) : (callFunc 113 #[.int .u64 x, .int .u64 0, .int .u64 c]).run Tryz.prog w =
    .ok (.value (.tuple #[.int .u64 (M.lo (x + c)), .int .u64 (M.hi (x + c))])) w := by
  have := add64 x 0 c hx (by decide) hc0 hc w
  rwa [Int.add_zero] at this
theorem add64_00 (x y : Int) (hx : 0 ≤ x) (hy : 0 ≤ y) (w : World) : (callFunc 113 #[.int .u64 x, .int .u64 y, .int .u64 0]).run Tryz.prog w =
    .ok (.value (.tuple #[.int .u64 (M.lo (x + y)), .int .u64 (M.hi (x + y))])) w := by
  have := add64 x y 0 hx hy (by decide) (by decide) w
  rwa [Int.add_zero] at this
theorem sub64 (x y b : Int) (hx : 0 ≤ x) (hy : 0 ≤ y) (hy' : y < M.BB) (hb0 : 0 ≤ b) (hb : b ≤ 1) (w : World) : (callFunc 137 #[.int .u64 x, .int .u64 y, .int .u64 b]).run Tryz.prog w =
    .ok (.value (.tuple #[.int .u64 (M.lo (x - y - b)), .int .u64 (M.bo (x - y - b))])) w := by
  unfold M.BB at hy'
  obtain ⟨x, rfl⟩ := Int.eq_ofNat_of_zero_le hx
  obtain ⟨y, rfl⟩ := Int.eq_ofNat_of_zero_le hy
  obtain ⟨b, rfl⟩ := Int.eq_ofNat_of_zero_le hb0
  have e1 : (((x + 18446744073709551616 - y - b) % 18446744073709551616 : Nat) : Int) = ((x : Int) - y - b) % 18446744073709551616 := by omega
  have e2 : ((if x < y + b then 1 else 0 : Nat) : Int) = if (x : Int) - y - b < 0 then 1 else 0 := by split <;> split <;> omega
  rw [run_callFunc_extern Tryz.func137 (by kernel_rfl) (by kernel_rfl) (by kernel_rfl) (e := sub64Entry) (by kernel_rfl), run_sub64 x y b (by omega)]
  unfold M.lo M.bo
  rw [← e1, ← e2]
  rfl
theorem sub64_0 (x b : Int) (hx : 0 ≤ x) (hb0 : 0 ≤ b) (hb : b ≤ 1) (w : World) : (callFunc 137 #[.int .u64 x, .int .u64 0, .int .u64 b]).run Tryz.prog w =
    .ok (.value (.tuple #[.int .u64 (M.lo (x - b)), .int .u64 (M.bo (x - b))])) w := by
  have := sub64 x 0 b hx (by decide) (by decide) hb0 hb w
  rwa [Int.sub_zero] at this
theorem sub64_00 (x y : Int) (hx : 0 ≤ x) (hy : 0 ≤ y) (hy' : y < M.BB) (w : World) : (callFunc 137 #[.int .u64 x, .int .u64 y, .int .u64 0]).run Tryz.prog w =
    .ok (.value (.tuple #[.int .u64 (M.lo (x - y)), .int .u64 (M.bo (x - y))])) w := by
  have := sub64 x y 0 hx hy hy' (by decide) (by decide) w
  rwa [Int.sub_zero] at this
end Go.Proofs.YtlepicdpelkmlaaGreatDoor
/- ==== Types ==== -/
namespace Go.Proofs.YtlepicdpelkmlaaGreatDoor
open Go.RowKit
theorem infoU64 : (Tryz.prog.info? 87).map (fun i => (i.zero, i.size, i.bytes)) = some (some (.int .u64 0), 1, 8) := by kernel_rfl
theorem infoInt : (Tryz.prog.info? 3).map (fun i => (i.zero, i.size, i.bytes)) = some (some (.int .i64 0), 1, 8) := by kernel_rfl
theorem infoByte : (Tryz.prog.info? 5).map (fun i => (i.zero, i.size, i.bytes)) = some (some (.int .u8 0), 1, 1) := by kernel_rfl
theorem sizeU64 : (Tryz.prog.info? 87).map (·.size) = some 1 := by kernel_rfl
theorem sizeInt : (Tryz.prog.info? 3).map (·.size) = some 1 := by kernel_rfl
theorem sliceU64 : Tryz.prog.underlying 88 = some (.slice 87) := by kernel_rfl
theorem sliceInt : Tryz.prog.underlying 75 = some (.slice 3) := by kernel_rfl
theorem sliceByte : Tryz.prog.underlying 113 = some (.slice 5) := by kernel_rfl
/-- An index within its bounds, of a slice of words. -/
theorem run_at_u64 (b o len cap : Nat) (i : Int) (h0 : 0 ≤ i) (h1 : i < len) (w : World) : (Instr.indexAt 88 (.slice (some ⟨b, o, none⟩) len cap) (.int .i64 i)).run Tryz.prog w = .ok (.pointer (some ⟨b, o + i.toNat, none⟩)) w := by
  have he : Tryz.prog.elem 88 = 87 := by kernel_rfl
  rw [run_indexAt_slice (h := by rw [he]; exact sliceU64), if_pos ⟨h0, h1⟩]
  simp [he, Addr.add]
end Go.Proofs.YtlepicdpelkmlaaGreatDoor
/- ==== Trim ==== -/
namespace Go.Proofs.YtlepicdpelkmlaaGreatDoor
open Go.RowKit

set_option maxHeartbeats 400000 in
theorem trim_at (w : World) (b off cap : Nat) (l : List Int) (hl : l.length ≤ cap) (hcap : cap ≤ 140737488355328)
    (hc : ∀ j, j < l.length → w.cell? ⟨b, off + j, none⟩ = some (.int .u64 (l.getD j 0))) :
    Calls Tryz.prog 120 #[.slice (some ⟨b, off, none⟩) l.length cap] w fun e w' => e = .returned (.slice (some ⟨b, off, none⟩) (M.trimmed l).length cap) ∧ w' = w := by
  go_enter Tryz.func120, Tryz.ntmps120
  go_wp2
  go_loop [0] (fun v => ∃ k : Nat, k ≤ l.length ∧ v = .slice (some ⟨b, off, none⟩) k cap ∧ Hid (M.trimmed (l.take k) = M.trimmed l)) (fun v => lenOf v)
  case atStart => exact ⟨l.length, Nat.le_refl _, rfl, by show M.trimmed _ = _; rw [List.take_length]⟩
  case round =>
    obtain ⟨k, hk, rfl, ht⟩ := hrel
    by_cases h0 : 0 < k
    · have hck : w.cell? ⟨b, off + (k - 1), none⟩ = some (.int .u64 (l.getD (k - 1) 0)) := hc (k - 1) (by omega)
      clear hc
      by_cases hz : l.getD (k - 1) 0 = 0
      · rw [hz] at hck
        go_wp2
        go_round
        case rel =>
          refine ⟨k - 1, by omega, rfl, ?_⟩
          show M.trimmed _ = _
          rw [← ht.out, ← M.trimmed_take_zero l (k - 1) (by omega) hz, Nat.sub_add_cancel h0]
        case measure => simp [lenOf]; omega
      · have hz' : (l.getD (k - 1) 0 == 0) = false := by simpa using hz
        have hf : Hid (k = (M.trimmed l).length) := by
          show k = _
          have h1 := M.trimmed_take_nonzero l (k - 1) (by omega) hz
          rw [Nat.sub_add_cancel h0, ht.out] at h1
          rw [h1, List.length_take]
          omega
        clear hz
        generalize l.getD (k - 1) 0 = x at *
        go_wp2
        go_ret
        exact ⟨ret_slice hf.out, rfl⟩
    · have hf : Hid (k = (M.trimmed l).length) := by
        show k = _
        have h1 := ht.out
        have h2 : k = 0 := by omega
        rw [h2] at h1 ⊢
        rw [← h1]
        rfl
      go_wp2
      go_ret
      exact ⟨ret_slice hf.out, rfl⟩

set_option maxHeartbeats 400000 in
theorem trim_nil (w : World) (ao : Option Addr) (cap : Nat) :
    Calls Tryz.prog 120 #[.slice ao 0 cap] w fun e w' => e = .returned (.slice ao 0 cap) ∧ w' = w := by
  go_enter Tryz.func120, Tryz.ntmps120
  go_wp2
  refine wp_loop_rounds 1 ?_
  rw [rounds_succ]
  go_wp2
  go_ret
  exact ⟨rfl, rfl⟩

/-- trim of a slice that reads l: the same memory, as long as l without the zeros at its top. -/
theorem trim_calls (w : World) (v : Value) (l : List Int) (h : Row .u64 w v l) :
    Calls Tryz.prog 120 #[v] w fun e w' => (∃ u, e = .returned u ∧ Row .u64 w u (M.trimmed l) ∧ ∀ a n c, u = .slice (some a) n c → ∃ m, v = .slice (some a) m c) ∧ w' = w := by
  obtain ⟨ao, cap, rfl, h1, h2, h3, h4⟩ := h
  by_cases hl : l = []
  · subst hl
    refine (trim_nil w ao cap).mono ?_
    rintro e w' ⟨rfl, rfl⟩
    exact ⟨⟨_, rfl, ⟨ao, cap, rfl, h1, h2, h3, fun h => absurd rfl h⟩, fun a n c e => ⟨n, e⟩⟩, rfl⟩
  · obtain ⟨b, off, rfl, hc⟩ := h4 hl
    refine (trim_at w b off cap l h1 h2 hc).mono ?_
    rintro e w' ⟨rfl, rfl⟩
    have ht := M.trimmed_le l
    refine ⟨⟨_, rfl, ⟨_, cap, rfl, by omega, h2, h3, fun _ => ⟨b, off, rfl, fun j hj => ?_⟩⟩, fun a n c e => ⟨l.length, by simp at e ⊢; exact ⟨e.1, e.2.2⟩⟩⟩, rfl⟩
    rw [hc j (by omega)]
    rw [show (M.trimmed l).getD j 0 = l.getD j 0 from M.trimmed_getD l j hj]

theorem trim_fresh {B : Nat} {v u : Value} {l' : List Int} (h : ∀ a n c, v = .slice (some a) n c → B ≤ a.block) (hu : ∀ a n c, u = .slice (some a) n c → ∃ m, v = .slice (some a) m c) : Fresh B u l' := by
  intro _ a n c e
  obtain ⟨m, e'⟩ := hu a n c e
  exact h a m c e'
theorem own_fresh (g : Nat) (N C : Nat) : ∀ a n c, Value.slice (some ⟨g, 0, none⟩) N C = .slice (some a) n c → g ≤ a.block := by
  intro a n c e
  simp at e
  rw [← e.1]
  exact Nat.le_refl g
end Go.Proofs.YtlepicdpelkmlaaGreatDoor
/- ==== Mul ==== -/
namespace Go.Proofs.YtlepicdpelkmlaaGreatDoor
open Go.RowKit
set_option linter.unusedVariables false

theorem mul64_calls (x y : Int) (w : World) (hx : 0 ≤ x ∧ x < M.BB) (hy : 0 ≤ y ∧ y < M.BB) :
    Calls Tryz.prog 98 #[.int .u64 x, .int .u64 y] w fun e w' => e = .returned (.tuple #[.int .u64 (M.hi (x * y)), .int .u64 (M.lo (x * y))]) ∧ w' = w := by
  obtain ⟨hx0, hx1⟩ := hx
  obtain ⟨hy0, hy1⟩ := hy
  rw [M.BB_eq] at hx1 hy1
  obtain ⟨x, rfl⟩ := Int.eq_ofNat_of_zero_le hx0
  obtain ⟨y, rfl⟩ := Int.eq_ofNat_of_zero_le hy0
  have h := Tryz.bits_Mul64 x y (by omega) (by omega) w
  have e1 : ((x * y / 18446744073709551616 : Nat) : Int) = M.hi ((x : Int) * y) := by unfold M.hi; rw [← Int.natCast_mul]; rfl
  have e2 : ((x * y % 18446744073709551616 : Nat) : Int) = M.lo ((x : Int) * y) := by unfold M.lo; rw [← Int.natCast_mul]; rfl
  rw [e1, e2] at h
  exact h

theorem mul_le {x y : Int} (hx : 0 ≤ x ∧ x < M.BB) (hy : 0 ≤ y ∧ y < M.BB) : 0 ≤ x * y ∧ x * y ≤ (M.BB - 1) * (M.BB - 1) := by
  refine ⟨Int.mul_nonneg hx.1 hy.1, ?_⟩
  have h1 : x * y ≤ (M.BB - 1) * y := Int.mul_le_mul_of_nonneg_right (by omega) hy.1
  have h2 : (M.BB - 1) * y ≤ (M.BB - 1) * (M.BB - 1) := Int.mul_le_mul_of_nonneg_left (by omega) (by have := M.BB_pos; omega)
  omega
/-- The two words of a product, with two words added: nothing runs over. -/
theorem words {x y l s : Int} (hx : 0 ≤ x ∧ x < M.BB) (hy : 0 ≤ y ∧ y < M.BB) (hl : 0 ≤ l ∧ l < M.BB) (hs : 0 ≤ s ∧ s < M.BB) :
    0 ≤ M.hi (x * y) ∧ 0 ≤ M.hi (M.lo (x * y) + l) ∧ 0 ≤ M.hi (s + M.lo (M.lo (x * y) + l)) ∧ M.hi (x * y) + M.hi (M.lo (x * y) + l) + M.hi (s + M.lo (M.lo (x * y) + l)) ≤ 18446744073709551615 ∧
    M.lo (s + M.lo (M.lo (x * y) + l)) + M.BB * (M.hi (x * y) + M.hi (M.lo (x * y) + l) + M.hi (s + M.lo (M.lo (x * y) + l))) = x * y + l + s := by
  have h := mul_le hx hy
  generalize x * y = p at *
  unfold M.BB at *
  unfold M.hi M.lo
  omega

theorem prod_step {y z l : List Int} {off k : Nat} {x u d left p q : Int} (hlen : off + k < y.length) (hlt : k < l.length) (hd : l.getD k 0 = d) (hu : y.getD (off + k) 0 = u)
    (he : p + M.BB * q = x * d + left + u) (hv : M.val M.BB y + M.BB ^ (off + k) * left = M.val M.BB z + M.BB ^ off * (x * M.val M.BB (l.take k))) :
    M.val M.BB (y.set (off + k) p) + M.BB ^ (off + (k + 1)) * q = M.val M.BB z + M.BB ^ off * (x * M.val M.BB (l.take (k + 1))) := by
  rw [M.val_set _ _ _ hlen, M.val_take_succ _ _ hlt, hd, hu, show off + (k + 1) = off + k + 1 from rfl, Int.pow_succ, Int.pow_add]
  rw [Int.pow_add] at hv
  grind

set_option maxRecDepth 100000 in
set_option maxHeartbeats 1600000 in
theorem addProduct_calls (w : World) (g off cap : Nat) (z : List Int) (v : Value) (l : List Int) (x : Int) (hz : Own .u64 87 w g z) (hd : M.Dig M.BB z) (hr : Row .u64 w v l) (hl : M.Dig M.BB l)
    (hlen : off + l.length ≤ z.length) (hbg : Apart v l g) (hx : 0 ≤ x ∧ x < M.BB) :
    Calls Tryz.prog 142 #[.slice (some ⟨g, off, none⟩) l.length cap, v, .int .u64 x] w fun e w' => ∃ left z', e = .returned (.int .u64 left) ∧ 0 ≤ left ∧ left < M.BB ∧
      Own .u64 87 w' g z' ∧ M.Dig M.BB z' ∧ z'.length = z.length ∧ (∀ j, off + l.length ≤ j → z'.getD j 0 = z.getD j 0) ∧ M.val M.BB z' + M.BB ^ (off + l.length) * left = M.val M.BB z + M.BB ^ off * (x * M.val M.BB l) ∧ w.grownBy w' (some g) := by
  obtain ⟨ab, cb, rfl, b1, b2, b3, b4⟩ := hr
  go_enter Tryz.func142, Tryz.ntmps142
  go_wp2
  go_loopw [7, 15] (fun lv i wr => ∃ (k : Nat) (left : Int) (y : List Int), k ≤ l.length ∧ i = .int .i64 k ∧ lv = .int .u64 left ∧ 0 ≤ left ∧ left < M.BB ∧ Own .u64 87 wr g y ∧ M.Dig M.BB y ∧ y.length = z.length ∧
      Hid (∀ j, off + l.length ≤ j → y.getD j 0 = z.getD j 0) ∧ Hid (M.val M.BB y + M.BB ^ (off + k) * left = M.val M.BB z + M.BB ^ off * (x * M.val M.BB (l.take k))) ∧ w.grownBy wr (some g)) (fun _ i _ => l.length - (intOf i).toNat)
  case atStart => exact ⟨0, 0, z, Nat.zero_le _, rfl, rfl, by decide, by decide, hz, hd, rfl, fun _ _ => rfl, by show _ = _; simp [M.val], grown_refl _ _⟩
  case round =>
    obtain ⟨k, left, y, hk, rfl, rfl, hc0, hc1, hy, hyd, hyl, hh, hv, hg⟩ := hrel
    by_cases hlt : k < l.length
    · have hne : l ≠ [] := by rintro rfl; simp at hlt
      obtain ⟨b, ob, rfl, hcb⟩ := b4 hne
      have hcell : wr.cell? ⟨b, ob + k, none⟩ = some (.int .u64 (l.getD k 0)) := hg.cell (hcb k hlt) (by have := hbg hne _ _ _ rfl; simpa using this)
      have hcy := hy.cell (off + k) (by omega)
      have hfy := hy.frozen (off + k)
      have hb1 := hl.getD M.BB_pos k
      have hb2 := hyd.getD M.BB_pos (off + k)
      generalize hdx : l.getD k 0 = d at *
      generalize hyx : y.getD (off + k) 0 = u at *
      obtain ⟨p1, p2, p3, p4, p5⟩ := words hx hb1 ⟨hc0, hc1⟩ hb2
      have hadd1 := add64_00 (M.lo (x * d)) left (M.lo_bd _).1 hc0
      have hadd2 := add64_00 u (M.lo (M.lo (x * d) + left)) hb2.1 (M.lo_bd _).1
      have P5 := hide p5
      clear hcb b4 p5
      have Hx := hide hdx
      have Hy := hide hyx
      have Hl := hide hyl
      have HX := hide hx
      have HB1 := hide hb1
      clear hdx hyx hyl hx hb1
      generalize hA : M.hi (x * d) = A at *
      generalize hB : M.lo (x * d) = Bl at *
      have MM : ∀ W, Calls Tryz.prog 98 #[.int .u64 x, .int .u64 d] W fun e w' => e = .returned (.tuple #[.int .u64 A, .int .u64 Bl]) ∧ w' = W := by
        intro W; rw [← hA, ← hB]; exact mul64_calls x d W HX.out HB1.out
      clear hA hB
      have MM := hide MM
      go_wp2_with (go_at_call 98; refine (unhide MM _).mono ?_; rintro e w' ⟨rfl, rfl⟩)
      go_roundw
      case rel =>
        refine ⟨k + 1, _, y.set (off + k) (M.lo (u + M.lo (Bl + left))), by omega, by go_num, rfl, by omega, by rw [M.BB_eq]; omega, hy.set _ _, hyd.set _ (M.lo_bd _).1 (M.lo_bd _).2, by simpa using Hl.out, ?_, ?_, ?_⟩
        · intro j hj
          rw [List.getD_eq_getElem?_getD, List.getElem?_set_ne (by omega), ← List.getD_eq_getElem?_getD]
          exact hh.out j hj
        · show _ = _
          exact prod_step (by have := Hl.out; omega) hlt Hx.out Hy.out P5.out hv.out
        · exact grown_trans hg (grown_set _ _ _ _)
      case measure => simp [intOf]; omega
    · have hk' : k = l.length := by omega
      subst hk'
      rw [List.take_length] at hv
      clear b4
      go_wp2
      go_ret
      exact ⟨left, y, rfl, hc0, hc1, hy, hyd, hyl, hh.out, hv.out, hg⟩

theorem school_step {y y' la lb : List Int} {k n : Nat} {x left : Int} (hk : k < la.length) (hx : la.getD k 0 = x) (hn : n = lb.length) (hlen : k + n < y'.length) (h0 : y'.getD (k + n) 0 = 0)
    (h1 : M.val M.BB y' + M.BB ^ (k + n) * left = M.val M.BB y + M.BB ^ k * (x * M.val M.BB lb)) (hv : M.val M.BB y = M.val M.BB (la.take k) * M.val M.BB lb) :
    M.val M.BB (y'.set (k + n) left) = M.val M.BB (la.take (k + 1)) * M.val M.BB lb := by
  rw [M.val_set _ _ _ hlen, h0, M.val_take_succ _ _ hk, hx]
  grind

set_option maxRecDepth 100000 in
set_option maxHeartbeats 1600000 in
theorem mulSchool_calls (w : World) (va vb : Value) (la lb : List Int) (ra : Row .u64 w va la) (rb : Row .u64 w vb lb) (da : M.Dig M.BB la) (db : M.Dig M.BB lb)
    (na : la.length + lb.length ≤ 35184372088832) :
    Calls Tryz.prog 122 #[va, vb] w fun e w' => (∃ v l, e = .returned v ∧ Row .u64 w' v l ∧ Fresh w.heap.size v l ∧ M.Dig M.BB l ∧ M.Trm l ∧ M.val M.BB l = M.val M.BB la * M.val M.BB lb) ∧ Below w.heap.size w w' := by
  have rb' := rb
  obtain ⟨ab, cb, hvb⟩ := (show ∃ ao c, vb = .slice ao lb.length c from ⟨_, _, rb.choose_spec.choose_spec.1⟩)
  subst hvb
  obtain ⟨aa, ca, rfl, a1, a2, a3, a4⟩ := ra
  go_enter Tryz.func122, Tryz.ntmps122
  go_wp2_with (at_make; refine wpList_make_row _ rfl _ _ _ rfl .u64 _ 8 sliceU64 infoU64 .i64 .i64 _ _ (la.length + lb.length) rfl rfl (by omega) (by omega) (by decide) (by omega) ?_; intro w1 z1 hz1 ho1 hg1 hs1)
  have l1 : z1.length = la.length + lb.length := by rw [hz1.out]; simp
  have d1 : M.Dig M.BB z1 := by rw [hz1.out]; exact M.Dig.replicate M.BB_pos _
  have v1 : M.val M.BB z1 = 0 := by rw [hz1.out]; exact M.val_replicate _
  have g1 : ∀ j, z1.getD j 0 = 0 := by
    intro j
    rw [hz1.out, List.getD_eq_getElem?_getD]
    simp [List.getElem?_replicate]
    split <;> rfl
  go_loopw [16] (fun i wr => ∃ (k : Nat) (y : List Int), k ≤ la.length ∧ i = .int .i64 k ∧ Own .u64 87 wr w.heap.size y ∧ M.Dig M.BB y ∧ y.length = la.length + lb.length ∧
      Hid (∀ j, k + lb.length ≤ j → y.getD j 0 = 0) ∧ Hid (M.val M.BB y = M.val M.BB (la.take k) * M.val M.BB lb) ∧ Below w.heap.size w wr) (fun i _ => la.length - (intOf i).toNat)
  case atStart => exact ⟨0, z1, Nat.zero_le _, rfl, ho1, d1, l1, fun j _ => g1 j, by show _ = _; rw [v1]; simp [M.val], grown_below hg1⟩
  case round =>
    clear l1 d1 v1 g1 ho1 hg1 hs1 hz1
    obtain ⟨k, y, hk, rfl, hy, hyd, hyl, hh, hv, hg⟩ := hrel
    by_cases hlt : k < la.length
    · have hne : la ≠ [] := by rintro rfl; simp at hlt
      obtain ⟨b, oa, rfl, hca⟩ := a4 hne
      have hcell : wr.cell? ⟨b, oa + k, none⟩ = some (.int .u64 (la.getD k 0)) := (hg.cell (p := ⟨b, oa + k, none⟩) (World.block_lt_of_cell? w _ (hca k hlt))).trans (hca k hlt)
      have hx := da.getD M.BB_pos k
      generalize hdx : la.getD k 0 = x at *
      have C := addProduct_calls wr w.heap.size k (la.length + lb.length - k) y _ lb x hy hyd (rb'.below hg) db (by omega) (rb'.apart (Nat.le_refl _)) hx
      have C := hide C
      have Hx := hide hdx
      have Hl := hide hyl
      have HX := hide hx
      clear hdx hyl hx a4 hca
      go_wp2_with (go_at_call 142; refine (unhide C).mono ?_; rintro e w' ⟨left, z', rfl, p1, p2, p3, p4, p5, p6, p7, p8⟩; have hf' := p3.frozen (k + lb.length); have hc' := p3.cell (k + lb.length) (by have := Hl.out; omega); have P5 := hide p5; have P6 := hide p6; have P7 := hide p7; clear p5 p6 p7)
      go_roundw
      case rel =>
        refine ⟨k + 1, z'.set (k + lb.length) left, by omega, by go_num, p3.set _ _, p4.set _ p1 p2, by simp [P5.out, Hl.out], ?_, ?_, ?_⟩
        · intro j hj
          rw [List.getD_eq_getElem?_getD, List.getElem?_set_ne (by omega), ← List.getD_eq_getElem?_getD, P6.out j (by omega)]
          exact hh.out j (by omega)
        · show _ = _
          exact school_step hlt Hx.out rfl (by have := Hl.out; have := P5.out; omega) (by rw [P6.out _ (Nat.le_refl _)]; exact hh.out _ (Nat.le_refl _)) P7.out hv.out
        · exact (hg.then_grown p8 (by simp)).then_grown (grown_set _ _ _ _) (by simp)
      case measure => simp [intOf]; omega
    · have hk' : k = la.length := by omega
      subst hk'
      rw [List.take_length] at hv
      have r3 : Row .u64 wr (.slice (some ⟨w.heap.size, 0, none⟩) (la.length + lb.length) (la.length + lb.length)) y := by
        have := hy.all (la.length + lb.length) (by omega) (by omega)
        rwa [hyl] at this
      have HY := hide hyl
      clear hyl a4
      go_wp2_with (go_at_call 120; refine (trim_calls _ _ y r3).mono ?_; rintro e w' ⟨⟨u, rfl, ru, fu⟩, rfl⟩)
      go_ret
      exact ⟨⟨u, M.trimmed y, rfl, ru, trim_fresh (own_fresh _ _ _) fu, M.trimmed_dig hyd, M.trimmed_trm _, by rw [M.trimmed_val]; exact hv.out⟩, hg⟩
end Go.Proofs.YtlepicdpelkmlaaGreatDoor
/- ==== Shift ==== -/
namespace Go.Proofs.YtlepicdpelkmlaaGreatDoor
open Go.RowKit
set_option linter.unusedVariables false

theorem mask32 (x : Int) (h0 : 0 ≤ x) (h1 : x ≤ 18446744073709551615) : bits BinOp.and IntKind.u64 x 4294967295 = x % 4294967296 := by
  obtain ⟨n, rfl⟩ := Int.eq_ofNat_of_zero_le h0
  have h := bits_and_u64_nat n 4294967295 (by omega) (by decide)
  have e : n &&& 4294967295 = n % 4294967296 := Nat.and_two_pow_sub_one_eq_mod n 32
  rw [e] at h
  rw [show ((4294967295 : Nat) : Int) = 4294967295 from rfl] at h
  rw [h]
  rfl
theorem or_add (a b : Int) (s : Nat) (A : Int) (hA : 0 ≤ A) (ha : a = A * 2 ^ s) (ha1 : a ≤ 18446744073709551615) (hb : 0 ≤ b) (hb1 : b < 2 ^ s) (hb2 : b ≤ 18446744073709551615) : bits BinOp.or IntKind.u64 a b = a + b := by
  obtain ⟨A, rfl⟩ := Int.eq_ofNat_of_zero_le hA
  obtain ⟨b, rfl⟩ := Int.eq_ofNat_of_zero_le hb
  have ea : a = ((2 ^ s * A : Nat) : Int) := by rw [ha, Int.mul_comm, Int.natCast_mul, Int.natCast_pow]; rfl
  have hb' : b < 2 ^ s := by
    have : ((b : Nat) : Int) < ((2 ^ s : Nat) : Int) := by rw [Int.natCast_pow]; exact hb1
    omega
  rw [ea]
  have h := bits_or_u64_nat (2 ^ s * A) b (by omega) (by omega)
  rw [← Nat.two_pow_add_eq_or_of_lt hb'] at h
  rw [h, Int.natCast_add]

/-- How far a word can be moved up. -/
def lz (y : Int) : Nat := 64 - Lib.bitLen y.toNat
theorem lz_facts (y : Int) (h0 : 0 < y) (h1 : y ≤ 18446744073709551615) : lz y < 64 ∧ 9223372036854775808 ≤ y * 2 ^ lz y ∧ y * 2 ^ lz y ≤ 18446744073709551615 := by
  have hb := Lib.bitLenAux_bounds 64 y.toNat (by omega) (by omega)
  have hl := Lib.bitLen_le y.toNat 64 (Nat.le_refl _) (by omega)
  unfold lz
  change 1 ≤ Lib.bitLen y.toNat ∧ 2 ^ (Lib.bitLen y.toNat - 1) ≤ y.toNat ∧ y.toNat < 2 ^ Lib.bitLen y.toNat at hb
  generalize Lib.bitLen y.toNat = n at *
  obtain ⟨y, rfl⟩ := Int.eq_ofNat_of_zero_le (Int.le_of_lt h0)
  rw [Int.toNat_natCast] at hb
  obtain ⟨b1, b2, b3⟩ := hb
  have e1 : 2 ^ (n - 1) * 2 ^ (64 - n) = 9223372036854775808 := by
    rw [← Nat.pow_add, show n - 1 + (64 - n) = 63 by omega]
  have e2 : 2 ^ n * 2 ^ (64 - n) = 18446744073709551616 := by
    rw [← Nat.pow_add, show n + (64 - n) = 64 by omega]
  have c1 := Nat.mul_le_mul_right (2 ^ (64 - n)) b2
  have c2 : y * 2 ^ (64 - n) < 2 ^ n * 2 ^ (64 - n) := Nat.mul_lt_mul_of_pos_right b3 (Nat.two_pow_pos _)
  have e3 : (y : Int) * 2 ^ (64 - n) = ((y * 2 ^ (64 - n) : Nat) : Int) := by rw [Int.natCast_mul, Int.natCast_pow]; rfl
  rw [e3]
  omega
theorem lz_calls (y : Int) (h0 : 0 < y) (h1 : y ≤ 18446744073709551615) (w : World) : Calls Tryz.prog 156 #[.int .u64 y] w fun e w' => e = .returned (.int .i64 (lz y)) ∧ w' = w := by
  have h := Tryz.bits_LeadingZeros64 y w (by omega) h1
  have hl := Lib.bitLen_le y.toNat 64 (Nat.le_refl _) (by omega)
  have e : (64 - (Lib.bitLen y.toNat : Int)) = ((lz y : Nat) : Int) := by unfold lz; omega
  rwa [e] at h
theorem two_pos (s : Nat) : (0 : Int) < 2 ^ s := Int.pow_pos (by decide)
theorem pow_split (s : Nat) (h : s ≤ 64) : (2 : Int) ^ (64 - s) * 2 ^ s = 18446744073709551616 := by
  rw [← Int.pow_add, Nat.sub_add_cancel h]; rfl
/-- The bits that are moved out at the top. -/
theorem top_bits (l : Int) (s : Nat) (h : s ≤ 64) : l * 2 ^ s / 18446744073709551616 = l / 2 ^ (64 - s) := by
  rw [← pow_split s h, Int.mul_ediv_mul_of_pos_left _ _ (two_pos s)]
end Go.Proofs.YtlepicdpelkmlaaGreatDoor
/- ==== Div64 ==== -/
namespace Go.Proofs.YtlepicdpelkmlaaGreatDoor
open Go.RowKit
set_option linter.unusedVariables false

theorem step_eq (r Y q : Int) : r + Y + (q - 1) * Y = r + q * Y := by grind

set_option maxRecDepth 100000 in
set_option maxHeartbeats 4000000 in
theorem div64_core (h l y Y Y1 Y0 H T U L L1 L0 : Int) (w : World) (h0 : 0 < h) (hh : h < y) (hl : 0 ≤ l) (hl1 : l ≤ 18446744073709551615) (hy : y ≤ 18446744073709551615) (s : Nat) (hs : s < 64)
    (LZ : ∀ W, Calls Tryz.prog 156 #[.int .u64 y] W fun e w' => e = .returned (.int .i64 s) ∧ w' = W)
    (ey : IntKind.u64.wrap (y * 2 ^ s) = Y) (ey1 : Y / 4294967296 = Y1) (ey0 : bits BinOp.and IntKind.u64 Y 4294967295 = Y0) (eh : IntKind.u64.wrap (h * 2 ^ s) = H) (et : l / 2 ^ (64 - s) = T) (eu : bits BinOp.or IntKind.u64 H T = U)
    (el : IntKind.u64.wrap (l * 2 ^ s) = L) (el1 : L / 4294967296 = L1) (el0 : bits BinOp.and IntKind.u64 L 4294967295 = L0)
    (A : M.Half 4294967296 U L1 Y Y1 Y0) (hYb : Y ≤ 18446744073709551615) (l00 : 0 ≤ L0) (l01 : L0 < 4294967296) :
    Calls Tryz.prog 157 #[.int .u64 h, .int .u64 l, .int .u64 y] w fun e w' =>
      e = .returned (.tuple #[.int .u64 ((U * 4294967296 + L1) / Y * 4294967296 + ((U * 4294967296 + L1) % Y * 4294967296 + L0) / Y), .int .u64 (((U * 4294967296 + L1) % Y * 4294967296 + L0) % Y / 2 ^ s)]) ∧ w' = w := by
  have LZ := hide LZ
  have e1 : (y == 0) = false := by simp; omega
  have e2 : (h == 0) = false := by simp; omega
  have e3 : (Y1 == 0) = false := by have := A.y1; simp; omega
  have y1p := A.y1pos
  have y1b := A.y1b
  have y1h := A.y1
  have y00 := A.y0
  have y0b := A.y0b
  have u0 := A.u0
  have uy := A.uy
  have dn := A.d0
  have db := A.db
  obtain ⟨s1, s2, s3, s4, s5, s6⟩ := A.start
  have sq := A.q_lt
  have sn := A.q_nn
  obtain ⟨Q, hQ⟩ : ∃ Q, (U * 4294967296 + L1) / Y = Q := ⟨_, rfl⟩
  obtain ⟨V, hV⟩ : ∃ V, (U * 4294967296 + L1) % Y = V := ⟨_, rfl⟩
  have vn : 0 ≤ V := by rw [← hV]; exact Int.emod_nonneg _ (by omega)
  have vy : V < Y := by rw [← hV]; exact Int.emod_lt_of_pos _ (by omega)
  have A2 : M.Half 4294967296 V L0 Y Y1 Y0 := ⟨by decide, A.y, y00, y0b, y1h, y1b, vn, vy, l00, l01⟩
  have e21 : IntKind.u64.wrap (IntKind.u64.wrap (IntKind.u64.wrap (U * 4294967296) + L1) - IntKind.u64.wrap (Q * Y)) = V := by
    have := M.rest_eq U 4294967296 L1 Y
    rw [hQ, hV] at this
    simp only [IntKind.wrap_u64]
    omega
  rw [hQ] at s1 sq sn
  rw [hQ, hV]
  have HQ := hide hQ
  clear hQ hV
  have A1 := hide A
  have A2 := hide A2
  clear A
  obtain ⟨t1, t2, t3, t4, t5, t6⟩ := A2.out.start
  have tq := A2.out.q_lt
  have tn := A2.out.q_nn
  obtain ⟨Q0, hQ0⟩ : ∃ Q0, (V * 4294967296 + L0) / Y = Q0 := ⟨_, rfl⟩
  obtain ⟨R, hR⟩ : ∃ R, (V * 4294967296 + L0) % Y = R := ⟨_, rfl⟩
  have rn : 0 ≤ R := by rw [← hR]; exact Int.emod_nonneg _ (by omega)
  have ry : R < Y := by rw [← hR]; exact Int.emod_lt_of_pos _ (by omega)
  have e31 : IntKind.u64.wrap (IntKind.u64.wrap (IntKind.u64.wrap (V * 4294967296) + L0) - IntKind.u64.wrap (Q0 * Y)) = R := by
    have := M.rest_eq V 4294967296 L0 Y
    rw [hQ0, hR] at this
    simp only [IntKind.wrap_u64]
    omega
  rw [hQ0] at t1 tq tn
  rw [hQ0, hR]
  have HQ0 := hide hQ0
  have HR := hide hR
  clear hQ0 hR
  go_enter Tryz.func157, Tryz.ntmps157
  go_wp2_with (go_at_call 156; refine (unhide LZ _).mono ?_; rintro e w' ⟨rfl, rfl⟩)
  go_loop [15, 16] (fun qv rv => ∃ q r : Int, qv = .int .u64 q ∧ rv = .int .u64 r ∧ 0 ≤ r ∧ r < 4294967296 ∧ Hid (r + q * Y1 = U) ∧ Q ≤ q ∧ q ≤ 4294967297) (fun _ rv => (4294967296 - intOf rv).toNat)
  case atStart => exact ⟨_, _, rfl, rfl, by omega, by omega, by show _ = _; omega, s1, s2⟩
  case round =>
    obtain ⟨q, r, rfl, rfl, r0, rb, hr, hq, hq1⟩ := hrel
    by_cases c1 : 4294967296 ≤ q
    · have m := A1.out.more hr.out (.inl c1)
      rw [HQ.out] at m
      by_cases c3 : r + Y1 < 4294967296
      · go_wp2
        go_round
        case rel => exact ⟨_, _, rfl, rfl, by omega, by omega, by show _ = _; rw [← hr.out]; exact step_eq _ _ _, m, by omega⟩
        case measure => simp [intOf]; omega
      · have m2 := A1.out.out (r := r + Y1) (q := q - 1) ((step_eq _ _ _).trans hr.out) (by omega) (by omega)
        rw [HQ.out] at m2
        have hqf : q - 1 = Q := by omega
        go_wp2
        go_loop [16, 18] (fun rv qv => ∃ q r : Int, qv = .int .u64 q ∧ rv = .int .u64 r ∧ 0 ≤ r ∧ r < 4294967296 ∧ Hid (r + q * Y1 = V) ∧ Q0 ≤ q ∧ q ≤ 4294967297) (fun rv _ => (4294967296 - intOf rv).toNat)
        case atStart => exact ⟨_, _, rfl, rfl, by omega, by omega, by show _ = _; omega, t1, t2⟩
        case round =>
          obtain ⟨q, r, rfl, rfl, r0, rb, hr, hq, hq1⟩ := hrel
          by_cases c1 : 4294967296 ≤ q
          · have m := A2.out.more hr.out (.inl c1)
            rw [HQ0.out] at m
            by_cases c3 : r + Y1 < 4294967296
            · go_wp2
              go_round
              case rel => exact ⟨_, _, rfl, rfl, by omega, by omega, by show _ = _; rw [← hr.out]; exact step_eq _ _ _, m, by omega⟩
              case measure => simp [intOf]; omega
            · have m2 := A2.out.out (r := r + Y1) (q := q - 1) ((step_eq _ _ _).trans hr.out) (by omega) (by omega)
              rw [HQ0.out] at m2
              have hqf : q - 1 = Q0 := by omega
              go_wp2
              go_ret2
              exact ⟨rfl, rfl⟩
          · have p0 : 0 ≤ q * Y0 := Int.mul_nonneg (by omega) y00
            have p1 : q * Y0 ≤ 18446744073709551615 := by
              have := Int.mul_le_mul_of_nonneg_right (show q ≤ 4294967295 by omega) y00
              omega
            by_cases c2 : 4294967296 * r + L0 < q * Y0
            · have m := A2.out.more hr.out (.inr c2)
              rw [HQ0.out] at m
              by_cases c3 : r + Y1 < 4294967296
              · go_wp2
                go_round
                case rel => exact ⟨_, _, rfl, rfl, by omega, by omega, by show _ = _; rw [← hr.out]; exact step_eq _ _ _, m, by omega⟩
                case measure => simp [intOf]; omega
              · have m2 := A2.out.out (r := r + Y1) (q := q - 1) ((step_eq _ _ _).trans hr.out) (by omega) (by omega)
                rw [HQ0.out] at m2
                have hqf : q - 1 = Q0 := by omega
                go_wp2
                go_ret2
                exact ⟨rfl, rfl⟩
            · have m := A2.out.done hr.out (by omega)
              rw [HQ0.out] at m
              obtain rfl : q = Q0 := by omega
              go_wp2
              go_ret2
              exact ⟨rfl, rfl⟩
    · have p0 : 0 ≤ q * Y0 := Int.mul_nonneg (by omega) y00
      have p1 : q * Y0 ≤ 18446744073709551615 := by
        have := Int.mul_le_mul_of_nonneg_right (show q ≤ 4294967295 by omega) y00
        omega
      by_cases c2 : 4294967296 * r + L1 < q * Y0
      · have m := A1.out.more hr.out (.inr c2)
        rw [HQ.out] at m
        by_cases c3 : r + Y1 < 4294967296
        · go_wp2
          go_round
          case rel => exact ⟨_, _, rfl, rfl, by omega, by omega, by show _ = _; rw [← hr.out]; exact step_eq _ _ _, m, by omega⟩
          case measure => simp [intOf]; omega
        · have m2 := A1.out.out (r := r + Y1) (q := q - 1) ((step_eq _ _ _).trans hr.out) (by omega) (by omega)
          rw [HQ.out] at m2
          have hqf : q - 1 = Q := by omega
          go_wp2
          go_loop [16, 18] (fun rv qv => ∃ q r : Int, qv = .int .u64 q ∧ rv = .int .u64 r ∧ 0 ≤ r ∧ r < 4294967296 ∧ Hid (r + q * Y1 = V) ∧ Q0 ≤ q ∧ q ≤ 4294967297) (fun rv _ => (4294967296 - intOf rv).toNat)
          case atStart => exact ⟨_, _, rfl, rfl, by omega, by omega, by show _ = _; omega, t1, t2⟩
          case round =>
            obtain ⟨q, r, rfl, rfl, r0, rb, hr, hq, hq1⟩ := hrel
            by_cases c1 : 4294967296 ≤ q
            · have m := A2.out.more hr.out (.inl c1)
              rw [HQ0.out] at m
              by_cases c3 : r + Y1 < 4294967296
              · go_wp2
                go_round
                case rel => exact ⟨_, _, rfl, rfl, by omega, by omega, by show _ = _; rw [← hr.out]; exact step_eq _ _ _, m, by omega⟩
                case measure => simp [intOf]; omega
              · have m2 := A2.out.out (r := r + Y1) (q := q - 1) ((step_eq _ _ _).trans hr.out) (by omega) (by omega)
                rw [HQ0.out] at m2
                have hqf : q - 1 = Q0 := by omega
                go_wp2
                go_ret2
                exact ⟨rfl, rfl⟩
            · have p0 : 0 ≤ q * Y0 := Int.mul_nonneg (by omega) y00
              have p1 : q * Y0 ≤ 18446744073709551615 := by
                have := Int.mul_le_mul_of_nonneg_right (show q ≤ 4294967295 by omega) y00
                omega
              by_cases c2 : 4294967296 * r + L0 < q * Y0
              · have m := A2.out.more hr.out (.inr c2)
                rw [HQ0.out] at m
                by_cases c3 : r + Y1 < 4294967296
                · go_wp2
                  go_round
                  case rel => exact ⟨_, _, rfl, rfl, by omega, by omega, by show _ = _; rw [← hr.out]; exact step_eq _ _ _, m, by omega⟩
                  case measure => simp [intOf]; omega
                · have m2 := A2.out.out (r := r + Y1) (q := q - 1) ((step_eq _ _ _).trans hr.out) (by omega) (by omega)
                  rw [HQ0.out] at m2
                  have hqf : q - 1 = Q0 := by omega
                  go_wp2
                  go_ret2
                  exact ⟨rfl, rfl⟩
              · have m := A2.out.done hr.out (by omega)
                rw [HQ0.out] at m
                obtain rfl : q = Q0 := by omega
                go_wp2
                go_ret2
                exact ⟨rfl, rfl⟩
      · have m := A1.out.done hr.out (by omega)
        rw [HQ.out] at m
        obtain rfl : q = Q := by omega
        go_wp2
        go_loop [16, 18] (fun rv qv => ∃ q r : Int, qv = .int .u64 q ∧ rv = .int .u64 r ∧ 0 ≤ r ∧ r < 4294967296 ∧ Hid (r + q * Y1 = V) ∧ Q0 ≤ q ∧ q ≤ 4294967297) (fun rv _ => (4294967296 - intOf rv).toNat)
        case atStart => exact ⟨_, _, rfl, rfl, by omega, by omega, by show _ = _; omega, t1, t2⟩
        case round =>
          obtain ⟨q, r, rfl, rfl, r0, rb, hr, hq, hq1⟩ := hrel
          by_cases c1 : 4294967296 ≤ q
          · have m := A2.out.more hr.out (.inl c1)
            rw [HQ0.out] at m
            by_cases c3 : r + Y1 < 4294967296
            · go_wp2
              go_round
              case rel => exact ⟨_, _, rfl, rfl, by omega, by omega, by show _ = _; rw [← hr.out]; exact step_eq _ _ _, m, by omega⟩
              case measure => simp [intOf]; omega
            · have m2 := A2.out.out (r := r + Y1) (q := q - 1) ((step_eq _ _ _).trans hr.out) (by omega) (by omega)
              rw [HQ0.out] at m2
              have hqf : q - 1 = Q0 := by omega
              go_wp2
              go_ret2
              exact ⟨rfl, rfl⟩
          · have p0 : 0 ≤ q * Y0 := Int.mul_nonneg (by omega) y00
            have p1 : q * Y0 ≤ 18446744073709551615 := by
              have := Int.mul_le_mul_of_nonneg_right (show q ≤ 4294967295 by omega) y00
              omega
            by_cases c2 : 4294967296 * r + L0 < q * Y0
            · have m := A2.out.more hr.out (.inr c2)
              rw [HQ0.out] at m
              by_cases c3 : r + Y1 < 4294967296
              · go_wp2
                go_round
                case rel => exact ⟨_, _, rfl, rfl, by omega, by omega, by show _ = _; rw [← hr.out]; exact step_eq _ _ _, m, by omega⟩
                case measure => simp [intOf]; omega
              · have m2 := A2.out.out (r := r + Y1) (q := q - 1) ((step_eq _ _ _).trans hr.out) (by omega) (by omega)
                rw [HQ0.out] at m2
                have hqf : q - 1 = Q0 := by omega
                go_wp2
                go_ret2
                exact ⟨rfl, rfl⟩
            · have m := A2.out.done hr.out (by omega)
              rw [HQ0.out] at m
              obtain rfl : q = Q0 := by omega
              go_wp2
              go_ret2
              exact ⟨rfl, rfl⟩
end Go.Proofs.YtlepicdpelkmlaaGreatDoor
/- ==== Div64b ==== -/
namespace Go.Proofs.YtlepicdpelkmlaaGreatDoor
open Go.RowKit
set_option linter.unusedVariables false

set_option maxRecDepth 100000 in
set_option maxHeartbeats 1000000 in
theorem div64_small (l y : Int) (w : World) (hl : 0 ≤ l) (hl1 : l ≤ 18446744073709551615) (hy0 : 0 < y) (hy : y ≤ 18446744073709551615) :
    Calls Tryz.prog 157 #[.int .u64 0, .int .u64 l, .int .u64 y] w fun e w' => e = .returned (.tuple #[.int .u64 (l / y), .int .u64 (l % y)]) ∧ ∃ n, w' = w.drewN n := by
  have e1 : (y == 0) = false := by simp; omega
  have b1 : 0 ≤ l / y := Int.ediv_nonneg hl (by omega)
  have b2 : l / y ≤ 18446744073709551615 := Int.le_trans (Int.ediv_le_self _ hl) hl1
  go_enter Tryz.func157, Tryz.ntmps157
  go_wp2
  go_region
  all_goals (try go_wp2)
  all_goals go_ret2
  all_goals exact ⟨rfl, _, rfl⟩

/-- Div64: the quotient and the remainder of the two words by the third, which is above the first. -/
theorem div64_calls (h l y : Int) (w : World) (h0 : 0 ≤ h) (hh : h < y) (hl : 0 ≤ l ∧ l < M.BB) (hy : y < M.BB) :
    Calls Tryz.prog 157 #[.int .u64 h, .int .u64 l, .int .u64 y] w fun e w' => e = .returned (.tuple #[.int .u64 ((h * M.BB + l) / y), .int .u64 ((h * M.BB + l) % y)]) ∧ ∃ n, w' = w.drewN n := by
  obtain ⟨hl0, hl1⟩ := hl
  rw [M.BB_eq] at *
  by_cases hz : h = 0
  · subst hz
    have := div64_small l y w hl0 (by omega) hh (by omega)
    simpa using this
  · obtain ⟨f1, f2, f3⟩ := lz_facts y (by omega) (by omega)
    have P := pow_split (lz y) (by omega)
    have p0 := two_pos (lz y)
    have p1 := two_pos (64 - lz y)
    have T0 := top_bits l (lz y) (by omega)
    have LZ := lz_calls y (by omega) (by omega)
    generalize hs : lz y = s at *
    have hH : h * 2 ^ s ≤ y * 2 ^ s - 2 ^ s := by
      have := Int.mul_le_mul_of_nonneg_right (show h ≤ y - 1 by omega) (Int.le_of_lt p0)
      grind
    have hH0 : 0 ≤ h * 2 ^ s := Int.mul_nonneg h0 (Int.le_of_lt p0)
    have hL0 : 0 ≤ l * 2 ^ s := Int.mul_nonneg hl0 (Int.le_of_lt p0)
    have hT0 : 0 ≤ l / 2 ^ (64 - s) := Int.ediv_nonneg hl0 (Int.le_of_lt p1)
    have hT1 : l / 2 ^ (64 - s) < 2 ^ s := by
      rw [Int.ediv_lt_iff_lt_mul p1, Int.mul_comm, P]; omega
    have ey : IntKind.u64.wrap (y * 2 ^ s) = y * 2 ^ s := by rw [IntKind.wrap_u64]; omega
    have eh : IntKind.u64.wrap (h * 2 ^ s) = h * 2 ^ s := by rw [IntKind.wrap_u64]; omega
    have el : IntKind.u64.wrap (l * 2 ^ s) = l * 2 ^ s % 18446744073709551616 := by rw [IntKind.wrap_u64]
    have eu := or_add (h * 2 ^ s) (l / 2 ^ (64 - s)) s h h0 rfl (by omega) hT0 hT1 (by omega)
    have C := div64_core h l y (y * 2 ^ s) (y * 2 ^ s / 4294967296) (y * 2 ^ s % 4294967296) (h * 2 ^ s) (l / 2 ^ (64 - s)) (h * 2 ^ s + l / 2 ^ (64 - s)) (l * 2 ^ s % 18446744073709551616) (l * 2 ^ s % 18446744073709551616 / 4294967296) (l * 2 ^ s % 18446744073709551616 % 4294967296)
      w (by omega) hh hl0 (by omega) (by omega) s f1 LZ ey rfl (mask32 _ (by omega) (by omega)) eh rfl eu el rfl (mask32 _ (by omega) (by omega))
      ⟨by decide, by omega, by omega, by omega, by omega, by omega, by omega, by omega, by omega, by omega⟩ (by omega) (by omega) (by omega)
    have E1 := M.two_halves (b := 4294967296) (U := h * 2 ^ s + l / 2 ^ (64 - s)) (d0 := l * 2 ^ s % 18446744073709551616 % 4294967296) (d1 := l * 2 ^ s % 18446744073709551616 / 4294967296) (Y := y * 2 ^ s) (by omega)
    have E2 : (h * 2 ^ s + l / 2 ^ (64 - s)) * (4294967296 * 4294967296) + (l * 2 ^ s % 18446744073709551616 / 4294967296 * 4294967296 + l * 2 ^ s % 18446744073709551616 % 4294967296) = (h * 18446744073709551616 + l) * 2 ^ s := by
      rw [← T0]
      have h1 := Int.mul_ediv_add_emod (l * 2 ^ s) 18446744073709551616
      have h2 := Int.mul_ediv_add_emod (l * 2 ^ s % 18446744073709551616) 4294967296
      grind
    rw [E2] at E1
    obtain ⟨S1, S2⟩ := M.scaled (A := h * 18446744073709551616 + l) (y := y) p0
    rw [E1.1, E1.2, S1, S2] at C
    refine C.mono ?_
    rintro e w' ⟨h1, h2⟩
    exact ⟨h1, 0, h2⟩
end Go.Proofs.YtlepicdpelkmlaaGreatDoor
/- ==== DivByDigit ==== -/
namespace Go.Proofs.YtlepicdpelkmlaaGreatDoor
open Go.RowKit
set_option linter.unusedVariables false

theorem drop_val (l : List Int) (k : Nat) (h : k < l.length) : M.val M.BB (l.drop k) = l.getD k 0 + M.BB * M.val M.BB (l.drop (k + 1)) := by
  rw [List.drop_eq_getElem_cons h, M.val, List.getD_eq_getElem?_getD, List.getElem?_eq_getElem h, Option.getD_some]
theorem drop_set_val (l : List Int) (k : Nat) (x : Int) (h : k < l.length) : M.val M.BB ((l.set k x).drop k) = x + M.BB * M.val M.BB (l.drop (k + 1)) := by
  rw [drop_val _ _ (by simpa using h)]
  have e1 : (l.set k x).getD k 0 = x := by simp [List.getD_eq_getElem?_getD, h]
  have e2 : (l.set k x).drop (k + 1) = l.drop (k + 1) := by rw [List.drop_set, if_pos (by omega)]
  rw [e1, e2]
theorem digit_step {la y : List Int} {k : Nat} {a b r : Int} (h1 : k < la.length) (h2 : k < y.length) (ha : la.getD k 0 = a) (hv : M.val M.BB (la.drop (k + 1)) = b * M.val M.BB (y.drop (k + 1)) + r) :
    M.val M.BB (la.drop k) = b * M.val M.BB ((y.set k ((r * M.BB + a) / b)).drop k) + (r * M.BB + a) % b := by
  rw [drop_val _ _ h1, drop_set_val _ _ _ h2, ha, hv]
  have := Int.mul_ediv_add_emod (r * M.BB + a) b
  generalize (r * M.BB + a) / b = q at *
  generalize (r * M.BB + a) % b = s at *
  grind

set_option maxRecDepth 100000 in
set_option maxHeartbeats 1600000 in
theorem divByDigit_calls (w : World) (va : Value) (la : List Int) (b : Int) (ra : Row .u64 w va la) (da : M.Dig M.BB la) (na : la.length ≤ 35184372088832) (hb : 0 < b ∧ b < M.BB) :
    Calls Tryz.prog 139 #[va, .int .u64 b] w fun e w' => (∃ v l r, e = .returned (.tuple #[v, .int .u64 r]) ∧ Row .u64 w' v l ∧ Fresh w.heap.size v l ∧ M.Dig M.BB l ∧ M.Trm l ∧ M.val M.BB l = M.val M.BB la / b ∧ r = M.val M.BB la % b) ∧ Below w.heap.size w w' := by
  obtain ⟨aa, ca, rfl, a1, a2, a3, a4⟩ := ra
  go_enter Tryz.func139, Tryz.ntmps139
  go_wp2_with (at_make; refine wpList_make_row _ rfl _ _ _ rfl .u64 _ 8 sliceU64 infoU64 .i64 .i64 _ _ la.length rfl rfl (by omega) (by omega) (by decide) (by omega) ?_; intro w1 z1 hz1 ho1 hg1 hs1)
  have l1 : z1.length = la.length := by rw [hz1.out]; simp
  have d1 : M.Dig M.BB z1 := by rw [hz1.out]; exact M.Dig.replicate M.BB_pos _
  go_loopw [7, 8] (fun rv i wr => ∃ (k : Nat) (r : Int) (y : List Int), k ≤ la.length ∧ i = .int .i64 ((k : Int) - 1) ∧ rv = .int .u64 r ∧ 0 ≤ r ∧ r < b ∧ Own .u64 87 wr w.heap.size y ∧ M.Dig M.BB y ∧ y.length = la.length ∧
      Hid (M.val M.BB (la.drop k) = b * M.val M.BB (y.drop k) + r) ∧ Below w.heap.size w wr) (fun _ i _ => (intOf i + 1).toNat)
  case atStart => exact ⟨la.length, 0, z1, Nat.le_refl _, rfl, rfl, by decide, hb.1, ho1, d1, l1, by show _ = _; rw [List.drop_length, ← l1, List.drop_length]; simp [M.val], grown_below hg1⟩
  case round =>
    clear l1 d1 ho1 hg1 hs1 hz1
    obtain ⟨k, r, y, hk, rfl, rfl, r0, rb, hy, hyd, hyl, hv, hg⟩ := hrel
    by_cases h0 : 0 < k
    · obtain ⟨k, rfl⟩ : ∃ j, k = j + 1 := ⟨k - 1, by omega⟩
      rw [show ((k + 1 : Nat) : Int) - 1 = (k : Int) from by omega]
      have hne : la ≠ [] := by rintro rfl; simp at hk
      obtain ⟨bk, oa, rfl, hca⟩ := a4 hne
      have hcell : wr.cell? ⟨bk, oa + k, none⟩ = some (.int .u64 (la.getD k 0)) := (hg.cell (p := ⟨bk, oa + k, none⟩) (World.block_lt_of_cell? w _ (hca k (by omega)))).trans (hca k (by omega))
      have hx := da.getD M.BB_pos k
      have hcy := hy.cell k (by omega)
      have hfy := hy.frozen k
      generalize hdx : la.getD k 0 = a at *
      have C := hide (fun W => div64_calls r a b W r0 rb hx hb.2)
      have q0 : 0 ≤ (r * M.BB + a) / b := Int.ediv_nonneg (by have := Int.mul_nonneg r0 (Int.le_of_lt M.BB_pos); omega) (by omega)
      have q1 : (r * M.BB + a) / b < M.BB := by
        rw [Int.ediv_lt_iff_lt_mul hb.1]
        have := Int.mul_le_mul_of_nonneg_right (show r + 1 ≤ b by omega) (Int.le_of_lt M.BB_pos)
        rw [Int.add_mul] at this
        rw [Int.mul_comm M.BB b]
        omega
      have s0 := Int.emod_nonneg (r * M.BB + a) (show b ≠ 0 by omega)
      have s1 := Int.emod_lt_of_pos (r * M.BB + a) hb.1
      have ST := hide (digit_step (b := b) (r := r) (show k < la.length by omega) (show k < y.length by omega) hdx hv.out)
      have Hl := hide hyl
      clear hdx hyl hx a4 hca hv
      generalize (r * M.BB + a) / b = q at *
      generalize (r * M.BB + a) % b = s at *
      go_wp2_with (go_at_call 157; refine (unhide C _).mono ?_; rintro e w' ⟨rfl, nd, rfl⟩)
      go_roundw
      case rel =>
        refine ⟨k, s, y.set k q, by omega, rfl, rfl, s0, s1, hy.set _ _, hyd.set _ q0 q1, by simpa using Hl.out, ST, ?_⟩
        exact (show Below w.heap.size w (wr.drewN nd) from ⟨hg.os, hg.tape, hg.output, hg.size, hg.block⟩).then_grown (grown_set _ _ _ _) (by simp)
      case measure => simp [intOf]
    · have hk0 : k = 0 := by omega
      subst hk0
      have r3 : Row .u64 wr (.slice (some ⟨w.heap.size, 0, none⟩) la.length la.length) y := by
        have := hy.all la.length (by omega) (by omega)
        rwa [hyl] at this
      have hv' : M.val M.BB la = b * M.val M.BB y + r := by have := hv.out; simpa using this
      have HY := hide hyl
      have HV := hide hv'
      clear hyl a4 hv'
      go_wp2_with (go_at_call 120; refine (trim_calls _ _ y r3).mono ?_; rintro e w' ⟨⟨u, rfl, ru, fu⟩, rfl⟩)
      go_ret2
      refine ⟨⟨u, M.trimmed y, r, rfl, ru, trim_fresh (own_fresh _ _ _) fu, M.trimmed_dig hyd, M.trimmed_trm _, ?_, ?_⟩, hg⟩
      · rw [M.trimmed_val, HV.out, Int.add_comm, Int.add_mul_ediv_left _ _ (by omega), Int.ediv_eq_zero_of_lt r0 rb]
        omega
      · rw [HV.out, Int.add_comm, Int.add_mul_emod_self_left, Int.emod_eq_of_lt r0 rb]
end Go.Proofs.YtlepicdpelkmlaaGreatDoor
