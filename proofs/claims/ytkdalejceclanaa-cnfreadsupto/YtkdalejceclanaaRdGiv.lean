/-
  Lists that were told, in memory: rows of numbers, no two in one block (Fam); the struct that holds them (GS); what calls leave as it was (Ch).
-/
import Derived.Test.YtkdalejceclanaaRdSame2
import Derived.OwnWalk
import Derived.ArgAppend
namespace Go.Proofs.Ytkdalejceclanaa
open Go.RowKit
set_option linter.unusedVariables false
/-- w' is w below B, and but for blocks of which q holds, and new ones. -/
structure Ch (B : Nat) (q : Nat → TypeId → Bool) (w w' : World) : Prop where
  bel : Below B w w'
  blk : ∀ g cur t z, w.heap[g]? = some (Obj.cells cur t z) → q g t = false → w'.heap[g]? = some (Obj.cells cur t z)
theorem Ch.refl (B : Nat) (q : Nat → TypeId → Bool) (w : World) : Ch B q w w := ⟨Below.refl _ _, fun _ _ _ _ h _ => h⟩
theorem Ch.trans {B : Nat} {q : Nat → TypeId → Bool} {a b c : World} (h : Ch B q a b) (k : Ch B q b c) : Ch B q a c := ⟨h.bel.trans k.bel, fun g cur t z e n => k.blk g cur t z (h.blk g cur t z e n) n⟩
theorem Ch.mono {B : Nat} {q p : Nat → TypeId → Bool} {a b : World} (h : Ch B q a b) (hp : ∀ g t, p g t = false → q g t = false) : Ch B p a b := ⟨h.bel, fun g cur t z e n => h.blk g cur t z e (hp g t n)⟩
theorem Ch.of_below {B : Nat} {q : Nat → TypeId → Bool} {a b : World} (h : Below a.heap.size a b) (hB : B ≤ a.heap.size) : Ch B q a b :=
  ⟨h.mono hB, fun g cur t z e n => (h.block g ((Array.getElem?_eq_some_iff.1 e).1)).trans e⟩
theorem Ch.drewN {B : Nat} {q : Nat → TypeId → Bool} {a b : World} (h : Ch B q a b) (n : Nat) : Ch B q a (b.drewN n) := ⟨below_drewN h.bel n, h.blk⟩
theorem Ch.alloc {B : Nat} {q : Nat → TypeId → Bool} {a b : World} (h : Ch B q a b) (hB : B ≤ a.heap.size) (o : Obj) : Ch B q a (b.alloc o) :=
  h.trans (Ch.of_below ((Below.refl _ b).alloc (Nat.le_refl _) o) (Nat.le_trans hB h.bel.size))
/-- The block of a row of one's own is of the row's type. -/
theorem own_block {w : World} {base n size : Nat} {e : TypeId} {v : Value} {xs : List Value} (o : w.ownsRow base e size v n xs) {g : Nat} (h : v.ownBlock = some g) : base ≤ g ∧ ∃ cur, w.heap[g]? = some (.cells cur e (0, 0)) := by
  rcases o.2 with ⟨rfl, -⟩ | ⟨g', cap, cur, rfl, hb, hg, -⟩
  · cases h
  · cases h
    exact ⟨hb, cur, hg⟩
/-- A row of one's own changes. -/
theorem Ch.of_grown {B base n size : Nat} {q : Nat → TypeId → Bool} {e : TypeId} {v : Value} {xs : List Value} {w w' : World} (o : w.ownsRow base e size v n xs) (hb : B ≤ base) (hs : B ≤ w.heap.size) (hq : ∀ g, base ≤ g → q g e = true) (hg : w.grownBy w' v.ownBlock) : Ch B q w w' := by
  refine ⟨⟨hg.os, hg.tape, hg.output, hg.size, fun k hk => hg.block k (Nat.lt_of_lt_of_le hk hs) (fun c => ?_)⟩, fun g cur t z e1 n1 => (hg.block g ((Array.getElem?_eq_some_iff.1 e1).1) (fun c => ?_)).trans e1⟩
  · have := (own_block o c.symm).1
    omega
  · obtain ⟨h1, cur', h2⟩ := own_block o c.symm
    rw [h2] at e1
    cases e1
    rw [hq g h1] at n1
    cases n1
/-- A cell of a block is written. -/
theorem Ch.of_set {B g i : Nat} {q : Nat → TypeId → Bool} {cur : Array Value} {t : TypeId} {z : Nat × Nat} {w : World} (hg : w.heap[g]? = some (.cells cur t z)) (hb : B ≤ g) (hq : q g t = true) (u : Value) : Ch B q w (w.setCell ⟨g, i, none⟩ u) := by
  have bk : ∀ k, k ≠ g → (w.setCell ⟨g, i, none⟩ u).heap[k]? = w.heap[k]? := fun k hk => heap_setCell_other w ⟨g, i, none⟩ k u hk
  refine ⟨⟨rfl, rfl, rfl, by simp [World.setCell], fun k hk => bk k (by omega)⟩, fun k cur' t' z' e1 n1 => (bk k (fun c => ?_)).trans e1⟩
  subst c
  rw [hg] at e1
  cases e1
  rw [hq] at n1
  cases n1
/-- A row whose blocks do not change stays. -/
theorem Ch.row {B base n size : Nat} {q : Nat → TypeId → Bool} {e : TypeId} {v : Value} {xs : List Value} {w w' : World} (h : Ch B q w w') (o : w.ownsRow base e size v n xs) (hq : ∀ g, v.ownBlock = some g → q g e = false) : w'.ownsRow base e size v n xs := by
  obtain ⟨h1, h2⟩ := o
  refine ⟨h1, ?_⟩
  rcases h2 with h2 | ⟨g, cap, cur, h2, h3, h4, h5⟩
  · exact .inl h2
  · exact .inr ⟨g, cap, cur, h2, h3, h.blk g cur e (0, 0) h4 (hq g (by rw [h2]; rfl)), h5⟩
theorem nI : (23 == 3 : Bool) = false := by decide
theorem nG : (107 == 3 : Bool) = false := by decide
theorem nGI : (107 == 23 : Bool) = false := by decide
/-- What a written list may change: lists of numbers; what stands from gb on. -/
def qI (g : Nat) (t : TypeId) : Bool := t == 3
def qG (gb : Nat) (g : Nat) (t : TypeId) : Bool := t == 3 || decide (gb ≤ g)
def qL (gb : Nat) (g : Nat) (t : TypeId) : Bool := decide (gb ≤ g) && !(t == 3)
theorem qI_G {gb g : Nat} {t : TypeId} (h : qG gb g t = false) : qI g t = false := by
  unfold qG at h
  simp only [Bool.or_eq_false_iff] at h
  exact h.1
theorem qL_G {gb g : Nat} {t : TypeId} (h : qG gb g t = false) : qL gb g t = false := by
  unfold qG at h
  simp only [Bool.or_eq_false_iff] at h
  unfold qL
  rw [h.2]
  rfl
/-- Rows of numbers, no two in one block. -/
def Fam (w : World) (B n : Nat) (vs : Nat → Value) (cs : Nat → List Int) : Prop :=
  (∀ i, i < n → w.ownsRow B 3 1 (vs i) (cs i).length (rowI (cs i))) ∧ ∀ i j, i < n → j < n → i ≠ j → (vs i).ownBlock = none ∨ (vs i).ownBlock ≠ (vs j).ownBlock
def updF {α : Type} (f : Nat → α) (i : Nat) (x : α) : Nat → α := fun j => if j = i then x else f j
theorem updF_same {α : Type} (f : Nat → α) (i : Nat) (x : α) : updF f i x i = x := if_pos rfl
theorem updF_other {α : Type} (f : Nat → α) (i : Nat) (x : α) {j : Nat} (h : j ≠ i) : updF f i x j = f j := if_neg h
theorem Fam.ch {w w' : World} {B B' n : Nat} {q : Nat → TypeId → Bool} {vs : Nat → Value} {cs : Nat → List Int} (h : Fam w B n vs cs) (k : Ch B' q w w') (hq : ∀ g, q g 3 = false) : Fam w' B n vs cs :=
  ⟨fun i hi => k.row (h.1 i hi) (fun g _ => hq g), h.2⟩
/-- One row is written. -/
theorem Fam.put {w w' : World} {B n k : Nat} {vs : Nat → Value} {cs : Nat → List Int} {l : List Int} (h : Fam w B n vs cs) (hk : k < n) (ho : w'.ownsRow B 3 1 (vs k) l.length (rowI l)) (hg : w.grownBy w' (vs k).ownBlock) : Fam w' B n vs (updF cs k l) := by
  refine ⟨fun i hi => ?_, h.2⟩
  by_cases e : i = k
  · subst e
    rw [updF_same]
    exact ho
  · rw [updF_other _ _ _ e]
    exact (h.1 i hi).kept hg (h.2 i k hi hk e)
theorem Fam.slice {w : World} {B n i : Nat} {vs : Nat → Value} {cs : Nat → List Int} (h : Fam w B n vs cs) (hi : i < n) : ∃ a c, vs i = .slice a (cs i).length c := by
  rcases (h.1 i hi).2 with ⟨e, e2⟩ | ⟨g, cap, cur, e, -⟩
  · exact ⟨none, 0, by rw [e, e2]⟩
  · exact ⟨_, _, e⟩
/-- The struct at gb: the lists, and those that grew behind them. -/
def GS (gb : Nat) (w : World) (lv mv : Value) (ls ms : List Value) : Prop :=
  w.heap[gb]? = some (.cells #[lv, mv] 107 (0, 0)) ∧ w.ownsRow (gb + 1) 23 1 lv ls.length ls ∧ w.ownsRow (gb + 1) 23 1 mv ms.length ms ∧ (lv.ownBlock = none ∨ lv.ownBlock ≠ mv.ownBlock) ∧ (mv.ownBlock = none ∨ mv.ownBlock ≠ lv.ownBlock)
theorem GS.lt {gb : Nat} {w : World} {lv mv : Value} {ls ms : List Value} (h : GS gb w lv mv ls ms) : gb < w.heap.size := (Array.getElem?_eq_some_iff.1 h.1).1
theorem GS.cells {gb : Nat} {w : World} {lv mv : Value} {ls ms : List Value} (h : GS gb w lv mv ls ms) : w.cell? ⟨gb, 0, none⟩ = some lv ∧ w.cell? ⟨gb, 1, none⟩ = some mv ∧ w.frozen? ⟨gb, 0, none⟩ = false ∧ w.frozen? ⟨gb, 1, none⟩ = false := by
  refine ⟨?_, ?_, ?_, ?_⟩
  · rw [cell_of_row _ _ _ _ _ _ h.1]; rfl
  · rw [cell_of_row _ _ _ _ _ _ h.1]; rfl
  · unfold World.frozen?; simp [h.1]
  · unfold World.frozen?; simp [h.1]
theorem GS.ch {gb B : Nat} {q : Nat → TypeId → Bool} {w w' : World} {lv mv : Value} {ls ms : List Value} (h : GS gb w lv mv ls ms) (k : Ch B q w w') (hq : ∀ g t, (t == 3) = false → q g t = false) : GS gb w' lv mv ls ms :=
  ⟨k.blk _ _ _ _ h.1 (hq _ _ nG), k.row h.2.1 (fun g _ => hq _ _ nI), k.row h.2.2.1 (fun g _ => hq _ _ nI), h.2.2.2⟩
theorem GS.new (w : World) : GS w.heap.size (w.alloc (.cells #[.slice none 0 0, .slice none 0 0] 107)) (.slice none 0 0) (.slice none 0 0) [] [] :=
  ⟨heap_alloc_new w _, ⟨rfl, .inl ⟨rfl, rfl⟩⟩, ⟨rfl, .inl ⟨rfl, rfl⟩⟩, .inl rfl, .inl rfl⟩
/-- One list more. -/
theorem GS.put0 {gb B : Nat} {w w1 : World} {lv mv v' x : Value} {ls ms : List Value} (h : GS gb w lv mv ls ms) (hB : B ≤ gb)
    (ho : w1.ownsRow (gb + 1) 23 1 v' (ls.length + 1) (ls ++ [x])) (hg : (w.alloc (.cells #[x] 23)).grownBy w1 lv.ownBlock) (hv : v'.ownBlock = lv.ownBlock ∨ v'.ownBlock = some (w.alloc (.cells #[x] 23)).heap.size) :
    GS gb (w1.setCell ⟨gb, 0, none⟩ v') v' mv (ls ++ [x]) ms ∧ Ch B (qL gb) w (w1.setCell ⟨gb, 0, none⟩ v') ∧ w1.cell? ⟨gb, 0, none⟩ = some lv ∧ w1.frozen? ⟨gb, 0, none⟩ = false := by
  have hlt := h.lt
  have al : Below w.heap.size w (w.alloc (.cells #[x] 23)) := (Below.refl _ w).alloc (Nat.le_refl _) _
  have a1 := row_below h.2.1 al
  have a2 := row_below h.2.2.1 al
  have hne : lv.ownBlock ≠ some gb := fun c => by have := (h.2.1.lt gb c).1; omega
  have b1 : w1.heap[gb]? = some (.cells #[lv, mv] 107 (0, 0)) := (hg.block gb (by have := al.size; omega) (fun c => hne c.symm)).trans ((al.block gb hlt).trans h.1)
  have gb' : w1.grownBy (w1.setCell ⟨gb, 0, none⟩ v') (some gb) := ⟨rfl, rfl, rfl, by simp [World.setCell], fun k _ hk => heap_setCell_other w1 ⟨gb, 0, none⟩ k v' (fun c => hk (by rw [c]))⟩
  have nb : ∀ {v : Value} {n : Nat} {ys : List Value} {e : TypeId} {W : World}, W.ownsRow (gb + 1) e 1 v n ys → v.ownBlock = none ∨ v.ownBlock ≠ some gb := fun {v n ys e W} o => by
    cases hv : v.ownBlock with
    | none => exact .inl rfl
    | some g => exact .inr (fun c => by cases c; have := (o.lt gb hv).1; omega)
  have m1 := (a2.kept hg h.2.2.2.2).kept gb' (nb a2)
  have o1 := ho.kept gb' (nb ho)
  have key : v'.ownBlock = none ∨ v'.ownBlock ≠ mv.ownBlock := by
    rcases hv with c | c
    · rw [c]; exact h.2.2.2.1
    · refine .inr (fun d => ?_)
      rw [c] at d
      have := (a2.lt _ d.symm).2
      omega
  have key2 : mv.ownBlock = none ∨ mv.ownBlock ≠ v'.ownBlock := by
    rcases hv with c | c
    · rw [c]; exact h.2.2.2.2
    · refine .inr (fun d => ?_)
      rw [c] at d
      have := (a2.lt _ d).2
      omega
  refine ⟨⟨?_, by rw [List.length_append]; exact o1, m1, key, key2⟩, ?_, ?_, ?_⟩
  · rw [heap_setCell_same w1 gb 0 _ _ v' b1]; rfl
  · have c1 : Ch B (qL gb) w (w.alloc (.cells #[x] 23)) := Ch.of_below al (by omega)
    have c2 : Ch B (qL gb) (w.alloc (.cells #[x] 23)) w1 := Ch.of_grown a1 (by omega) (by have := al.size; omega) (fun g hg => by unfold qL; rw [nI, decide_eq_true (by omega : gb ≤ g)]; rfl) hg
    have c3 : Ch B (qL gb) w1 (w1.setCell ⟨gb, 0, none⟩ v') := Ch.of_set b1 hB (by unfold qL; rw [nG, decide_eq_true (Nat.le_refl gb)]; rfl) v'
    exact (c1.trans c2).trans c3
  · rw [cell_of_row _ _ _ _ _ _ b1]; rfl
  · unfold World.frozen?; simp [b1]
theorem GS.put1 {gb B : Nat} {w w1 : World} {lv mv v' x : Value} {ls ms : List Value} (h : GS gb w lv mv ls ms) (hB : B ≤ gb)
    (ho : w1.ownsRow (gb + 1) 23 1 v' (ms.length + 1) (ms ++ [x])) (hg : (w.alloc (.cells #[x] 23)).grownBy w1 mv.ownBlock) (hv : v'.ownBlock = mv.ownBlock ∨ v'.ownBlock = some (w.alloc (.cells #[x] 23)).heap.size) :
    GS gb (w1.setCell ⟨gb, 1, none⟩ v') lv v' ls (ms ++ [x]) ∧ Ch B (qL gb) w (w1.setCell ⟨gb, 1, none⟩ v') ∧ w1.cell? ⟨gb, 1, none⟩ = some mv ∧ w1.frozen? ⟨gb, 1, none⟩ = false := by
  have hlt := h.lt
  have al : Below w.heap.size w (w.alloc (.cells #[x] 23)) := (Below.refl _ w).alloc (Nat.le_refl _) _
  have a1 := row_below h.2.1 al
  have a2 := row_below h.2.2.1 al
  have hne : mv.ownBlock ≠ some gb := fun c => by have := (h.2.2.1.lt gb c).1; omega
  have b1 : w1.heap[gb]? = some (.cells #[lv, mv] 107 (0, 0)) := (hg.block gb (by have := al.size; omega) (fun c => hne c.symm)).trans ((al.block gb hlt).trans h.1)
  have gb' : w1.grownBy (w1.setCell ⟨gb, 1, none⟩ v') (some gb) := ⟨rfl, rfl, rfl, by simp [World.setCell], fun k _ hk => heap_setCell_other w1 ⟨gb, 1, none⟩ k v' (fun c => hk (by rw [c]))⟩
  have nb : ∀ {v : Value} {n : Nat} {ys : List Value} {e : TypeId} {W : World}, W.ownsRow (gb + 1) e 1 v n ys → v.ownBlock = none ∨ v.ownBlock ≠ some gb := fun {v n ys e W} o => by
    cases hv : v.ownBlock with
    | none => exact .inl rfl
    | some g => exact .inr (fun c => by cases c; have := (o.lt gb hv).1; omega)
  have m1 := (a1.kept hg h.2.2.2.1).kept gb' (nb a1)
  have o1 := ho.kept gb' (nb ho)
  have key : v'.ownBlock = none ∨ v'.ownBlock ≠ lv.ownBlock := by
    rcases hv with c | c
    · rw [c]; exact h.2.2.2.2
    · refine .inr (fun d => ?_)
      rw [c] at d
      have := (a1.lt _ d.symm).2
      omega
  have key2 : lv.ownBlock = none ∨ lv.ownBlock ≠ v'.ownBlock := by
    rcases hv with c | c
    · rw [c]; exact h.2.2.2.1
    · refine .inr (fun d => ?_)
      rw [c] at d
      have := (a1.lt _ d).2
      omega
  refine ⟨⟨?_, m1, by rw [List.length_append]; exact o1, key2, key⟩, ?_, ?_, ?_⟩
  · rw [heap_setCell_same w1 gb 1 _ _ v' b1]; rfl
  · have c1 : Ch B (qL gb) w (w.alloc (.cells #[x] 23)) := Ch.of_below al (by omega)
    have c2 : Ch B (qL gb) (w.alloc (.cells #[x] 23)) w1 := Ch.of_grown a2 (by omega) (by have := al.size; omega) (fun g hg => by unfold qL; rw [nI, decide_eq_true (by omega : gb ≤ g)]; rfl) hg
    have c3 : Ch B (qL gb) w1 (w1.setCell ⟨gb, 1, none⟩ v') := Ch.of_set b1 hB (by unfold qL; rw [nG, decide_eq_true (Nat.le_refl gb)]; rfl) v'
    exact (c1.trans c2).trans c3
  · rw [cell_of_row _ _ _ _ _ _ b1]; rfl
  · unfold World.frozen?; simp [b1]
/-- The first k written over with z. -/
def overI (z : Int) (l : List Int) (k : Nat) : List Int := List.replicate k z ++ l.drop k
theorem overI_zero (z : Int) (l : List Int) : overI z l 0 = l := by simp [overI]
theorem overI_set (z : Int) {l : List Int} {k : Nat} (h : k < l.length) : (rowI (overI z l k)).set k (.int .i64 z) = rowI (overI z l (k + 1)) := by
  unfold overI rowI
  rw [← List.map_set (f := Value.int .i64) (a := z), List.set_append_right _ _ (by simp), List.length_replicate, Nat.sub_self, List.drop_eq_getElem_cons h, List.set_cons_zero, List.replicate_succ']
  simp
theorem overI_len (z : Int) {l : List Int} {k : Nat} (h : k ≤ l.length) : (overI z l k).length = l.length := by
  unfold overI
  rw [List.length_append, List.length_replicate, List.length_drop]
  omega
theorem overI_all (z : Int) (l : List Int) : overI z l l.length = List.replicate l.length z := by simp [overI]
end Go.Proofs.Ytkdalejceclanaa
