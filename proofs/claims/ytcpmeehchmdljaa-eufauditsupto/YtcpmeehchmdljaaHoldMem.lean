/-
  A Hold in memory: six lists of slices, in one struct; what its calls leave as it was; lists with two marks behind them.
-/
import Derived.Test.YtcpmeehchmdljaaEufMem
import Derived.Maps.AppendAt
namespace Go.Proofs.Ytcpmeehchmdljaa
open Go.RowKit
set_option linter.unusedVariables false
/-- The types of the blocks that calls of a Hold may change: the Hold itself, and its six lists. -/
def hty (t : TypeId) : Bool := t == 41 || t == 24 || t == 22 || t == 23
/-- w' is w, but for blocks of these types from B on, and for new ones. -/
structure Hk (B : Nat) (w w' : World) : Prop where
  bel : Below B w w'
  block : ∀ (g : Nat) (cur : Array Value) (t : TypeId) (z : Nat × Nat), w.heap[g]? = some (Obj.cells cur t z) → hty t = false → w'.heap[g]? = some (Obj.cells cur t z)
theorem Hk.refl (B : Nat) (w : World) : Hk B w w := ⟨Below.refl _ _, fun _ _ _ _ h _ => h⟩
theorem Hk.trans {B : Nat} {a b c : World} (h : Hk B a b) (k : Hk B b c) : Hk B a c := ⟨h.bel.trans k.bel, fun g cur t z e n => k.block g cur t z (h.block g cur t z e n) n⟩
theorem Hk.of_below {B : Nat} {a b : World} (h : Below a.heap.size a b) (hB : B ≤ a.heap.size) : Hk B a b :=
  ⟨h.mono hB, fun g cur t z e n => (h.block g ((Array.getElem?_eq_some_iff.1 e).1)).trans e⟩
theorem Hk.alloc {B : Nat} {a b : World} (h : Hk B a b) (hB : B ≤ a.heap.size) (o : Obj) : Hk B a (b.alloc o) :=
  h.trans (Hk.of_below ((Below.refl _ b).alloc (Nat.le_refl _) o) (Nat.le_trans hB h.bel.size))
/-- An own row that grows: blocks of its type alone change. -/
theorem Hk.grown {B base n size : Nat} {e : TypeId} {v : Value} {xs : List Value} {a w w' : World} (h : Hk B a w) (hB : B ≤ a.heap.size) (ho : w.ownsRow base e size v n xs) (hb : B ≤ base) (he : hty e = true) (hg : w.grownBy w' v.ownBlock) : Hk B a w' := by
  refine h.trans ⟨(Below.refl B w).grown hg (Nat.le_trans hB h.bel.size) (fun k hk => Nat.le_trans hb (ho.lt k hk).1), fun g cur t z e1 n => ?_⟩
  refine (hg.block g ((Array.getElem?_eq_some_iff.1 e1).1) ?_).trans e1
  intro c
  obtain ⟨-, h2⟩ := ho
  rcases h2 with ⟨rfl, -⟩ | ⟨g', cap, cur', rfl, -, hg', -⟩
  · simp [Value.ownBlock] at c
  · simp only [Value.ownBlock, Option.some.injEq] at c
    subst c
    rw [hg'] at e1
    cases e1
    rw [he] at n
    cases n
/-- The same of a row that was made since, of any type. -/
theorem Hk.grown_new {B base n size : Nat} {e : TypeId} {v : Value} {xs : List Value} {a w w' : World} (h : Hk B a w) (hB : B ≤ a.heap.size) (ho : w.ownsRow base e size v n xs) (hb : a.heap.size ≤ base) (hg : w.grownBy w' v.ownBlock) : Hk B a w' := by
  refine ⟨h.bel.grown hg (Nat.le_trans hB h.bel.size) (fun k hk => Nat.le_trans (Nat.le_trans hB hb) (ho.lt k hk).1), fun g cur t z e1 n => ?_⟩
  have e2 := h.block g cur t z e1 n
  refine (hg.block g ((Array.getElem?_eq_some_iff.1 e2).1) ?_).trans e2
  intro c
  have := (ho.lt g c.symm).1
  have := (Array.getElem?_eq_some_iff.1 e1).1
  omega
theorem Hk.cell {B g j : Nat} {cur : Array Value} {t : TypeId} {z : Nat × Nat} {w w' : World} (h : Hk B w w') (e : w.heap[g]? = some (.cells cur t z)) (n : hty t = false) : w'.cell? ⟨g, j, none⟩ = w.cell? ⟨g, j, none⟩ :=
  World.cell?_of_block (a := ⟨g, j, none⟩) ((h.block g cur t z e n).trans e.symm)
/-- The slice v holds l, and two marks behind it. -/
def DI (w : World) (v : Value) (l : List Int) : Prop :=
  ∃ g cap, v = .slice (some ⟨g, 0, none⟩) (l.length + 2) cap ∧ l.length + 2 ≤ cap ∧ (∃ cur z, w.heap[g]? = some (.cells cur 3 z)) ∧ (∀ j, j < l.length → w.cell? ⟨g, j, none⟩ = some (.int .i64 (l.getD j 0))) ∧
    w.cell? ⟨g, l.length, none⟩ = some (.int .i64 (-71)) ∧ w.cell? ⟨g, l.length + 1, none⟩ = some (.int .i64 (-72))
theorem DI.keeps {B : Nat} {w w' : World} {v : Value} {l : List Int} (h : DI w v l) (k : Hk B w w') : DI w' v l := by
  obtain ⟨g, cap, rfl, hc, ⟨cur, z, hg⟩, h1, h2, h3⟩ := h
  have n : hty 3 = false := by decide
  exact ⟨g, cap, rfl, hc, ⟨cur, z, k.block g cur _ z hg n⟩, fun j hj => (k.cell hg n).trans (h1 j hj), (k.cell hg n).trans h2, (k.cell hg n).trans h3⟩
/-- A slice cut to n. -/
def cutV (v : Value) (n : Nat) : Value := match v with
  | .slice a _ c => .slice a n c
  | x => x
theorem DI.row {w : World} {v : Value} {l : List Int} (h : DI w v l) (hl : l.length ≤ 35184372088832) : IRow w.heap.size w (cutV v l.length) l := by
  obtain ⟨g, cap, rfl, hc, ⟨cur, z, hg⟩, h1, h2, h3⟩ := h
  refine ⟨some ⟨g, 0, none⟩, cap, rfl, hl, fun _ => ⟨g, 0, rfl, (Array.getElem?_eq_some_iff.1 hg).1, fun j hj => ?_⟩⟩
  rw [Nat.zero_add]
  exact h1 j hj
/-- The slice v holds the nodes fs, each with a list of its own, and two marks behind them. -/
def DF (w : World) (v : Value) (fs : List E.Fl) : Prop :=
  ∃ g cap, v = .slice (some ⟨g, 0, none⟩) (fs.length + 2) cap ∧ fs.length + 2 ≤ cap ∧ (∃ cur z, w.heap[g]? = some (.cells cur 31 z)) ∧
    (∀ j, j < fs.length → w.cell? ⟨g, j * 2, none⟩ = some (.int .i64 (fs.getD j E.f0).fn) ∧ ∃ m, DI w m (fs.getD j E.f0).args ∧ w.cell? ⟨g, j * 2 + 1, none⟩ = some (cutV m (fs.getD j E.f0).args.length)) ∧
    w.cell? ⟨g, fs.length * 2, none⟩ = some (.int .i64 73) ∧ w.cell? ⟨g, (fs.length + 1) * 2, none⟩ = some (.int .i64 74)
theorem DF.keeps {B : Nat} {w w' : World} {v : Value} {fs : List E.Fl} (h : DF w v fs) (k : Hk B w w') : DF w' v fs := by
  obtain ⟨g, cap, rfl, hc, ⟨cur, z, hg⟩, h1, h2, h3⟩ := h
  have n : hty 31 = false := by decide
  refine ⟨g, cap, rfl, hc, ⟨cur, z, k.block g cur _ z hg n⟩, fun j hj => ?_, (k.cell hg n).trans h2, (k.cell hg n).trans h3⟩
  obtain ⟨a, m, b, c⟩ := h1 j hj
  exact ⟨(k.cell hg n).trans a, m, b.keeps k, (k.cell hg n).trans c⟩
theorem DF.flats {w : World} {v : Value} {fs : List E.Fl} (h : DF w v fs) (hl : fs.length ≤ 35184372088832) (ha : ∀ j, j < fs.length → (fs.getD j E.f0).args.length ≤ 35184372088832) : Flats w.heap.size w (cutV v fs.length) fs := by
  obtain ⟨g, cap, rfl, hc, ⟨cur, z, hg⟩, h1, h2, h3⟩ := h
  refine ⟨some ⟨g, 0, none⟩, cap, rfl, hl, fun _ => ⟨g, 0, rfl, (Array.getElem?_eq_some_iff.1 hg).1, fun j hj => ?_⟩⟩
  obtain ⟨a, m, b, c⟩ := h1 j hj
  rw [Nat.zero_add]
  exact ⟨a, _, c, b.row (ha j hj)⟩
/-- The slice v holds the links ls, each with a list of its own, and two marks behind them. -/
def DL (w : World) (v : Value) (ls : List E.Lk) : Prop :=
  ∃ g cap, v = .slice (some ⟨g, 0, none⟩) (ls.length + 2) cap ∧ ls.length + 2 ≤ cap ∧ (∃ cur z, w.heap[g]? = some (.cells cur 26 z)) ∧
    (∀ j, j < ls.length → w.cell? ⟨g, j * 5, none⟩ = some (.int .i64 (ls.getD j E.l0).kind) ∧ w.cell? ⟨g, j * 5 + 1, none⟩ = some (.int .i64 (ls.getD j E.l0).a) ∧ w.cell? ⟨g, j * 5 + 2, none⟩ = some (.int .i64 (ls.getD j E.l0).b) ∧ w.cell? ⟨g, j * 5 + 3, none⟩ = some (.int .i64 (ls.getD j E.l0).tag) ∧
      ∃ m, DI w m (ls.getD j E.l0).kids ∧ w.cell? ⟨g, j * 5 + 4, none⟩ = some (cutV m (ls.getD j E.l0).kids.length)) ∧
    w.cell? ⟨g, ls.length * 5, none⟩ = some (.int .i64 75) ∧ w.cell? ⟨g, (ls.length + 1) * 5, none⟩ = some (.int .i64 76)
theorem DL.keeps {B : Nat} {w w' : World} {v : Value} {ls : List E.Lk} (h : DL w v ls) (k : Hk B w w') : DL w' v ls := by
  obtain ⟨g, cap, rfl, hc, ⟨cur, z, hg⟩, h1, h2, h3⟩ := h
  have n : hty 26 = false := by decide
  refine ⟨g, cap, rfl, hc, ⟨cur, z, k.block g cur _ z hg n⟩, fun j hj => ?_, (k.cell hg n).trans h2, (k.cell hg n).trans h3⟩
  obtain ⟨a0, a1, a2, a3, m, b, c⟩ := h1 j hj
  exact ⟨(k.cell hg n).trans a0, (k.cell hg n).trans a1, (k.cell hg n).trans a2, (k.cell hg n).trans a3, m, b.keeps k, (k.cell hg n).trans c⟩
theorem DL.links {w : World} {v : Value} {ls : List E.Lk} (h : DL w v ls) (hl : ls.length ≤ 35184372088832) (ha : ∀ j, j < ls.length → (ls.getD j E.l0).kids.length ≤ 35184372088832) (hi : ∀ j, j < ls.length → I64 (ls.getD j E.l0).a ∧ I64 (ls.getD j E.l0).b ∧ I64 (ls.getD j E.l0).tag) : Links w.heap.size w (cutV v ls.length) ls := by
  obtain ⟨g, cap, rfl, hc, ⟨cur, z, hg⟩, h1, h2, h3⟩ := h
  refine ⟨some ⟨g, 0, none⟩, cap, rfl, hl, fun _ => ⟨g, 0, rfl, (Array.getElem?_eq_some_iff.1 hg).1, fun j hj => ?_⟩⟩
  obtain ⟨a0, a1, a2, a3, m, b, c⟩ := h1 j hj
  rw [Nat.zero_add]
  exact ⟨a0, a1, a2, a3, ⟨_, c, b.row (ha j hj)⟩, hi j hj⟩
/-- What the six lists are of. -/
def tyH (i : Nat) : TypeId := if i < 2 then 24 else if i < 4 then 22 else 23
theorem tyH_h (i : Nat) : hty (tyH i) = true := by unfold tyH; split; decide; split <;> decide
def upd {α : Type} (f : Nat → α) (i : Nat) (x : α) : Nat → α := fun j => if j = i then x else f j
theorem upd_same {α : Type} (f : Nat → α) (i : Nat) (x : α) : upd f i x i = x := if_pos rfl
theorem upd_other {α : Type} (f : Nat → α) (i : Nat) (x : α) {j : Nat} (h : j ≠ i) : upd f i x j = f j := if_neg h
/-- The Hold at hb: its six slices, and what they hold; all in blocks of their own. -/
def HR (hb : Nat) (w : World) (vs : Nat → Value) (xs : Nat → List Value) : Prop :=
  w.heap[hb]? = some (.cells #[vs 0, vs 1, vs 2, vs 3, vs 4, vs 5] 41 (0, 0)) ∧ (∀ i, i < 6 → w.ownsRow (hb + 1) (tyH i) 1 (vs i) (xs i).length (xs i)) ∧
    ∀ i j, i < 6 → j < 6 → i ≠ j → (vs i).ownBlock = none ∨ (vs i).ownBlock ≠ (vs j).ownBlock
theorem HR.lt {hb : Nat} {w : World} {vs : Nat → Value} {xs : Nat → List Value} (h : HR hb w vs xs) : hb < w.heap.size := (Array.getElem?_eq_some_iff.1 h.1).1
theorem six (P : Nat → Prop) (h0 : P 0) (h1 : P 1) (h2 : P 2) (h3 : P 3) (h4 : P 4) (h5 : P 5) : ∀ i, i < 6 → P i
  | 0, _ => h0
  | 1, _ => h1
  | 2, _ => h2
  | 3, _ => h3
  | 4, _ => h4
  | 5, _ => h5
  | i + 6, h => absurd h (by omega)
theorem HR.cell {hb : Nat} {w : World} {vs : Nat → Value} {xs : Nat → List Value} (h : HR hb w vs xs) {i : Nat} (hi : i < 6) : w.cell? ⟨hb, i, none⟩ = some (vs i) ∧ w.frozen? ⟨hb, i, none⟩ = false := by
  refine ⟨?_, ?_⟩
  · rw [cell_of_row _ _ _ _ _ _ h.1]
    exact six (fun i => #[vs 0, vs 1, vs 2, vs 3, vs 4, vs 5][i]? = some (vs i)) rfl rfl rfl rfl rfl rfl i hi
  · unfold World.frozen?
    simp [h.1]
/-- Where nothing but blocks of other types, and new ones, changed. -/
theorem HR.below {hb : Nat} {w w' : World} {vs : Nat → Value} {xs : Nat → List Value} (h : HR hb w vs xs) (q : Below w.heap.size w w') : HR hb w' vs xs := by
  refine ⟨(q.block hb h.lt).trans h.1, fun i hi => ?_, h.2.2⟩
  exact (h.2.1 i hi).kept (row := none) ⟨q.os, q.tape, q.output, q.size, fun k hk _ => q.block k hk⟩ (by cases (vs i).ownBlock <;> simp)
/-- Where a row of another type grew. -/
theorem HR.grown {hb base n size : Nat} {e : TypeId} {v : Value} {ys : List Value} {w w' : World} {vs : Nat → Value} {xs : Nat → List Value} (h : HR hb w vs xs) (ho : w.ownsRow base e size v n ys) (he : hty e = false) (hg : w.grownBy w' v.ownBlock) : HR hb w' vs xs := by
  have other : ∀ (g : Nat) (cur : Array Value) (t : TypeId) (z : Nat × Nat), w.heap[g]? = some (Obj.cells cur t z) → hty t = true → v.ownBlock ≠ some g := by
    intro g cur t z e1 n c
    obtain ⟨-, h2⟩ := ho
    rcases h2 with ⟨rfl, -⟩ | ⟨g', cap, cur', rfl, -, hg', -⟩
    · simp [Value.ownBlock] at c
    · simp only [Value.ownBlock, Option.some.injEq] at c
      subst c
      rw [hg'] at e1
      cases e1
      rw [he] at n
      cases n
  refine ⟨(hg.block hb h.lt (fun c => other _ _ _ _ h.1 (by decide) c.symm)).trans h.1, fun i hi => ?_, h.2.2⟩
  refine (h.2.1 i hi).kept hg ?_
  rcases (h.2.1 i hi).2 with ⟨e1, -⟩ | ⟨g', cap, cur', e1, -, hg', -⟩
  · rw [e1]
    exact .inl rfl
  · rw [e1]
    exact .inr (fun c => other _ _ _ _ hg' (tyH_h i) c.symm)
theorem ownsRow_slice {w : World} {base size n : Nat} {e : TypeId} {v : Value} {xs : List Value} (h : w.ownsRow base e size v n xs) : ∃ a c, v = .slice a n c := by
  rcases h.2 with ⟨rfl, rfl⟩ | ⟨g, cap, cur, rfl, -⟩
  · exact ⟨_, _, rfl⟩
  · exact ⟨_, _, rfl⟩
/-- One of the lists gets one more. -/
theorem HR.put {hb i : Nat} {w w1 : World} {vs : Nat → Value} {xs : Nat → List Value} {x v' : Value} (h : HR hb w vs xs) (hi : i < 6)
    (ho : w1.ownsRow (hb + 1) (tyH i) 1 v' ((xs i).length + 1) (xs i ++ [x])) (hg : (w.alloc (.cells #[x] (tyH i))).grownBy w1 (vs i).ownBlock) (hv : v'.ownBlock = (vs i).ownBlock ∨ v'.ownBlock = some (w.alloc (.cells #[x] (tyH i))).heap.size) :
    HR hb (w1.setCell ⟨hb, i, none⟩ v') (upd vs i v') (upd xs i (xs i ++ [x])) ∧ Hk hb w (w1.setCell ⟨hb, i, none⟩ v') ∧ w1.cell? ⟨hb, i, none⟩ = some (vs i) ∧ w1.frozen? ⟨hb, i, none⟩ = false := by
  have hA : HR hb (w.alloc (.cells #[x] (tyH i))) vs xs := h.below ((Below.refl _ w).alloc (Nat.le_refl _) _)
  have hne : (vs i).ownBlock ≠ some hb := fun c => by have := ((h.2.1 i hi).lt hb c).1; omega
  have b1 : w1.heap[hb]? = some (.cells #[vs 0, vs 1, vs 2, vs 3, vs 4, vs 5] 41 (0, 0)) := (hg.block hb hA.lt (fun c => hne c.symm)).trans hA.1
  have hc : w1.cell? ⟨hb, i, none⟩ = some (vs i) := by rw [cell_of_row _ _ _ _ _ _ b1]; exact six (fun i => #[vs 0, vs 1, vs 2, vs 3, vs 4, vs 5][i]? = some (vs i)) rfl rfl rfl rfl rfl rfl i hi
  have hz : w1.frozen? ⟨hb, i, none⟩ = false := by unfold World.frozen?; simp [b1]
  have b2 : (w1.setCell ⟨hb, i, none⟩ v').heap[hb]? = some (.cells #[upd vs i v' 0, upd vs i v' 1, upd vs i v' 2, upd vs i v' 3, upd vs i v' 4, upd vs i v' 5] 41 (0, 0)) := by
    rw [heap_setCell_same w1 hb i _ _ v' b1]
    exact six (fun i => some (Obj.cells (#[vs 0, vs 1, vs 2, vs 3, vs 4, vs 5].setIfInBounds i v') 41 (0, 0)) = some (Obj.cells #[upd vs i v' 0, upd vs i v' 1, upd vs i v' 2, upd vs i v' 3, upd vs i v' 4, upd vs i v' 5] 41 (0, 0))) rfl rfl rfl rfl rfl rfl i hi
  have bk : ∀ k, k ≠ hb → (w1.setCell ⟨hb, i, none⟩ v').heap[k]? = w1.heap[k]? := fun k hk => heap_setCell_other w1 ⟨hb, i, none⟩ k v' hk
  have gb : w1.grownBy (w1.setCell ⟨hb, i, none⟩ v') (some hb) := ⟨rfl, rfl, rfl, by simp [World.setCell], fun k _ hk => bk k (fun c => hk (by rw [c]))⟩
  have nb : ∀ {v : Value} {n : Nat} {ys : List Value} {e : TypeId} {W : World}, W.ownsRow (hb + 1) e 1 v n ys → v.ownBlock = none ∨ v.ownBlock ≠ some hb := fun {v n ys e W} o => by
    cases hv : v.ownBlock with
    | none => exact .inl rfl
    | some g => exact .inr (fun c => by cases c; have := (o.lt hb hv).1; omega)
  refine ⟨⟨b2, fun j hj => ?_, fun j k hj hk hjk => ?_⟩, ?_, hc, hz⟩
  · by_cases e : j = i
    · subst e
      rw [upd_same, upd_same, List.length_append]
      exact ho.kept gb (nb ho)
    · rw [upd_other _ _ _ e, upd_other _ _ _ e]
      exact (((hA.2.1 j hj).kept hg (h.2.2 j i hj hi e))).kept gb (nb (h.2.1 j hj))
  · have key : ∀ q, q < 6 → q ≠ i → v'.ownBlock = none ∨ v'.ownBlock ≠ (vs q).ownBlock := fun q hq hqi => by
      rcases hv with c | c
      · rw [c]
        exact h.2.2 i q hi hq (fun e => hqi e.symm)
      · refine .inr (fun d => ?_)
        rw [c] at d
        have := ((hA.2.1 q hq).lt _ d.symm).2
        omega
    by_cases e : j = i
    · have e' : k ≠ i := fun c => hjk (e.trans c.symm)
      rw [e, upd_same, upd_other _ _ _ e']
      exact key k hk e'
    · rw [upd_other _ _ _ e]
      by_cases e' : k = i
      · rw [e', upd_same]
        rcases key j hj e with c | c
        · cases hv' : (vs j).ownBlock with
          | none => exact .inl rfl
          | some g => exact .inr (by rw [c]; simp)
        · exact .inr (fun d => c d.symm)
      · rw [upd_other _ _ _ e']
        exact h.2.2 j k hj hk hjk
  · have k1 : Hk hb w w1 := ((Hk.refl hb w).alloc (Nat.le_of_lt h.lt) _).grown (Nat.le_of_lt h.lt) (hA.2.1 i hi) (Nat.le_succ _) (tyH_h i) hg
    refine k1.trans ⟨⟨rfl, rfl, rfl, gb.size, fun k hk => bk k (Nat.ne_of_lt hk)⟩, fun g cur t z e1 n => ?_⟩
    refine (bk g (fun c => ?_)).trans e1
    subst c
    rw [b1] at e1
    cases e1
    exact absurd n (by decide)
theorem HR.put' {hb i : Nat} {w w1 : World} {vs : Nat → Value} {xs : Nat → List Value} {x v' u : Value} (hu : vs i = u) (h : HR hb w vs xs) (hi : i < 6)
    (ho : w1.ownsRow (hb + 1) (tyH i) 1 v' ((xs i).length + 1) (xs i ++ [x])) (hg : (w.alloc (.cells #[x] (tyH i))).grownBy w1 u.ownBlock) (hv : v'.ownBlock = u.ownBlock ∨ v'.ownBlock = some (w.alloc (.cells #[x] (tyH i))).heap.size) :
    HR hb (w1.setCell ⟨hb, i, none⟩ v') (upd vs i v') (upd xs i (xs i ++ [x])) ∧ Hk hb w (w1.setCell ⟨hb, i, none⟩ v') ∧ w1.cell? ⟨hb, i, none⟩ = some u ∧ w1.frozen? ⟨hb, i, none⟩ = false := by
  subst hu
  exact h.put hi ho hg hv
theorem cell_two_new (w : World) (x y : Value) (t : TypeId) : ∀ j u, [x, y][j]? = some u → (w.alloc (.cells #[x, y] t)).cell? ((⟨w.heap.size, 0, none⟩ : Addr).add j) = some u := by
  intro j u hj
  have hb := heap_alloc_new w (.cells #[x, y] t)
  rw [Addr.add_lit, Nat.zero_add, cell_of_row _ _ _ _ _ _ hb]
  rw [List.getElem?_toArray]
  exact hj
theorem cells_new (w : World) (xs : List Value) (t : TypeId) : ∀ j u, xs[j]? = some u → (w.alloc (.cells xs.toArray t)).cell? ((⟨w.heap.size, 0, none⟩ : Addr).add j) = some u := by
  intro j u hj
  have hb := heap_alloc_new w (.cells xs.toArray t)
  rw [Addr.add_lit, Nat.zero_add, cell_of_row _ _ _ _ _ _ hb]
  rw [List.getElem?_toArray]
  exact hj
/-- A row of one's own that holds l and two marks. -/
theorem di_of_row {w : World} {base : Nat} {v : Value} {l : List Int} (h : w.ownsRow base 3 1 v (l.length + 2) (l.map (Value.int .i64) ++ [.int .i64 (-71), .int .i64 (-72)])) : DI w v l := by
  rcases h.2 with ⟨-, q⟩ | ⟨g, cap, cur, rfl, hB, hg, hn, hm, hs, ht⟩
  · omega
  · have key : ∀ j u, (l.map (Value.int .i64) ++ [.int .i64 (-71), .int .i64 (-72)])[j]? = some u → w.cell? ⟨g, j, none⟩ = some u := by
      intro j u hu
      have := h.cells (g := g) rfl j u hu
      rw [Addr.add_lit, Nat.zero_add] at this
      exact this
    refine ⟨g, cap, rfl, hn, ⟨cur, _, hg⟩, fun j hj => key j _ ?_, key _ _ ?_, key _ _ ?_⟩
    · rw [List.getElem?_append_left (by simpa using hj), List.getElem?_map, List.getElem?_eq_getElem hj, List.getD_eq_getElem?_getD, List.getElem?_eq_getElem hj]
      rfl
    · rw [List.getElem?_append_right (by simp), List.length_map, Nat.sub_self]
      rfl
    · rw [List.getElem?_append_right (by simp), List.length_map, show l.length + 1 - l.length = 1 by omega]
      rfl
theorem take_map_next {β : Type} {l : List Int} {k : Nat} (h : k < l.length) (f : Int → β) : (l.take (k + 1)).map f = (l.take k).map f ++ [f (l.getD k 0)] := by
  rw [List.take_add_one, List.getElem?_eq_getElem h, List.map_append, List.getD_eq_getElem?_getD, List.getElem?_eq_getElem h]
  rfl
theorem Hk.drew {B : Nat} {a b : World} (h : Hk B a b) : Hk B a b.drew := ⟨h.bel.drew, h.block⟩
theorem Hk.row {B base n size : Nat} {e : TypeId} {v : Value} {xs : List Value} {w w' : World} (h : Hk B w w') (o : w.ownsRow base e size v n xs) (he : hty e = false) : w'.ownsRow base e size v n xs := by
  obtain ⟨h1, h2⟩ := o
  refine ⟨h1, ?_⟩
  rcases h2 with h2 | ⟨g, cap, cur, h2, h3, h4, h5⟩
  · exact .inl h2
  · exact .inr ⟨g, cap, cur, h2, h3, h.block g cur e (0, 0) h4 he, h5⟩
theorem flat_at {s : Nat} : ∀ (ps : List (List Value)) (_ : ∀ p ∈ ps, p.length = s) (j i : Nat) (p : List Value), ps[j]? = some p → i < s → ps.flatten[j * s + i]? = p[i]?
  | [], _, j, i, p, h, hi => by simp at h
  | q :: ps, hs, 0, i, p, h, hi => by
    simp only [List.getElem?_cons_zero, Option.some.injEq] at h
    subst h
    have := hs q (List.mem_cons_self ..)
    rw [List.flatten_cons, Nat.zero_mul, Nat.zero_add, List.getElem?_append_left (by omega)]
  | q :: ps, hs, j + 1, i, p, h, hi => by
    have hq := hs q (List.mem_cons_self ..)
    rw [List.getElem?_cons_succ] at h
    have := flat_at ps (fun p hp => hs p (List.mem_cons_of_mem _ hp)) j i p h hi
    rw [List.flatten_cons, List.getElem?_append_right (by rw [hq]; exact Nat.le_trans (Nat.le_mul_of_pos_left s (Nat.succ_pos j)) (Nat.le_add_right _ _)), hq]
    rw [show (j + 1) * s + i - s = j * s + i by rw [Nat.succ_mul]; omega]
    exact this
theorem flat_len {s : Nat} : ∀ (ps : List (List Value)) (_ : ∀ p ∈ ps, p.length = s), ps.flatten.length = ps.length * s
  | [], _ => by simp
  | q :: ps, hs => by
    rw [List.flatten_cons, List.length_append, flat_len ps (fun p hp => hs p (List.mem_cons_of_mem _ hp)), hs q (List.mem_cons_self ..), List.length_cons, Nat.succ_mul, Nat.add_comm]
theorem HR.congr {hb : Nat} {w : World} {vs : Nat → Value} {xs ys : Nat → List Value} (h : HR hb w vs xs) (e : ∀ i, i < 6 → xs i = ys i) : HR hb w vs ys :=
  ⟨h.1, fun i hi => by rw [← e i hi]; exact h.2.1 i hi, h.2.2⟩
abbrev NE := Value × Value × List Int
abbrev FE := Value × Value × List E.Fl
abbrev LE' := Value × Value × List E.Lk
def rowsH (ns : List NE) (fs : List FE) (ls : List LE') : Nat → List Value := fun i =>
  if i = 0 then ns.map (fun x => x.1) else if i = 1 then ns.map (fun x => x.2.1) else if i = 2 then fs.map (fun x => x.1) else if i = 3 then fs.map (fun x => x.2.1) else if i = 4 then ls.map (fun x => x.1) else ls.map (fun x => x.2.1)
/-- The Hold at hb with what it notes: each copy with the list that it is of. -/
def HG (B hb : Nat) (w : World) (ns : List NE) (fs : List FE) (ls : List LE') : Prop :=
  (∃ vs, HR hb w vs (rowsH ns fs ls)) ∧ (∀ x ∈ ns, DI w x.1 x.2.2 ∧ IRow B w x.2.1 x.2.2) ∧ (∀ x ∈ fs, DF w x.1 x.2.2 ∧ Flats B w x.2.1 x.2.2) ∧ ∀ x ∈ ls, DL w x.1 x.2.2 ∧ Links B w x.2.1 x.2.2
theorem HG.lt {B hb : Nat} {w : World} {ns : List NE} {fs : List FE} {ls : List LE'} (h : HG B hb w ns fs ls) : hb < w.heap.size := by
  obtain ⟨⟨vs, h⟩, -⟩ := h
  exact h.lt
theorem HG.mk' {B hb : Nat} {w w' : World} {ns : List NE} {fs : List FE} {ls : List LE'} (h : HG B hb w ns fs ls) (hB : B ≤ hb) (k : Hk hb w w') {vs : Nat → Value} {xs : Nat → List Value} (hr : HR hb w' vs xs) (e : ∀ i, i < 6 → xs i = rowsH ns fs ls i) : HG B hb w' ns fs ls :=
  ⟨⟨vs, hr.congr e⟩, fun x hx => ⟨(h.2.1 x hx).1.keeps k, (h.2.1 x hx).2.below (k.bel.mono hB)⟩, fun x hx => ⟨(h.2.2.1 x hx).1.keeps k, (h.2.2.1 x hx).2.below (k.bel.mono hB)⟩, fun x hx => ⟨(h.2.2.2 x hx).1.keeps k, (h.2.2.2 x hx).2.below (k.bel.mono hB)⟩⟩
theorem HG.below {B hb : Nat} {w w' : World} {ns : List NE} {fs : List FE} {ls : List LE'} (h : HG B hb w ns fs ls) (hB : B ≤ hb) (q : Below w.heap.size w w') : HG B hb w' ns fs ls := by
  obtain ⟨vs, hr⟩ := h.1
  exact h.mk' hB (Hk.of_below q (Nat.le_of_lt hr.lt)) (hr.below q) (fun _ _ => rfl)
theorem HG.flat {B hb : Nat} {w w' : World} {ns : List NE} {fs : List FE} {ls : List LE'} {m v : Value} {l : List E.Fl} (h : HG B hb w ns fs ls) (hB : B ≤ hb) (k : Hk hb w w') (hd : DF w' m l) (hl : Flats B w v l) (hr : ∃ vs, HR hb w' vs (upd (upd (rowsH ns fs ls) 2 (rowsH ns fs ls 2 ++ [m])) 3 (rowsH ns fs ls 3 ++ [v]))) : HG B hb w' ns (fs ++ [(m, v, l)]) ls := by
  obtain ⟨vs, hr⟩ := hr
  refine ⟨⟨vs, hr.congr (six _ rfl rfl ?_ ?_ rfl rfl)⟩, fun x hx => ⟨(h.2.1 x hx).1.keeps k, (h.2.1 x hx).2.below (k.bel.mono hB)⟩, fun x hx => ?_, fun x hx => ⟨(h.2.2.2 x hx).1.keeps k, (h.2.2.2 x hx).2.below (k.bel.mono hB)⟩⟩
  · show fs.map _ ++ [m] = List.map _ (fs ++ [(m, v, l)])
    rw [List.map_append]
    rfl
  · show fs.map _ ++ [v] = List.map _ (fs ++ [(m, v, l)])
    rw [List.map_append]
    rfl
  · rcases List.mem_append.1 hx with hx | hx
    · exact ⟨(h.2.2.1 x hx).1.keeps k, (h.2.2.1 x hx).2.below (k.bel.mono hB)⟩
    · obtain rfl := List.mem_singleton.1 hx
      exact ⟨hd, hl.below (k.bel.mono hB)⟩
theorem HG.link {B hb : Nat} {w w' : World} {ns : List NE} {fs : List FE} {ls : List LE'} {m v : Value} {l : List E.Lk} (h : HG B hb w ns fs ls) (hB : B ≤ hb) (k : Hk hb w w') (hd : DL w' m l) (hl : Links B w v l) (hr : ∃ vs, HR hb w' vs (upd (upd (rowsH ns fs ls) 4 (rowsH ns fs ls 4 ++ [m])) 5 (rowsH ns fs ls 5 ++ [v]))) : HG B hb w' ns fs (ls ++ [(m, v, l)]) := by
  obtain ⟨vs, hr⟩ := hr
  refine ⟨⟨vs, hr.congr (six _ rfl rfl rfl rfl ?_ ?_)⟩, fun x hx => ⟨(h.2.1 x hx).1.keeps k, (h.2.1 x hx).2.below (k.bel.mono hB)⟩, fun x hx => ⟨(h.2.2.1 x hx).1.keeps k, (h.2.2.1 x hx).2.below (k.bel.mono hB)⟩, fun x hx => ?_⟩
  · show ls.map _ ++ [m] = List.map _ (ls ++ [(m, v, l)])
    rw [List.map_append]
    rfl
  · show ls.map _ ++ [v] = List.map _ (ls ++ [(m, v, l)])
    rw [List.map_append]
    rfl
  · rcases List.mem_append.1 hx with hx | hx
    · exact ⟨(h.2.2.2 x hx).1.keeps k, (h.2.2.2 x hx).2.below (k.bel.mono hB)⟩
    · obtain rfl := List.mem_singleton.1 hx
      exact ⟨hd, hl.below (k.bel.mono hB)⟩
theorem DI.grown {base n size : Nat} {e : TypeId} {u v : Value} {ys : List Value} {w w' : World} {l : List Int} (h : DI w v l) (ho : w.ownsRow base e size u n ys) (he : (e == 3) = false) (hg : w.grownBy w' u.ownBlock) : DI w' v l := by
  obtain ⟨g, cap, rfl, hc, ⟨cur, z, hG⟩, h1, h2, h3⟩ := h
  have ne : some g ≠ u.ownBlock := by
    intro c
    rcases ho.2 with ⟨rfl, -⟩ | ⟨g', cap', cur', rfl, -, hg', -⟩
    · simp [Value.ownBlock] at c
    · simp only [Value.ownBlock, Option.some.injEq] at c
      subst c
      rw [hg'] at hG
      cases hG
      exact absurd he (by decide)
  have hb := hg.block g ((Array.getElem?_eq_some_iff.1 hG).1) ne
  have hcell := fun j => World.cell?_of_block (a := ⟨g, j, none⟩) hb
  exact ⟨g, cap, rfl, hc, ⟨cur, z, hb.trans hG⟩, fun j hj => (hcell j).trans (h1 j hj), (hcell _).trans h2, (hcell _).trans h3⟩
/-- The Hold at hb, and of its copies the lists of numbers alone. -/
def HN (B hb : Nat) (w : World) (ns : List NE) (fs : List FE) (ls : List LE') : Prop :=
  (∃ vs, HR hb w vs (rowsH ns fs ls)) ∧ ∀ x ∈ ns, DI w x.1 x.2.2 ∧ IRow B w x.2.1 x.2.2
theorem HG.hn {B hb : Nat} {w : World} {ns : List NE} {fs : List FE} {ls : List LE'} (h : HG B hb w ns fs ls) : HN B hb w ns fs ls := ⟨h.1, h.2.1⟩
/-- Copies of nodes and links that were there are kept. -/
theorem HN.hg {B hb : Nat} {w w' : World} {ns ns' : List NE} {fs : List FE} {ls : List LE'} (h' : HN B hb w' ns' fs ls) (h : HG B hb w ns fs ls) (hB : B ≤ hb) (k : Hk hb w w') : HG B hb w' ns' fs ls :=
  ⟨h'.1, h'.2, fun x hx => ⟨(h.2.2.1 x hx).1.keeps k, (h.2.2.1 x hx).2.below (k.bel.mono hB)⟩, fun x hx => ⟨(h.2.2.2 x hx).1.keeps k, (h.2.2.2 x hx).2.below (k.bel.mono hB)⟩⟩
theorem HN.lt {B hb : Nat} {w : World} {ns : List NE} {fs : List FE} {ls : List LE'} (h : HN B hb w ns fs ls) : hb < w.heap.size := by
  obtain ⟨⟨vs, h⟩, -⟩ := h
  exact h.lt
theorem HN.below {B hb : Nat} {w w' : World} {ns : List NE} {fs : List FE} {ls : List LE'} (h : HN B hb w ns fs ls) (hB : B ≤ hb) (q : Below w.heap.size w w') : HN B hb w' ns fs ls := by
  obtain ⟨vs, hr⟩ := h.1
  have k := Hk.of_below q (Nat.le_of_lt hr.lt)
  exact ⟨⟨vs, hr.below q⟩, fun x hx => ⟨(h.2 x hx).1.keeps k, (h.2 x hx).2.below (k.bel.mono hB)⟩⟩
/-- Where a row of nodes or of links grew. -/
theorem HN.grown {B hb base n size : Nat} {e : TypeId} {v : Value} {ys : List Value} {w w' : World} {ns : List NE} {fs : List FE} {ls : List LE'} (h : HN B hb w ns fs ls) (ho : w.ownsRow base e size v n ys) (he : hty e = false) (hi : (e == 3) = false) (hB : B ≤ base) (hs : B ≤ w.heap.size) (hg : w.grownBy w' v.ownBlock) : HN B hb w' ns fs ls := by
  obtain ⟨vs, hr⟩ := h.1
  have q : Below B w w' := (Below.refl B w).grown hg hs (fun k hk => Nat.le_trans hB (ho.lt k hk).1)
  exact ⟨⟨vs, hr.grown ho he hg⟩, fun x hx => ⟨(h.2 x hx).1.grown ho hi hg, (h.2 x hx).2.below q⟩⟩
theorem HN.num {B hb : Nat} {w w' : World} {ns : List NE} {fs : List FE} {ls : List LE'} {m v : Value} {l : List Int} (h : HN B hb w ns fs ls) (hB : B ≤ hb) (k : Hk hb w w') (hd : DI w' m l) (hl : IRow B w v l) (hr : ∃ vs, HR hb w' vs (upd (upd (rowsH ns fs ls) 0 (rowsH ns fs ls 0 ++ [m])) 1 (rowsH ns fs ls 1 ++ [v]))) : HN B hb w' (ns ++ [(m, v, l)]) fs ls := by
  obtain ⟨vs, hr⟩ := hr
  refine ⟨⟨vs, hr.congr (six _ ?_ ?_ rfl rfl rfl rfl)⟩, fun x hx => ?_⟩
  · show ns.map _ ++ [m] = List.map _ (ns ++ [(m, v, l)])
    rw [List.map_append]
    rfl
  · show ns.map _ ++ [v] = List.map _ (ns ++ [(m, v, l)])
    rw [List.map_append]
    rfl
  · rcases List.mem_append.1 hx with hx | hx
    · exact ⟨(h.2 x hx).1.keeps k, (h.2 x hx).2.below (k.bel.mono hB)⟩
    · obtain rfl := List.mem_singleton.1 hx
      exact ⟨hd, hl.below (k.bel.mono hB)⟩
theorem hInfoInt : (Try.prog.info? 3).map (fun i => (i.zero, i.size, i.bytes)) = some (some (.int .i64 0), 1, 8) := by kernel_rfl
theorem hSliceInt : Try.prog.underlying 24 = some (.slice 3) := by kernel_rfl
theorem hInfoInts : (Try.prog.info? 24).map (fun i => (i.zero, i.size, i.bytes)) = some (some (.slice none 0 0), 1, 24) := by kernel_rfl
theorem hInfoFlat : (Try.prog.info? 31).map (fun i => (i.zero, i.size, i.bytes)) = some (some (.agg #[.int .i64 0, .slice none 0 0]), 2, 32) := by kernel_rfl
theorem hSliceFlat : Try.prog.underlying 22 = some (.slice 31) := by kernel_rfl
theorem hInfoFlats : (Try.prog.info? 22).map (fun i => (i.zero, i.size, i.bytes)) = some (some (.slice none 0 0), 1, 24) := by kernel_rfl
theorem hSliceFlats : Try.prog.underlying 38 = some (.slice 22) := by kernel_rfl
theorem hInfoLink : (Try.prog.info? 26).map (fun i => (i.zero, i.size, i.bytes)) = some (some (.agg #[.int .i64 0, .int .i64 0, .int .i64 0, .int .i64 0, .slice none 0 0]), 5, 56) := by kernel_rfl
theorem hSliceLink : Try.prog.underlying 23 = some (.slice 26) := by kernel_rfl
theorem hInfoLinks : (Try.prog.info? 23).map (fun i => (i.zero, i.size, i.bytes)) = some (some (.slice none 0 0), 1, 24) := by kernel_rfl
theorem hSliceLinks : Try.prog.underlying 39 = some (.slice 23) := by kernel_rfl
theorem hSliceInts : Try.prog.underlying 37 = some (.slice 24) := by kernel_rfl
end Go.Proofs.Ytcpmeehchmdljaa
