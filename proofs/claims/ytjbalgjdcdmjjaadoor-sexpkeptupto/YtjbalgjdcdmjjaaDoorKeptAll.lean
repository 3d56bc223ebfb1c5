/- Laid together of: KeptMem, KeptMark, KeptRead, KeptKids, KeptCopy, KeptFact. -/
import Derived.Test.YtjbalgjdcdmjjaaDoorToNdC
import Derived.Test.YtjbalgjdcdmjjaaDoorNodeCopiedC
import Derived.OwnWalk
import Derived.ArgAppend
/- ==== KeptMem ==== -/
namespace Go.Proofs.YtjbalgjdcdmjjaaDoor
open Go.RowKit
set_option linter.unusedVariables false
/-- What a step changes: new blocks, and those of S. -/
structure Ch (S : List (Option Nat)) (w w' : World) : Prop where
  os : w'.os = w.os
  tape : w'.tape = w.tape
  output : w'.output = w.output
  size : w.heap.size ≤ w'.heap.size
  block : ∀ k, k < w.heap.size → some k ∉ S → w'.heap[k]? = w.heap[k]?
theorem Ch.of_below {w w' : World} (b : Below w.heap.size w w') : Ch [] w w' := ⟨b.os, b.tape, b.output, b.size, fun k hk _ => b.block k hk⟩
theorem Ch.of_grown {w w' : World} {r : Option Nat} (g : w.grownBy w' r) : Ch [r] w w' := ⟨g.os, g.tape, g.output, g.size, fun k hk h => g.block k hk (fun e => h (by rw [e]; exact List.mem_singleton.2 rfl))⟩
theorem Ch.trans {S T : List (Option Nat)} {w w1 w2 : World} (a : Ch S w w1) (b : Ch T w1 w2) : Ch (S ++ T) w w2 :=
  ⟨b.os.trans a.os, b.tape.trans a.tape, b.output.trans a.output, Nat.le_trans a.size b.size, fun k hk h => (b.block k (Nat.lt_of_lt_of_le hk a.size) (fun e => h (List.mem_append_right _ e))).trans (a.block k hk (fun e => h (List.mem_append_left _ e)))⟩
theorem Ch.then {S : List (Option Nat)} {w w1 w2 : World} (a : Ch S w w1) (b : Below w1.heap.size w1 w2) : Ch S w w2 := by
  have := a.trans (Ch.of_below b)
  rwa [List.append_nil] at this
theorem Ch.below {S : List (Option Nat)} {B : Nat} {w w' : World} (c : Ch S w w') (hB : B ≤ w.heap.size) (h : ∀ x ∈ S, ∀ k, x = some k → B ≤ k) : Below B w w' :=
  ⟨c.os, c.tape, c.output, c.size, fun k hk => c.block k (by omega) (fun e => by have := h _ e k rfl; omega)⟩
/-- A list of a call's own, or one that is cut to its length. -/
def Mine (T : TypeId) (size : Nat) (w : World) (B : Nat) (v : Value) (n : Nat) (xs : List Value) : Prop :=
  ∃ a c, w.ownsRow B T size (.slice a n c) n xs ∧ (v = .slice a n c ∨ v = .slice a n n)
section
variable {T : TypeId} {size : Nat} {w : World} {B : Nat} {v : Value} {n : Nat} {xs : List Value}
theorem Mine.own (h : w.ownsRow B T size v n xs) : Mine T size w B v n xs := by
  rcases id h.2 with ⟨rfl, rfl⟩ | ⟨g, cap, cur, rfl, h1⟩
  · exact ⟨none, 0, h, .inl rfl⟩
  · exact ⟨_, cap, h, .inl rfl⟩
theorem Mine.block (h : Mine T size w B v n xs) : ∀ k, v.ownBlock = some k → B ≤ k ∧ k < w.heap.size := by
  obtain ⟨a, c, h1, rfl | rfl⟩ := h
  · exact h1.lt
  · intro k hk
    exact h1.lt k (by cases a with
      | none => cases hk
      | some x => exact hk)
theorem Mine.keep (h : Mine T size w B v n xs) {S : List (Option Nat)} {w' : World} (c : Ch S w w') (hS : ∀ k, v.ownBlock = some k → some k ∉ S) : Mine T size w' B v n xs := by
  obtain ⟨a, cp, h1, h2⟩ := h
  refine ⟨a, cp, ⟨h1.1, ?_⟩, h2⟩
  rcases h1.2 with hn | ⟨g, cap, cur, e, hb, hgg, rest⟩
  · exact .inl hn
  · cases e
    refine .inr ⟨g, cp, cur, rfl, hb, ?_, rest⟩
    rw [c.block g (Array.getElem?_eq_some_iff.1 hgg).1 (hS g (by rcases h2 with rfl | rfl <;> rfl))]
    exact hgg
theorem Mine.below (h : Mine T size w B v n xs) {w' : World} (b : Below w.heap.size w w') : Mine T size w' B v n xs := h.keep (Ch.of_below b) (fun _ _ => by simp)
theorem Mine.base (h : Mine T size w B v n xs) {B' : Nat} (hB : B' ≤ B) : Mine T size w B' v n xs := by
  obtain ⟨a, c, h1, h2⟩ := h
  exact ⟨a, c, h1.mono hB, h2⟩
theorem Mine.len (h : Mine T size w B v n xs) : xs.length = n * size := by
  obtain ⟨a, c, h1, h2⟩ := h
  exact h1.1
theorem Mine.shape (h : Mine T size w B v n xs) : ∃ a c, v = .slice a n c ∧ n ≤ c ∧ c ≤ 9223372036854775807 ∧ (0 < n → ∃ g, a = some ⟨g, 0, none⟩ ∧ v.ownBlock = some g ∧ ∃ cur, w.heap[g]? = some (.cells cur T (0, 0)) ∧ n * size ≤ cur.size ∧ cur.toList.take (n * size) = xs) := by
  obtain ⟨a, c, h1, h2⟩ := h
  have key : n ≤ c ∧ c ≤ 9223372036854775807 ∧ (0 < n → ∃ g, a = some ⟨g, 0, none⟩ ∧ ∃ cur, w.heap[g]? = some (.cells cur T (0, 0)) ∧ n * size ≤ cur.size ∧ cur.toList.take (n * size) = xs) := by
    rcases h1.2 with ⟨e, h0⟩ | ⟨g, cap, cur, e, hb, hgg, q1, q2, q3, q4⟩
    · cases e
      exact ⟨Nat.le_refl _, by decide, fun h => absurd h (by decide)⟩
    · cases e
      unfold maxLen at q2
      exact ⟨q1, by omega, fun _ => ⟨g, rfl, cur, hgg, by rw [q3]; exact Nat.mul_le_mul_right _ q1, q4⟩⟩
  obtain ⟨k1, k2, k3⟩ := key
  rcases h2 with rfl | rfl
  · refine ⟨a, c, rfl, k1, k2, fun hp => ?_⟩
    obtain ⟨g, rfl, r⟩ := k3 hp
    exact ⟨g, rfl, rfl, r⟩
  · refine ⟨a, n, rfl, Nat.le_refl _, by omega, fun hp => ?_⟩
    obtain ⟨g, rfl, r⟩ := k3 hp
    exact ⟨g, rfl, rfl, r⟩
theorem Mine.set (h : Mine T size w B v n xs) {g : Nat} (hg : v.ownBlock = some g) (k : Nat) (u : Value) (hk : k < n * size) : Mine T size (w.setCell ⟨g, k, none⟩ u) B v n (xs.set k u) := by
  obtain ⟨a, c, h1, h2⟩ := h
  rcases id h1.2 with ⟨e, h0⟩ | ⟨g', cap, cur, e, hb, hgg, q1, q2, q3, q4⟩
  · cases e
    rcases h2 with rfl | rfl <;> simp [Value.ownBlock] at hg
  · cases e
    obtain rfl : g = g' := by rcases h2 with rfl | rfl <;> simpa [Value.ownBlock] using hg.symm
    have b1 := heap_setCell_same w g k cur _ u hgg
    refine ⟨some ⟨g, 0, none⟩, c, ⟨by rw [List.length_set]; exact h1.1, .inr ⟨g, c, _, rfl, hb, b1, q1, q2, by simpa using q3, ?_⟩⟩, h2⟩
    rw [← q4]
    simp only [Array.toList_setIfInBounds]
    rw [List.take_set]
end
/-- An append of one onto such a list: the new list, the old one as it was, and where the new one lies. -/
theorem wpList_append_kept {P : Program} (w : World) {ops : Array Oper} {rest : List Oper} {o : Oper} {a : Act} {Q : Exit → Act → World → Prop} (hgd : o.guard = none) (s x : Operand) (t : TypeId)
    (ho : o.op = .call { callee := .builtin .append, args := #[s, x], argTypes := #[t, t] })
    (base : Nat) (e : TypeId) (i : TypeInfo) (z : Value) (size bytes : Nat) (ht : P.underlying t = some (.slice e)) (hi : P.info? e = some i) (hz : i.zero = some z)
    (hsize : i.size = size) (hby : i.bytes = bytes) (hzs : z.cells.size = size) (hsz : 0 < size)
    (v : Value) (n : Nat) (xs : List Value) (hs : a.eval s = v) (hown : Mine e size w base v n xs)
    (ad : Addr) (news : List Value) (hx : a.eval x = .slice (some ad) 1 1) (hl : news.length = 1 * size) (hnews : ∀ j u, news[j]? = some u → w.cell? (ad.add j) = some u) (h1 : ∀ u ∈ news, u.oneCell' = true)
    (h63 : n + 1 ≤ maxLen) (hbytes : (n + 1) * bytes ≤ 140737488355328) (hbase : base ≤ w.heap.size)
    (h : ∀ g cap w', w'.ownsRow base e size (.slice (some ⟨g, 0, none⟩) (n + 1) cap) (n + 1) (xs ++ news) → Mine e size w' base v n xs → (v.ownBlock = some g ∨ w.heap.size ≤ g) → w.grownBy w' v.ownBlock → wpList P ops Q rest (a.put o.dst (.slice (some ⟨g, 0, none⟩) (n + 1) cap)) w') : wpList P ops Q (o :: rest) a w := by
  have weak : ∀ {w' : World} {row : Option Nat}, w.grownBy w' none → w.grownBy w' row := fun q => ⟨q.os, q.tape, q.output, q.size, fun k hk _ => q.block k hk (by simp)⟩
  have grown : ∀ v' w', w'.ownsRow w.heap.size e size v' (n + 1) (xs ++ news) → w.grownBy w' none → wpList P ops Q rest (a.put o.dst v') w' := by
    intro v' w' h2 h3
    have hold : Mine e size w' base v n xs := hown.keep (Ch.of_grown h3) (fun _ _ => by simp)
    rcases id h2.2 with ⟨_, q⟩ | ⟨g, cap, cur, rfl, hB, hg, hr⟩
    · omega
    · exact h g cap w' (h2.mono hbase) hold (.inr hB) (weak h3)
  obtain ⟨ao, c, h2, hv⟩ := id hown
  rcases id h2.2 with ⟨e1, rfl⟩ | ⟨g, cap, cur, e1, hB, hg, h5, h6, h7, h8⟩
  · cases e1
    have hv : v = .slice none 0 0 := by rcases hv with rfl | rfl <;> rfl
    subst hv
    exact wpList_append_grows w hgd s x t ho e i z size bytes ht hi hz hsize hby hzs hsz none 0 0 xs hs (fun _ => ⟨rfl, rfl⟩) h2.1 (fun b hb => by cases hb) ad 1 1 news hx hl hnews h1 (by omega) h63 hbytes grown
  · cases e1
    have cells : ∀ b, (some (⟨g, 0, none⟩ : Addr)) = some b → ∀ j u, xs[j]? = some u → w.cell? (b.add j) = some u := fun b hb j u hu => by cases hb; exact h2.cells rfl j u hu
    rcases hv with rfl | rfl
    · by_cases hc : n + 1 ≤ c
      · refine wpList_append_fits w hgd s x t ho base e i size ht hi hsize g n c xs hs h2 ad 1 1 news hx hl hnews h1 hc (fun w' h9 h3 => ?_)
        refine h g c w' h9 ⟨_, c, ⟨h2.1, ?_⟩, .inl rfl⟩ (.inl rfl) h3
        rcases id h9.2 with ⟨q, _⟩ | ⟨g', cap', cur', e', hB', hg', q1, q2, q3, q4⟩
        · cases q
        · cases e'
          refine .inr ⟨g, c, cur', rfl, hB', hg', h5, q2, q3, ?_⟩
          have := congrArg (List.take (n * size)) q4
          rw [List.take_take, Nat.min_eq_left (Nat.mul_le_mul_right _ (by omega)), List.take_left' h2.1] at this
          exact this
      · exact wpList_append_grows w hgd s x t ho e i z size bytes ht hi hz hsize hby hzs hsz (some ⟨g, 0, none⟩) n c xs hs (fun q => by cases q) h2.1 cells ad 1 1 news hx hl hnews h1 (by omega) h63 hbytes grown
    · exact wpList_append_grows w hgd s x t ho e i z size bytes ht hi hz hsize hby hzs hsz (some ⟨g, 0, none⟩) n n xs hs (fun q => by cases q) h2.1 cells ad 1 1 news hx hl hnews h1 (by omega) h63 hbytes grown
theorem nsCells_flat (ns : List X.N) : nsCells ns = flatN (ns.map toNd) := by
  induction ns with
  | nil => rfl
  | cons t r ih => simp only [nsCells, flatN, List.map_cons, List.flatMap_cons] at ih ⊢; rw [ih]; rfl
theorem Mine.nds {w : World} {B : Nat} {v : Value} {ns : List Nd} (h : Mine 47 5 w B v ns.length (flatN ns)) (hn : ns.length ≤ 2932031007402) : Nds w.heap.size w v ns := by
  obtain ⟨a, c, h1, h2⟩ := h
  have h3 := own_nds h1 hn
  rcases h2 with rfl | rfl
  · exact h3
  · obtain ⟨a', c', e, q1, q2, q3, q4⟩ := h3
    cases e
    exact ⟨a, _, rfl, Nat.le_refl _, ⟨by omega, hn⟩, q3, q4⟩
/-- Do the marks stand? -/
def Stand (w : World) (v : Value) (n : Nat) (m : Int) : Prop :=
  ∃ a c, v = .slice a n c ∧ n ≤ c ∧ c ≤ 9223372036854775807 ∧ (0 < n → ∃ g, a = some ⟨g, 0, none⟩ ∧ ∀ j, j < n → w.cell? ⟨g, j * 5, none⟩ = some (.int .i64 (-1)) ∧ w.cell? ⟨g, j * 5 + 1, none⟩ = some (.int .i64 (m + j)))
theorem Stand.keep {w w' : World} {v : Value} {n : Nat} {m : Int} {S : List (Option Nat)} (h : Stand w v n m) (c : Ch S w w') (hS : ∀ k, v.ownBlock = some k → some k ∉ S) : Stand w' v n m := by
  obtain ⟨a, cp, rfl, h1, h2, h3⟩ := h
  refine ⟨a, cp, rfl, h1, h2, fun hp => ?_⟩
  obtain ⟨g, rfl, hc⟩ := h3 hp
  refine ⟨g, rfl, fun j hj => ?_⟩
  obtain ⟨c0, c1⟩ := hc j hj
  have hg : g < w.heap.size := World.block_lt_of_cell? w _ c0
  have hb := c.block g hg (hS g rfl)
  exact ⟨(World.cell?_of_block (a := ⟨g, _, none⟩) hb).trans c0, (World.cell?_of_block (a := ⟨g, _, none⟩) hb).trans c1⟩
def Count (w : World) (v : Value) (n : Nat) (m : Int) : Prop :=
  ∃ a c, v = .slice a n c ∧ n ≤ c ∧ c ≤ 9223372036854775807 ∧ (0 < n → ∃ g, a = some ⟨g, 0, none⟩ ∧ ∀ j, j < n → w.cell? ⟨g, j, none⟩ = some (.int .i64 (m + j)))
theorem Count.keep {w w' : World} {v : Value} {n : Nat} {m : Int} {S : List (Option Nat)} (h : Count w v n m) (c : Ch S w w') (hS : ∀ k, v.ownBlock = some k → some k ∉ S) : Count w' v n m := by
  obtain ⟨a, cp, rfl, h1, h2, h3⟩ := h
  refine ⟨a, cp, rfl, h1, h2, fun hp => ?_⟩
  obtain ⟨g, rfl, hc⟩ := h3 hp
  refine ⟨g, rfl, fun j hj => ?_⟩
  have c0 := hc j hj
  have hg : g < w.heap.size := World.block_lt_of_cell? w _ c0
  exact (World.cell?_of_block (a := ⟨g, _, none⟩) (c.block g hg (hS g rfl))).trans c0
/-- The marks among a list's cells. -/
def Mks (xs : List Value) (n : Nat) (m : Int) : Prop := ∀ j, j < n → xs[j * 5]? = some (.int .i64 (-1)) ∧ xs[j * 5 + 1]? = some (.int .i64 (m + j))
def Cts (xs : List Value) (n : Nat) (m : Int) : Prop := ∀ j, j < n → xs[j]? = some (.int .i64 (m + j))
theorem Mine.stand {w : World} {B : Nat} {v : Value} {n : Nat} {xs : List Value} {m : Int} (h : Mine 47 5 w B v n xs) (hm : Mks xs n m) : Stand w v n m := by
  obtain ⟨a, c, rfl, q1, q2, q3⟩ := h.shape
  refine ⟨a, c, rfl, q1, q2, fun hp => ?_⟩
  obtain ⟨g, rfl, -, cur, hg, hs, ht⟩ := q3 hp
  refine ⟨g, rfl, fun j hj => ?_⟩
  obtain ⟨m0, m1⟩ := hm j hj
  rw [← ht, List.getElem?_take] at m0 m1
  rw [if_pos (by omega)] at m0 m1
  exact ⟨by rw [cell_of_row w g _ cur _ (0, 0) hg]; simpa using m0, by rw [cell_of_row w g _ cur _ (0, 0) hg]; simpa using m1⟩
theorem Mine.count {w : World} {B : Nat} {v : Value} {n : Nat} {xs : List Value} {m : Int} (h : Mine 3 1 w B v n xs) (hm : Cts xs n m) : Count w v n m := by
  obtain ⟨a, c, rfl, q1, q2, q3⟩ := h.shape
  refine ⟨a, c, rfl, q1, q2, fun hp => ?_⟩
  obtain ⟨g, rfl, -, cur, hg, hs, ht⟩ := q3 hp
  refine ⟨g, rfl, fun j hj => ?_⟩
  have m0 := hm j hj
  rw [← ht, List.getElem?_take, if_pos (by omega)] at m0
  rw [cell_of_row w g _ cur _ (0, 0) hg]
  simpa using m0
theorem Mine.rowI {w : World} {B : Nat} {v : Value} {xs : List Int} (h : Mine 3 1 w B v xs.length (xs.map (Value.int .i64))) : RowI w v xs := by
  obtain ⟨a, c, h1, h2⟩ := h
  have h3 : RowI w (.slice a xs.length c) xs := OwnS.row (B := B) h1
  rcases h2 with rfl | rfl
  · exact h3
  · obtain ⟨a', c', e, q1, q2, q3⟩ := h3
    cases e
    exact ⟨a, _, rfl, Nat.le_refl _, by omega, q3⟩
theorem mks_snoc {xs : List Value} {n : Nat} {m : Int} (h : Mks xs n m) (hl : xs.length = n * 5) (c2 c3 c4 : Value) : Mks (xs ++ [.int .i64 (-1), .int .i64 (m + n), c2, c3, c4]) (n + 1) m := by
  intro j hj
  by_cases e : j < n
  · obtain ⟨a, b⟩ := h j e
    rw [List.getElem?_append_left (by omega), List.getElem?_append_left (by omega)]
    exact ⟨a, b⟩
  · obtain rfl : j = n := by omega
    rw [List.getElem?_append_right (by omega), List.getElem?_append_right (by omega), hl]
    constructor
    · rw [Nat.sub_self]; rfl
    · rw [Nat.add_sub_cancel_left]; rfl
theorem cts_snoc {xs : List Value} {n : Nat} {m : Int} (h : Cts xs n m) (hl : xs.length = n * 1) : Cts (xs ++ [.int .i64 (m + n)]) (n + 1) m := by
  intro j hj
  by_cases e : j < n
  · rw [List.getElem?_append_left (by omega)]
    exact h j e
  · obtain rfl : j = n := by omega
    rw [List.getElem?_append_right (by omega), hl, Nat.mul_one, Nat.sub_self]
    rfl
theorem mks_set {xs : List Value} {k n : Nat} {m : Int} (h : Mks xs k m) (hl : xs.length = n * 5) (hk : k < n) (c2 c3 c4 : Value) :
    Mks (((((xs.set (k * 5) (.int .i64 (-1))).set (k * 5 + 1) (.int .i64 (m + k))).set (k * 5 + 2) c2).set (k * 5 + 3) c3).set (k * 5 + 4) c4) (k + 1) m := by
  intro j hj
  by_cases e : j < k
  · obtain ⟨a, b⟩ := h j e
    rw [List.getElem?_set_ne (by omega), List.getElem?_set_ne (by omega), List.getElem?_set_ne (by omega), List.getElem?_set_ne (by omega), List.getElem?_set_ne (by omega)]
    rw [List.getElem?_set_ne (by omega), List.getElem?_set_ne (by omega), List.getElem?_set_ne (by omega), List.getElem?_set_ne (by omega), List.getElem?_set_ne (by omega)]
    exact ⟨a, b⟩
  · obtain rfl : j = k := by omega
    rw [List.getElem?_set_ne (by omega), List.getElem?_set_ne (by omega), List.getElem?_set_ne (by omega), List.getElem?_set_ne (by omega), List.getElem?_set_self (by omega)]
    rw [List.getElem?_set_ne (by omega), List.getElem?_set_ne (by omega), List.getElem?_set_ne (by omega), List.getElem?_set_self (by rw [List.length_set]; omega)]
    exact ⟨rfl, rfl⟩
theorem cts_set {xs : List Value} {k n : Nat} {m : Int} (h : Cts xs k m) (hl : xs.length = n * 1) (hk : k < n) : Cts (xs.set k (.int .i64 (m + k))) (k + 1) m := by
  intro j hj
  by_cases e : j < k
  · rw [List.getElem?_set_ne (by omega)]
    exact h j e
  · obtain rfl : j = k := by omega
    rw [List.getElem?_set_self (by omega)]
set_option maxRecDepth 100000 in
set_option maxHeartbeats 600000 in
theorem sameNd_calls (w : World) (Ba Bb : Nat) (va vb : Value) (ns : List Nd) (ha : Nds Ba w va ns) (hb : Nds Bb w vb ns) (hBa : Ba ≤ w.heap.size) (hBb : Bb ≤ w.heap.size) :
    Calls Tryd.prog 17 #[va, vb] w fun e w' => e = .returned (.bool true) ∧ Below w.heap.size w w' := by
  obtain ⟨LL, hLL⟩ : ∃ n, ns.length = n := ⟨_, rfl⟩
  have t1 := hide ha
  have t2 := hide hb
  obtain ⟨a1, cp1, rfl, n1, n1', -⟩ := ha
  obtain ⟨a2, cp2, rfl, n2, n2', -⟩ := hb
  rw [hLL] at n1 n2 t1 t2 ⊢
  have hLh := hide hLL
  clear hLL
  have B0 : Hid (Below w.heap.size w w) := Below.refl _ w
  go_enter Tryd.func17, Tryd.ntmps17
  go_wp2
  go_loopw [5] (fun j wr => ∃ k : Nat, k ≤ LL ∧ j = .int .i64 k ∧ Hid (Below w.heap.size w wr)) (fun j _ => LL - (intOf j).toNat)
  case atStart => exact ⟨0, Nat.zero_le _, rfl, B0⟩
  case round =>
    clear B0
    obtain ⟨k, hk, rfl, hB⟩ := hrel
    by_cases hlt : k < LL
    · have T1 := t1.out.below (hB.out.mono hBa)
      obtain ⟨g1, f1, rfl, -, x0, x1, x2, x3, x4⟩ := T1.at_ (j := k) (by rw [hLh.out]; exact hlt)
      have T2 := t2.out.below (hB.out.mono hBb)
      obtain ⟨g2, f2, rfl, -, y0, y1, y2, y3, y4⟩ := T2.at_ (j := k) (by rw [hLh.out]; exact hlt)
      generalize ns.getD k Nd.z = t at x0 x1 x2 x3 x4 y0 y1 y2 y3 y4
      have i1 : (k : Int) < LL := by omega
      clear T1 T2
      go_wp2
      go_quiet (fail)
      go_wp2
      go_roundw
      case rel => exact ⟨k + 1, by omega, by go_num, below_drewN hB.out _⟩
      case measure => simp [intOf]; omega
    · go_wp2
      go_ret
      exact ⟨rfl, hB.out⟩
end Go.Proofs.YtjbalgjdcdmjjaaDoor
/- ==== KeptMark ==== -/
namespace Go.Proofs.YtjbalgjdcdmjjaaDoor
open Go.RowKit
set_option linter.unusedVariables false
theorem Ch.set {V : Option Nat} {w wr : World} (h : Ch [V] w wr) {g : Nat} (e : V = some g) (k : Nat) (u : Value) : Ch [V] w (wr.setCell ⟨g, k, none⟩ u) := by
  subst e
  exact ⟨h.os, h.tape, h.output, by simpa [World.setCell] using h.size, fun j hj hn => by
    rw [Below.heap_setCell _ _ _ _ (fun e => hn (by rw [e]; exact List.mem_singleton.2 rfl))]
    exact h.block j hj hn⟩
theorem Ch.weak {S T : List (Option Nat)} {w w' : World} (h : Ch S w w') (q : ∀ x ∈ S, x ∈ T) : Ch T w w' := ⟨h.os, h.tape, h.output, h.size, fun k hk hn => h.block k hk (fun e => hn (q _ e))⟩
set_option maxRecDepth 100000 in
set_option maxHeartbeats 4000000 in
theorem marked_calls (w : World) (B : Nat) (v : Value) (n : Nat) (xs : List Value) (h : Mine 47 5 w B v n xs) (hB : B ≤ w.heap.size) (hn : n ≤ 4294967298) (m : Nat) (hm : m ≤ 4294967296) :
    Calls Tryd.prog 18 #[v, .int .i64 m] w fun e w' => (∃ u, e = .returned u ∧ Stand w' v n m ∧ Stand w' u (n + 1) m ∧ (∀ k, u.ownBlock = some k → v.ownBlock = some k ∨ (w.heap.size ≤ k ∧ k < w'.heap.size))) ∧ Ch [v.ownBlock] w w' := by
  obtain ⟨i0, hi, hz0, hz1, hz2⟩ := info_parts infoNodeC
  have hM := hide h
  obtain ⟨a, c, hv, h1, h2, h3⟩ := h.shape
  have vb := hide h.block
  obtain ⟨V, hV⟩ : ∃ V, v.ownBlock = V := ⟨_, rfl⟩
  rw [hV] at vb ⊢
  have hVh := hide hV
  have C0 : Hid (Ch [V] w w) := ⟨rfl, rfl, rfl, Nat.le_refl _, fun _ _ _ => rfl⟩
  subst hv
  clear h h3 hV
  go_enter Tryd.func18, Tryd.ntmps18
  go_wp2
  go_loopw [5] (fun j wr => ∃ k : Nat, k ≤ n ∧ j = .int .i64 k ∧ ∃ ys, Hid (Mine 47 5 wr B (.slice a n c) n ys) ∧ Hid (Mks ys k m) ∧ Hid (Ch [V] w wr)) (fun j _ => n - (intOf j).toNat)
  case atStart => exact ⟨0, Nat.zero_le _, rfl, xs, hM, fun j hj => absurd hj (Nat.not_lt_zero _), C0⟩
  case round =>
    clear C0 hM
    obtain ⟨k, hk, rfl, ys, hY, hK, hC⟩ := hrel
    by_cases hlt : k < n
    · obtain ⟨a', c', e, -, -, q⟩ := hY.out.shape
      cases e
      obtain ⟨g, rfl, hg, cur, hcur, hsz, htk⟩ := q (by omega)
      have i1 : (k : Int) < n := by omega
      have cc : ∀ f, f < 5 → ∃ u, wr.cell? ⟨g, k * 5 + f, none⟩ = some u := fun f hf => by
        rw [cell_of_row wr g _ cur _ (0, 0) hcur]
        exact ⟨_, Array.getElem?_eq_getElem (by omega)⟩
      obtain ⟨x0, c0⟩ := cc 0 (by omega)
      obtain ⟨x1, c1⟩ := cc 1 (by omega)
      obtain ⟨x2, c2⟩ := cc 2 (by omega)
      obtain ⟨x3, c3⟩ := cc 3 (by omega)
      obtain ⟨x4, c4⟩ := cc 4 (by omega)
      rw [Nat.add_zero] at c0
      have fz := fun j => frozen_of_row wr g j cur 47 hcur
      have f0 := fz (k * 5)
      have f1 := fz (k * 5 + 1)
      have f2 := fz (k * 5 + 2)
      have f3 := fz (k * 5 + 3)
      have f4 := fz (k * 5 + 4)
      have hgH := hide hg
      clear hcur hsz htk q hg cc fz
      go_wp2
      refine ⟨⟨k + 1, by omega, by go_num, _, ?_, mks_set hK.out hY.out.len (by omega) (.int .i64 0) (.int .i64 0) (.string ⟨#[109, 97, 114, 107]⟩), ?_⟩, by simp [intOf]; omega⟩
      · exact ((((hY.out.set hgH.out _ _ (by omega)).set hgH.out _ _ (by omega)).set hgH.out _ _ (by omega)).set hgH.out _ _ (by omega)).set hgH.out _ _ (by omega)
      · have e : V = some g := hVh.out.symm.trans hgH.out
        exact ((((hC.out.set e _ _).set e _ _).set e _ _).set e _ _).set e _ _
    · obtain rfl : k = n := by omega
      have i1 : ¬ (k : Int) < k := by omega
      have wz := hC.out.size
      go_wp2_with (at_builtin; (refine wpList_append_kept _ rfl _ _ 43 rfl B 47 i0 (.agg #[.int .i64 0, .int .i64 0, .int .i64 0, .int .i64 0, .string ⟨#[]⟩]) 5 48 sliceNodeC hi hz0 hz1 hz2 rfl (by decide) _ k ys rfl (hY.out.keep (Ch.of_grown (World.grownBy_alloc wr _ none)) (fun _ _ => by simp)) ⟨wr.heap.size, 0, none⟩ [.int .i64 (-1), .int .i64 ((m : Int) + k), .int .i64 0, .int .i64 0, .string ⟨#[]⟩] rfl rfl (five_new _ _ _ _ _ _ _) (by simp [Value.oneCell']) (by unfold maxLen; omega) (by omega) (by simp; omega) ?_; intro g cap w2 o2 M2 at2 gr2; replace o2 := hide o2; replace M2 := hide M2; replace at2 := hide at2; replace gr2 := hide gr2))
      go_ret
      have e := hVh.out
      have C2 : Ch [V] w w2 := by
        have := (hC.out.then ((Below.refl _ wr).alloc (Nat.le_refl _) _)).trans (Ch.of_grown gr2.out)
        refine this.weak (fun x hx => ?_)
        rcases List.mem_append.1 hx with hx | hx
        · exact hx
        · rw [List.mem_singleton] at hx ⊢
          exact hx.trans e
      refine ⟨⟨_, rfl, M2.out.stand hK.out, (Mine.own o2.out).stand (mks_snoc hK.out hY.out.len _ _ _), fun j hj => ?_⟩, C2⟩
      obtain rfl : g = j := by simpa [Value.ownBlock] using hj
      have hlt2 := ((Mine.own o2.out).block g rfl).2
      rcases at2.out with q | q
      · exact .inl (e.symm.trans q)
      · exact .inr ⟨by simp at q; omega, hlt2⟩
set_option maxRecDepth 100000 in
set_option maxHeartbeats 4000000 in
theorem stands_calls (w : World) (v : Value) (n m : Nat) (h : Stand w v n m) (hn : n ≤ 4294967298) (hm : m ≤ 4294967296) :
    Calls Tryd.prog 20 #[v, .int .i64 m] w fun e w' => e = .returned (.bool true) ∧ Below w.heap.size w w' := by
  obtain ⟨a, c, rfl, h1, h2, h3⟩ := h
  replace h3 := hide h3
  have B0 : Hid (Below w.heap.size w w) := Below.refl _ w
  go_enter Tryd.func20, Tryd.ntmps20
  go_wp2
  go_loopw [5] (fun j wr => ∃ k : Nat, k ≤ n ∧ j = .int .i64 k ∧ Hid (Below w.heap.size w wr)) (fun j _ => n - (intOf j).toNat)
  case atStart => exact ⟨0, Nat.zero_le _, rfl, B0⟩
  case round =>
    clear B0
    obtain ⟨k, hk, rfl, hB⟩ := hrel
    by_cases hlt : k < n
    · obtain ⟨g, rfl, hc⟩ := h3.out (by omega)
      obtain ⟨c0, c1⟩ := hc k hlt
      have hg : g < w.heap.size := World.block_lt_of_cell? w _ c0
      have d0 := (hB.out.cell (p := ⟨g, _, none⟩) hg).trans c0
      have d1 := (hB.out.cell (p := ⟨g, _, none⟩) hg).trans c1
      have i1 : (k : Int) < n := by omega
      clear hc c0 c1 hg
      go_wp2
      go_roundw
      case rel => exact ⟨k + 1, by omega, by go_num, hB⟩
      case measure => simp [intOf]; omega
    · have i1 : ¬ (k : Int) < n := by omega
      go_wp2
      go_ret
      exact ⟨rfl, hB.out⟩
set_option maxRecDepth 100000 in
set_option maxHeartbeats 4000000 in
theorem numbers_calls (w : World) (B : Nat) (v : Value) (n : Nat) (xs : List Value) (h : Mine 3 1 w B v n xs) (hB : B ≤ w.heap.size) (hn : n ≤ 4294967298) (m : Nat) (hm : m ≤ 4294967296) :
    Calls Tryd.prog 19 #[v, .int .i64 m] w fun e w' => (∃ u, e = .returned u ∧ Count w' v n m ∧ Count w' u (n + 1) m ∧ (∀ k, u.ownBlock = some k → v.ownBlock = some k ∨ (w.heap.size ≤ k ∧ k < w'.heap.size))) ∧ Ch [v.ownBlock] w w' := by
  obtain ⟨i0, hi, hz0, hz1, hz2⟩ := info_parts ndInfoInt
  have hM := hide h
  obtain ⟨a, c, hv, h1, h2, h3⟩ := h.shape
  have vb := hide h.block
  obtain ⟨V, hV⟩ : ∃ V, v.ownBlock = V := ⟨_, rfl⟩
  rw [hV] at vb ⊢
  have hVh := hide hV
  have C0 : Hid (Ch [V] w w) := ⟨rfl, rfl, rfl, Nat.le_refl _, fun _ _ _ => rfl⟩
  subst hv
  clear h h3 hV
  go_enter Tryd.func19, Tryd.ntmps19
  go_wp2
  go_loopw [5] (fun j wr => ∃ k : Nat, k ≤ n ∧ j = .int .i64 k ∧ ∃ ys, Hid (Mine 3 1 wr B (.slice a n c) n ys) ∧ Hid (Cts ys k m) ∧ Hid (Ch [V] w wr)) (fun j _ => n - (intOf j).toNat)
  case atStart => exact ⟨0, Nat.zero_le _, rfl, xs, hM, fun j hj => absurd hj (Nat.not_lt_zero _), C0⟩
  case round =>
    clear C0 hM
    obtain ⟨k, hk, rfl, ys, hY, hK, hC⟩ := hrel
    by_cases hlt : k < n
    · obtain ⟨a', c', e, -, -, q⟩ := hY.out.shape
      cases e
      obtain ⟨g, rfl, hg, cur, hcur, hsz, htk⟩ := q (by omega)
      have i1 : (k : Int) < n := by omega
      obtain ⟨x0, c0⟩ : ∃ u, wr.cell? ⟨g, k, none⟩ = some u := by
        rw [cell_of_row wr g _ cur _ (0, 0) hcur]
        exact ⟨_, Array.getElem?_eq_getElem (by omega)⟩
      have f0 := frozen_of_row wr g k cur 3 hcur
      have hgH := hide hg
      clear hcur hsz htk q hg
      go_wp2
      refine ⟨⟨k + 1, by omega, by go_num, _, ?_, cts_set hK.out hY.out.len (by omega), ?_⟩, by simp [intOf]; omega⟩
      · exact hY.out.set hgH.out _ _ (by omega)
      · exact hC.out.set (hVh.out.symm.trans hgH.out) _ _
    · obtain rfl : k = n := by omega
      have i1 : ¬ (k : Int) < k := by omega
      have wz := hC.out.size
      go_wp2_with (at_builtin; (refine wpList_append_kept _ rfl _ _ 53 rfl B 3 i0 (.int .i64 0) 1 8 ndSliceInt hi hz0 hz1 hz2 rfl (by decide) _ k ys rfl (hY.out.keep (Ch.of_grown (World.grownBy_alloc wr _ none)) (fun _ _ => by simp)) ⟨wr.heap.size, 0, none⟩ [.int .i64 ((m : Int) + k)] rfl rfl (cell_one_new _ _ _) (by simp [Value.oneCell']) (by unfold maxLen; omega) (by omega) (by simp; omega) ?_; intro g cap w2 o2 M2 at2 gr2; replace o2 := hide o2; replace M2 := hide M2; replace at2 := hide at2; replace gr2 := hide gr2))
      go_ret
      have e := hVh.out
      have C2 : Ch [V] w w2 := by
        have := (hC.out.then ((Below.refl _ wr).alloc (Nat.le_refl _) _)).trans (Ch.of_grown gr2.out)
        refine this.weak (fun x hx => ?_)
        rcases List.mem_append.1 hx with hx | hx
        · exact hx
        · rw [List.mem_singleton] at hx ⊢
          exact hx.trans e
      refine ⟨⟨_, rfl, M2.out.count hK.out, (Mine.own o2.out).count (cts_snoc hK.out hY.out.len), fun j hj => ?_⟩, C2⟩
      obtain rfl : g = j := by simpa [Value.ownBlock] using hj
      have hlt2 := ((Mine.own o2.out).block g rfl).2
      rcases at2.out with q | q
      · exact .inl (e.symm.trans q)
      · exact .inr ⟨by simp at q; omega, hlt2⟩
set_option maxRecDepth 100000 in
set_option maxHeartbeats 4000000 in
theorem counted_calls (w : World) (v : Value) (n m : Nat) (h : Count w v n m) (hn : n ≤ 4294967298) (hm : m ≤ 4294967296) :
    Calls Tryd.prog 21 #[v, .int .i64 m] w fun e w' => e = .returned (.bool true) ∧ Below w.heap.size w w' := by
  obtain ⟨a, c, rfl, h1, h2, h3⟩ := h
  replace h3 := hide h3
  have B0 : Hid (Below w.heap.size w w) := Below.refl _ w
  go_enter Tryd.func21, Tryd.ntmps21
  go_wp2
  go_loopw [5] (fun j wr => ∃ k : Nat, k ≤ n ∧ j = .int .i64 k ∧ Hid (Below w.heap.size w wr)) (fun j _ => n - (intOf j).toNat)
  case atStart => exact ⟨0, Nat.zero_le _, rfl, B0⟩
  case round =>
    clear B0
    obtain ⟨k, hk, rfl, hB⟩ := hrel
    by_cases hlt : k < n
    · obtain ⟨g, rfl, hc⟩ := h3.out (by omega)
      have c0 := hc k hlt
      have hg : g < w.heap.size := World.block_lt_of_cell? w _ c0
      have d0 := (hB.out.cell (p := ⟨g, _, none⟩) hg).trans c0
      have i1 : (k : Int) < n := by omega
      clear hc c0 hg
      go_wp2
      go_roundw
      case rel => exact ⟨k + 1, by omega, by go_num, hB⟩
      case measure => simp [intOf]; omega
    · have i1 : ¬ (k : Int) < n := by omega
      go_wp2
      go_ret
      exact ⟨rfl, hB.out⟩
end Go.Proofs.YtjbalgjdcdmjjaaDoor
/- ==== KeptRead ==== -/
namespace Go.Proofs.YtjbalgjdcdmjjaaDoor
open Go.RowKit
set_option linter.unusedVariables false
theorem OwnN.mine {B : Nat} {w : World} {v : Value} {ns : List X.N} (h : OwnN B w v ns) : Mine 47 5 w B v ns.length (nsCells ns) := Mine.own h
theorem OwnN.cutM {B : Nat} {w : World} {g L c : Nat} {ns : List X.N} (h : OwnN B w (.slice (some ⟨g, 0, none⟩) L c) ns) (F : Nat) (hF : F ≤ ns.length) :
    Mine 47 5 w B (.slice (some ⟨g, 0, none⟩) F F) (ns.take F).length (nsCells (ns.take F)) := by
  have hl : (ns.take F).length = F := by rw [List.length_take, Nat.min_eq_left hF]
  rw [hl]
  refine ⟨some ⟨g, 0, none⟩, c, ⟨by rw [nsCells_length, hl], ?_⟩, .inr rfl⟩
  rcases id h.2 with ⟨e, _⟩ | ⟨g', cap, cur, e, hB, hb, q1, q2, q3, q4⟩
  · cases e
  · cases e
    refine .inr ⟨g, c, cur, rfl, hB, hb, by omega, q2, q3, ?_⟩
    have e2 : nsCells ns = nsCells (ns.take F) ++ nsCells (ns.drop F) := by rw [← nsCells_append, List.take_append_drop]
    have := congrArg (List.take (F * 5)) q4
    rw [List.take_take, Nat.min_eq_left (by omega), e2, List.take_left' (by rw [nsCells_length, hl])] at this
    exact this
set_option maxRecDepth 100000 in
set_option maxHeartbeats 1000000 in
theorem sexpReadO_calls (w : World) (hc : Cls w) (s : ByteArray) (l : List UInt8) (hs : s.data.toList = l) (hl : l.length ≤ 1073741824) (o : List X.N × Nat × Nat) (ho : o = X.out (S.run resv .idle l 0).1 (S.run resv .idle l 0).2.1 (S.run resv .idle l 0).2.2) :
    Calls Tryd.prog 15 #[.string s] w fun e w' => ∃ v, e = .returned (.tuple #[v, .int .i64 o.2.1, .int .i64 o.2.2]) ∧ Mine 47 5 w' w.heap.size v o.1.length (nsCells o.1) ∧ Below w.heap.size w w' := by
  obtain ⟨i0, hi, hz0, hz1, hz2⟩ := info_parts infoNode
  obtain ⟨i1, hj, hy0, hy1, hy2⟩ := info_parts infoInt
  have q0 := hide (tokens_calls w hc s l hs (by omega))
  have hm := run_many l
  obtain ⟨O, hO⟩ : ∃ O, S.run resv .idle l 0 = O := ⟨_, rfl⟩
  rw [hO] at q0 hm ho
  obtain ⟨ts, e, p⟩ := O
  simp only at q0 hm ho
  obtain ⟨n, hn⟩ : ∃ n, ts.length = n := ⟨_, rfl⟩
  rw [hn] at hm
  have hn1 : n ≤ 4294967298 := by omega
  have hnH := hide hn
  have hoH := hide ho
  clear hc hs hl hO hm hn ho
  go_enter Tryd.func15, Tryd.ntmps15
  go_wp2_with (first
    | (go_at_call 38; refine q0.out.mono ?_; rintro x w1 ⟨v1, rfl, u1, b1⟩; have t1 := hide (ownsRow.trow u1); obtain ⟨a1, cp1, rfl, n1, n1'⟩ := t1.out.shape; simp only [hnH.out] at n1 t1; rw [hnH.out]; replace b1 := hide b1; clear u1 q0)
    | (at_make; refine wpList_make_own _ rfl _ _ 43 rfl w1.heap.size 47 i0 _ 5 sliceNode hi hz0 hz1 .i64 .i64 _ n rfl rfl rfl (by rw [hz2]; omega) (by unfold maxLen; omega) (Nat.le_refl _) ?_; intro w2 hown0 hgrow0; have B2 : Hid (Below w1.heap.size w1 w2) := (Below.refl _ w1).grown hgrow0 (Nat.le_refl _) (by simp); have O2 : Hid (OwnN w1.heap.size w2 _ []) := hown0; clear hown0 hgrow0))
  have K2 : Hid (OwnK w1.heap.size w2 (.slice none 0 0) []) := World.ownsRow_nil _ _ _ _
  have P2 : Hid (PrAt ts 0 [] []) := ⟨rfl, Nat.le_refl _, Nat.le_refl _, fun g hg => by simp at hg⟩
  go_loopw [8, 9, 25] (fun v u j wr => ∃ (k : Nat) (ns : List X.N) (st : List Nat), k ≤ n ∧ j = .int .i64 k ∧ Hid (PrAt ts k ns st) ∧ Hid (OwnN w1.heap.size wr v ns) ∧ Hid (OwnK w1.heap.size wr u st) ∧ Hid (Below w1.heap.size w1 wr)) (fun _ _ j _ => n - (intOf j).toNat)
  case atStart => exact ⟨0, [], [], Nat.zero_le _, rfl, P2, O2, K2, B2⟩
  case round =>
    clear P2 O2 K2 B2
    obtain ⟨k, ns, st, hk, rfl, hP, hN, hK, hB⟩ := hrel
    have hwz : w1.heap.size ≤ wr.heap.size := hB.out.size
    obtain ⟨va, vc, hv⟩ := own_shape (ownsRow_zero hN.out)
    subst hv
    obtain ⟨ua, uc, hu⟩ := own_shape (ownsRow_zero hK.out)
    subst hu
    obtain ⟨L, hL⟩ : ∃ L, ns.length = L := ⟨_, rfl⟩
    obtain ⟨M, hM⟩ : ∃ M, st.length = M := ⟨_, rfl⟩
    have hLk : L ≤ k := by rw [← hL]; exact hP.out.2.1
    have hMk : M ≤ k := by rw [← hM]; exact hP.out.2.2.1
    have hN2 := hN.out
    unfold OwnN at hN2
    rw [hL] at hN2 hN ⊢
    replace hN2 := hide hN2
    have hK2 := hK.out
    unfold OwnK at hK2
    rw [hM] at hK2 hK ⊢
    replace hK2 := hide hK2
    have hLh := hide hL
    have hMh := hide hM
    clear hL hM
    by_cases hlt : k < n
    · have hkl : k < ts.length := by rw [hnH.out]; exact hlt
      obtain ⟨b, off, rfl, x0, x1, x2, x3⟩ := (t1.out.below hB.out).at_ hkl
      have ed := tok_split ts k hkl
      have hP1 := hP.out.1
      rw [ed] at hP1
      generalize ts.getD k tk0 = t at x0 x1 x2 x3 hP1
      obtain ⟨tk, tb, tf, tx⟩ := t
      simp only at x0 x1 x2 x3
      have ik : (k : Int) < n := by omega
      clear ed
      generalize hR : X.pr ts [] [] = R at hP1
      unfold X.pr at hP1
      simp only at hP1
      subst hR
      by_cases h1 : tk = 1
      · subst h1
        rw [if_pos rfl] at hP1
        have hP2 : Hid (PrAt ts (k + 1) (ns ++ [X.newL ⟨1, tb, tf, tx⟩]) (L :: st)) := by
          have hLe := hLh.out
          have hMe := hMh.out
          refine ⟨by rw [← hLh.out]; exact hP1, by simp; omega, by simp; omega, ?_⟩
          intro g hg
          rw [List.length_append, List.length_singleton]
          rcases List.mem_cons.1 hg with rfl | hg
          · omega
          · have := hP.out.2.2.2 g hg
            omega
        clear hP1 hP
        have QA : Hid True := trivial
        go_wp2_with (first
          | (at_builtin; have y := QA; clear y; (refine wpList_append_own _ rfl _ _ 53 rfl w1.heap.size 3 i1 (.int .i64 0) 1 8 sliceInt hj hy0 hy1 hy2 rfl (by decide) _ M _ rfl ((hK2.out.alloc _).alloc _) ⟨wr.heap.size + 1, 0, none⟩ 1 1 [.int .i64 (L : Int)] rfl rfl (one_new' _ _ _) (by simp [Value.oneCell']) (by unfold maxLen; omega) (by omega) (by simp; omega) ?_; intro u3 w3 o3 g3 _; have N3 := hide (((hN2.out.alloc _).alloc _).kept g3 (own_apart hN.out hK.out)); have z3 := g3.size; simp at z3; have c3 := cell_of_row _ _ 1 _ _ (0, 0) (grown_first hK2.out _ _ _ g3); simp at c3; replace o3 := hide o3; replace g3 := hide g3; clear QA))
          | (at_builtin; (refine wpList_append_own _ rfl _ _ 43 rfl w1.heap.size 47 i0 (.agg #[.int .i64 0, .int .i64 0, .int .i64 0, .int .i64 0, .string ⟨#[]⟩]) 5 48 sliceNode hi hz0 hz1 hz2 rfl (by decide) _ L _ rfl (N3.out.alloc _) ⟨w3.heap.size, 0, none⟩ 1 1 [.int .i64 1, .int .i64 (tb : Int), .int .i64 0, .int .i64 0, .string ⟨#[]⟩] rfl rfl (five_new _ _ _ _ _ _ _) (by simp [Value.oneCell']) (by unfold maxLen; omega) (by omega) (by simp; omega) ?_; intro v4 w4 o4 g4 _; replace o4 := hide o4; replace g4 := hide g4)))
        have K3 : OwnK w1.heap.size w3 u3 (L :: st) := OwnK.push hMh.out o3.out
        have N3' : OwnN w1.heap.size w3 (.slice va L vc) ns := by unfold OwnN; rw [hLh.out]; exact N3.out
        refine ⟨⟨k + 1, _, _, by omega, by go_num, hP2, OwnN.snoc hLh.out o4.out, (World.ownsRow.alloc K3 _).kept g4.out (own_apart' N3' K3), ((((hB.out.alloc hwz _).alloc (by simp; omega) _).grown g3.out (by simp; omega) (fun g hg => (hK2.out.lt g hg).1)).alloc (by omega) _).grown g4.out (by simp; omega) (fun g hg => (hN2.out.lt g hg).1)⟩, by simp [intOf]; omega⟩
      · by_cases h2 : tk = 2
        · subst h2
          rw [if_neg (by decide), if_pos rfl] at hP1
          cases st with
          | nil =>
            have hM0 : M = 0 := by have := hMh.out; simpa using this.symm
            subst hM0
            have out : Hid (o = (ns, 20, tb)) := by
              have h1 := hoH.out
              unfold X.out at h1
              rw [← hP1] at h1
              exact h1
            have B4 := hide ((Below.refl _ wr).alloc (Nat.le_refl _) (.cells #[.int .i64 2, .int .i64 (tb : Int), .int .i64 (tf : Int), .string ⟨tx.toArray⟩] 66))
            clear hP1 hP h1
            go_wp2
            go_quiet (fail)
            go_wp2
            refine bodyPost_ret (v := .tuple #[.slice va L vc, .int .i64 20, .int .i64 (tb : Int)]) (by simp [results, Tryd.results15, go_sem]) rfl ?_
            have B5 := below_drewN B4.out 0
            exact ⟨_, by rw [out.out]; rfl, by rw [out.out]; exact (hN.out.mine.below (below_drewN B4.out _)).base b1.out.size, b1.out.trans ((hB.out.trans ((below_drewN B4.out _).mono hwz)).mono b1.out.size)⟩
          | cons g st' =>
            simp only at hP1
            have hgl := hP.out.2.2.2 g List.mem_cons_self
            obtain ⟨gk, kc, ek, q1, q2, q3, q4, ctop, kpop, clast⟩ := hK.out.top
            obtain ⟨gn, nc, en, r1, r2, r3, r4, fz, c0, c1, c2, c3, c4, nset⟩ := hN.out.at_ (j := g) hgl
            rw [hLh.out] at en r1 hgl
            obtain ⟨Q, hQ⟩ : ∃ Q, st'.length = Q := ⟨_, rfl⟩
            rw [hQ] at ek q1 ctop kpop
            cases ek
            cases en
            have hP2 : Hid (PrAt ts (k + 1) (X.shutL ns g tf) st') := by
              have hLe := hLh.out
              have hPo := hP.out
              refine ⟨hP1, by simp [X.shutL]; omega, by omega, ?_⟩
              intro g' hg'
              have := hPo.2.2.2 g' (List.mem_cons_of_mem _ hg')
              simpa [X.shutL] using this
            have B4 := (Below.refl _ wr).alloc (Nat.le_refl _) (.cells #[.int .i64 2, .int .i64 (tb : Int), .int .i64 (tf : Int), .string ⟨tx.toArray⟩] 66)
            have nset2 : Hid (OwnN w1.heap.size ((wr.setCell ⟨gn, g * 5 + 3, none⟩ (.int .i64 ((L - g : Nat) : Int))).setCell ⟨gn, g * 5 + 2, none⟩ (.int .i64 (tf : Int))) (.slice (some ⟨gn, 0, none⟩) L vc) (X.shutL ns g tf)) := by
              have := nset tf (L - g)
              unfold X.shutL
              rw [hLh.out]
              exact this
            clear nset clast c0 c1 c4
            replace ctop := (B4.cell (p := ⟨gk, _, none⟩) q4).trans ctop
            have c2a := (B4.cell (p := ⟨gn, _, none⟩) r4).trans c2
            have c3a := (B4.cell (p := ⟨gn, _, none⟩) r4).trans c3
            have f2 := fz (g * 5 + 2)
            have f3 := fz (g * 5 + 3)
            clear fz
            have gi : (g : Int) < L := by omega
            replace kpop := hide kpop
            replace B4 := hide B4
            clear hP1 hP h1
            go_wp2
            go_region
            have eLg : ((L - g : Nat) : Int) = (L : Int) - g := by omega
            rw [eLg] at nset2
            have hap := own_apart' hN.out hK.out
            simp only [Value.ownBlock, reduceCtorEq, false_or] at hap
            have kk : ∀ u1 u2, OwnK w1.heap.size ((wr.setCell ⟨gn, g * 5 + 3, none⟩ u1).setCell ⟨gn, g * 5 + 2, none⟩ u2) (.slice (some ⟨gk, 0, none⟩) Q uc) st' := fun u1 u2 => World.ownsRow.kept (World.ownsRow.kept kpop.out (set_grown _ _ _ _) (.inr hap)) (set_grown _ _ _ _) (.inr hap)
            have bb : ∀ u1 u2, Below w1.heap.size w1 ((wr.setCell ⟨gn, g * 5 + 3, none⟩ u1).setCell ⟨gn, g * 5 + 2, none⟩ u2) := fun u1 u2 => (hB.out.setCell r3 _).setCell r3 _
            have kk' := hide (kk (.int .i64 ((L : Int) - g)) (.int .i64 (tf : Int)))
            have bb' := hide (bb (.int .i64 ((L : Int) - g)) (.int .i64 (tf : Int)))
            clear kk bb hap
            go_wp2
            refine ⟨⟨k + 1, _, _, by omega, by go_num, hP2, World.ownsRow.alloc nset2.out _, World.ownsRow.alloc kk'.out _, (bb'.out.alloc bb'.out.size _).drew⟩, by simp [intOf]; omega⟩
        · rw [if_neg h1, if_neg h2] at hP1
          have hP2 : Hid (PrAt ts (k + 1) (ns ++ [X.atom ⟨tk, tb, tf, tx⟩]) st) := by
            have hLe := hLh.out
            have hMe := hMh.out
            refine ⟨hP1, by simp; omega, by omega, ?_⟩
            intro g hg
            rw [List.length_append, List.length_singleton]
            have := hP.out.2.2.2 g hg
            omega
          have k1 : ¬ (tk : Int) = 1 := by omega
          have k2 : ¬ (tk : Int) = 2 := by omega
          clear hP1 hP h1 h2
          go_wp2_with (at_builtin; (refine wpList_append_own _ rfl _ _ 43 rfl w1.heap.size 47 i0 (.agg #[.int .i64 0, .int .i64 0, .int .i64 0, .int .i64 0, .string ⟨#[]⟩]) 5 48 sliceNode hi hz0 hz1 hz2 rfl (by decide) _ L _ rfl ((hN2.out.alloc _).alloc _) ⟨wr.heap.size + 1, 0, none⟩ 1 1 [.int .i64 (tk : Int), .int .i64 (tb : Int), .int .i64 (tf : Int), .int .i64 1, .string ⟨tx.toArray⟩] rfl rfl (five_new' _ _ _ _ _ _ _) (by simp [Value.oneCell']) (by unfold maxLen; omega) (by omega) (by simp; omega) ?_; intro v4 w4 o4 g4 _; replace o4 := hide o4; replace g4 := hide g4))
          refine ⟨⟨k + 1, _, _, by omega, by go_num, hP2, OwnN.snoc hLh.out o4.out, World.ownsRow.kept (World.ownsRow.alloc (World.ownsRow.alloc hK.out _) _) g4.out (own_apart' hN.out hK.out), ((hB.out.alloc hwz _).alloc (by simp; omega) _).grown g4.out (by simp; omega) (fun g hg => (hN2.out.lt g hg).1)⟩, by simp [intOf]; omega⟩
    · have ik : ¬ (k : Int) < n := by omega
      have hkn : k = n := by omega
      have hP1 := hP.out.1
      rw [List.drop_eq_nil_of_le (by rw [hnH.out]; omega)] at hP1
      generalize hR : X.pr ts [] [] = R at hP1
      unfold X.pr at hP1
      subst hP1
      cases st with
      | nil =>
        have hM0 : M = 0 := by have := hMh.out; simpa using this.symm
        subst hM0
        have out : Hid (o = (ns, e, p)) := by
          have h1 := hoH.out
          unfold X.out at h1
          rw [hR] at h1
          exact h1
        clear hR
        go_wp2
        refine bodyPost_ret (v := .tuple #[.slice va L vc, .int .i64 (e : Int), .int .i64 (p : Int)]) (by simp [results, Tryd.results15, go_sem]) rfl ?_
        exact ⟨_, by rw [out.out], by rw [out.out]; exact hN.out.mine.base b1.out.size, b1.out.trans (hB.out.mono b1.out.size)⟩
      | cons g st' =>
        obtain ⟨gk, kc, ek, q1, q2, q3, q4, ctop, kpop, clast⟩ := hK.out.top
        obtain ⟨F, hF⟩ : ∃ F, (g :: st').getLastD 0 = F := ⟨_, rfl⟩
        have hFm : F ∈ g :: st' := by
          rw [← hF, List.getLastD_eq_getLast?, List.getLast?_eq_some_getLast (by simp)]
          exact List.getLast_mem (by simp)
        have hFl := hP.out.2.2.2 F hFm
        obtain ⟨gn, nc, en, r1, r2, r3, r4, fz, c0, c1, c2, c3, c4, nset⟩ := hN.out.at_ (j := F) hFl
        rw [hLh.out] at en r1 hFl
        rw [hF] at clast
        obtain ⟨Q, hQ⟩ : ∃ Q, st'.length = Q := ⟨_, rfl⟩
        rw [hQ] at ek q1 ctop kpop
        cases ek
        cases en
        have out : Hid (o = (ns.take F, if e = 0 then 21 else e, if e = 0 then (ns.getD F X.n0).beg else p)) := by
          have h1 := hoH.out
          unfold X.out at h1
          rw [hR] at h1
          simp only [hF] at h1
          exact h1
        have fr := hide (hN.out.cutM F (by rw [hLh.out]; omega))
        clear hR nset c0 c2 c3 c4 fz ctop kpop
        have gi : (F : Int) < L := by omega
        have gz : ¬ ((Q : Int) + 1 = 0) := by omega
        by_cases he : e = 0
        · subst he
          go_wp2
          go_quiet (fail)
          go_wp2
          refine bodyPost_ret (v := .tuple #[.slice (some ⟨gn, 0, none⟩) F F, .int .i64 21, .int .i64 ((ns.getD F X.n0).beg : Int)]) (by simp [results, Tryd.results15, go_sem]) rfl ?_
          exact ⟨_, by rw [out.out]; rfl, by rw [out.out]; exact (fr.out.below (below_drewN (Below.refl _ _) _)).base b1.out.size, b1.out.trans ((below_drewN hB.out _).mono b1.out.size)⟩
        · have he1 : ¬ (e : Int) = 0 := by omega
          go_wp2
          refine bodyPost_ret (v := .tuple #[.slice (some ⟨gn, 0, none⟩) F F, .int .i64 (e : Int), .int .i64 (p : Int)]) (by simp [results, Tryd.results15, go_sem]) rfl ?_
          exact ⟨_, by rw [out.out, if_neg he, if_neg he], by rw [out.out]; exact fr.out.base b1.out.size, b1.out.trans (hB.out.mono b1.out.size)⟩
end Go.Proofs.YtjbalgjdcdmjjaaDoor
/- ==== KeptKids ==== -/
namespace Go.Proofs.YtjbalgjdcdmjjaaDoor
open Go.RowKit Go.Shelf
set_option linter.unusedVariables false
attribute [local go_sem] Oper.semAt_some
set_option maxRecDepth 100000 in
set_option maxHeartbeats 2000000 in
theorem kidsO_calls (w : World) (B : Nat) (v : Value) (ns : List Nd) (h : Nds B w v ns) (hB : B ≤ w.heap.size) (i : Int) :
    Calls Tryd.prog 16 #[v, .int .i64 i] w fun e w' => (∃ r, e = .returned (.tuple #[r, .int .i64 (kidsC ns i)]) ∧ OwnS w' w.heap.size r (kidsX ns i)) ∧ Below w.heap.size w w' := by
  have hN := hide h
  have hFo := hide (forest_calls w B v ns h hB)
  obtain ⟨a, cap, rfl, h1, ⟨h2, h2'⟩, h3, h4⟩ := h
  clear h3 h4
  cases hf : forestB ns
  · have e1 : Hid (kidsC ns i = 22) := by unfold Hid kidsC; rw [hf]; rfl
    have e2 : Hid (kidsX ns i = []) := by unfold Hid kidsX; rw [hf]; simp
    rw [hf] at hFo
    go_enter Tryd.func16, Tryd.ntmps16
    go_wp2_with (go_at_call 31; refine (hFo.out).mono ?_; rintro e w5 ⟨rfl, b5⟩; replace b5 := hide b5)
    go_ret2
    exact ⟨⟨.slice none 0 0, by rw [e1.out]; rfl, by rw [e2.out]; exact World.ownsRow_nil _ _ _ _⟩, b5.out⟩
  rw [hf] at hFo
  have hS := hide (forest_sizes hf)
  by_cases hlo : i < -1
  · have e1 : Hid (kidsC ns i = 30) := by unfold Hid kidsC; rw [hf, if_pos rfl, if_neg (by omega)]
    have e2 : Hid (kidsX ns i = []) := by unfold Hid kidsX; rw [if_neg (by omega)]
    go_enter Tryd.func16, Tryd.ntmps16
    go_wp2_with (go_at_call 31; refine (hFo.out).mono ?_; rintro e w5 ⟨rfl, b5⟩; replace b5 := hide b5)
    go_ret2
    exact ⟨⟨.slice none 0 0, by rw [e1.out]; rfl, by rw [e2.out]; exact World.ownsRow_nil _ _ _ _⟩, b5.out⟩
  by_cases hhi : (ns.length : Int) ≤ i
  · have e1 : Hid (kidsC ns i = 30) := by unfold Hid kidsC; rw [hf, if_pos rfl, if_neg (by omega)]
    have e2 : Hid (kidsX ns i = []) := by unfold Hid kidsX; rw [if_neg (by omega)]
    go_enter Tryd.func16, Tryd.ntmps16
    go_wp2_with (go_at_call 31; refine (hFo.out).mono ?_; rintro e w5 ⟨rfl, b5⟩; replace b5 := hide b5)
    go_ret2
    exact ⟨⟨.slice none 0 0, by rw [e1.out]; rfl, by rw [e2.out]; exact World.ownsRow_nil _ _ _ _⟩, b5.out⟩
  have e1 : Hid (kidsC ns i = 0) := by unfold Hid kidsC; rw [hf, if_pos rfl, if_pos (by omega)]
  have e2 : Hid (kidsX ns i = (kidsL ns i).map (fun n : Nat => (n : Int))) := by unfold Hid kidsX; rw [if_pos ⟨hf, by omega⟩]
  obtain ⟨i0, hi, hz0, hz1, hz2⟩ := info_parts ndInfoInt
  refine (callsIn_wide (n := 4)).1 ?_
  by_cases hneg : i < 0
  · obtain rfl : i = -1 := by omega
    refine callsIn_of_wp_marks Tryd.func16 rfl trivial ?_ rfl
    simp only [Tryd.ntmps16, List.size_toArray, List.length_cons, List.length_nil, Nat.reduceAdd, Nat.reduceSub, Array.replicate_succ, Array.replicate_zero, List.push_toArray, List.append_toArray, List.nil_append, List.cons_append]
    gi_wp2_with (first
      | (refine ⟨trivial, ?_⟩; gi_at_call 31; refine (callsIn_wide.2 hFo.out).mono ?_; rintro e w5 ⟨rfl, b5⟩; replace b5 := hide b5)
      | (refine ⟨trivial, ?_⟩; gi_at_call 32; refine (standing_in Fence.wide _ trivial rfl _ _ _ _ _ _).mono ?_; rintro e w' ⟨rfl, rfl⟩))
    have hs5 := b5.out.size
    have bO := (((Boxed.new w5 53 (.slice none 0 0)).alloc (.cells #[.slice a ns.length cap] 43)).alloc (.cells #[.int .i64 0] 3)).alloc (.cells #[.int .i64 ns.length] 3)
    have b1 := ((Boxed.new (w5.alloc (.cells #[.slice none 0 0] 53)) 43 (.slice a ns.length cap)).alloc (.cells #[.int .i64 0] 3)).alloc (.cells #[.int .i64 ns.length] 3)
    have b2 := (Boxed.new ((w5.alloc (.cells #[.slice none 0 0] 53)).alloc (.cells #[.slice a ns.length cap] 43)) 3 (.int .i64 0)).alloc (.cells #[.int .i64 ns.length] 3)
    have b3 := Boxed.new (((w5.alloc (.cells #[.slice none 0 0] 53)).alloc (.cells #[.slice a ns.length cap] 43)).alloc (.cells #[.int .i64 0] 3)) 3 (.int .i64 ns.length)
    have hB0 : Below w5.heap.size w5 ((((w5.alloc (.cells #[.slice none 0 0] 53)).alloc (.cells #[.slice a ns.length cap] 43)).alloc (.cells #[.int .i64 0] 3)).alloc (.cells #[.int .i64 ns.length] 3)) := ((((Below.refl _ w5).alloc (Nat.le_refl _) _).alloc (by simp) _).alloc (by simp; omega) _).alloc (by simp; omega) _
    have hW0 : ((((w5.alloc (.cells #[.slice none 0 0] 53)).alloc (.cells #[.slice a ns.length cap] 43)).alloc (.cells #[.int .i64 0] 3)).alloc (.cells #[.int .i64 ns.length] 3)).heap.size = w5.heap.size + 4 := by simp
    simp only [World.size_alloc] at b1 b2 b3
    generalize hX : (((w5.alloc (.cells #[.slice none 0 0] 53)).alloc (.cells #[.slice a ns.length cap] 43)).alloc (.cells #[.int .i64 0] 3)).alloc (.cells #[.int .i64 ns.length] 3) = X at *
    clear hX
    refine wpIn_rangeFunc_ownG rfl (by omega) (gf := 53) (lb := #[.pointer (some ⟨w5.heap.size + 1 + 1, 0, none⟩), .pointer (some ⟨w5.heap.size + 1 + 2, 0, none⟩), .pointer (some ⟨w5.heap.size + 1, 0, none⟩)]) rfl trivial (enters_of Tryd.func53 (by kernel_rfl) rfl)
      (stand_stops Fence.wide _ trivial rfl (by omega) (w5.heap.size + 1) w5.heap.size _ _ _ ns hS.out 0 ns.length (Nat.le_refl _) X (by omega) (by omega) b1.cell (by exact b2.cell) (by exact b3.cell) ((hN.out.below (b5.out.mono hB)).mono (by omega) |>.below hB0)) KpS_t (KpS_b (by omega) (by omega)) (Below.refl _ _) (fun _ => rfl)
      (fun pre W => (∃ v, Boxed W w5.heap.size 53 v ∧ W.ownsRow (w5.heap.size + 4) 3 1 v pre.length (pre.map (fun n : Nat => Value.int .i64 (n : Int))) ∧ True) ∧ (Below w5.heap.size w5 W ∧ w5.heap.size + 4 ≤ W.heap.size))
      (fun _ _ _ => False)
      (OwnFrom.and (Own.from (holdsRow_own (w5.heap.size + 4) w5.heap.size 53 3 1 (fun pre : List Nat => pre.length) (fun pre : List Nat => pre.map (fun n : Nat => Value.int .i64 (n : Int))) (fun _ _ => True)) _) (OwnFrom.and (ownFrom_below (Nat.le_refl _) (by omega)) (fun s W W' row h hg _ => Nat.le_trans h hg.size)))
      (fun _ _ _ _ _ hs _ _ => hs)
      ⟨⟨_, bO, World.ownsRow_nil _ _ _ _, trivial⟩, hB0, by omega⟩
      (fun x => { tmps := #[.slice a ns.length cap, .int .i64 (-1), undef, undef, .slice none 0 0, .int .i64 0, .int .i64 ns.length, .pointer (some ⟨w5.heap.size, 0, none⟩), .int .i64 (x : Int), .slice a ns.length cap, .bool true, .bool false, .int .i64 (-1), .bool false, .bool false, .int .i64 (-1), .slice a ns.length cap, .int .i64 ns.length, .bool (decide ((ns.length : Int) ≤ -1)), .bool (decide ((ns.length : Int) ≤ -1)), .slice a ns.length cap, .int .i64 ns.length, .int .i64 (-1), .bool false, undef, undef, undef, undef, undef, undef, undef, .slice a ns.length cap, .int .i64 (-1), .int .i64 0, .int .i64 ns.length, .func (.func 53) #[] #[.pointer (some ⟨w5.heap.size + 1 + 1, 0, none⟩), .pointer (some ⟨w5.heap.size + 1 + 2, 0, none⟩), .pointer (some ⟨w5.heap.size + 1, 0, none⟩)], .int .i64 (x : Int), undef, undef, undef, undef, undef], defers := [] }) ?assign ?body ?done ?stop
    case assign =>
      intro l x W K hK
      gi_wp2
      exact hK
    case body =>
      rintro l pre x W ⟨⟨v, hv, hrow, -⟩, hB', hW4⟩ hlt
      have hc := hv.cell
      gi_wp2_with (gi_at_builtin; refine wpListIn_append_own _ rfl _ _ 53 rfl (w5.heap.size + 4) 3 i0 (.int .i64 0) 1 8 ndSliceInt hi hz0 hz1 hz2 rfl (by decide) _ _ _ rfl (hrow.alloc _) ⟨W.heap.size, 0, none⟩ 1 1 [.int .i64 x] rfl rfl (cell_one_new _ _ _) (by simp [Value.oneCell']) (by unfold maxLen; omega) (by omega) (by simp; omega) ?_; intro v' w1 hown' hgrow _; obtain ⟨g', cap', rfl⟩ := ownsRow_succ hown'; obtain ⟨hv1, hv2, hr2, hk2, hb2⟩ := appendedK (n₀ := w5.heap.size) (lo := w5.heap.size + 1) hv (by decide) hrow (by omega) (Nat.le_refl _) (by omega) (by omega) (by omega) hown' hgrow; have hc1 := hv1.cell; have hf1 := hv1.frozen)
      exact ⟨hk2.from _, hb2, ⟨_, hv2, by simpa using hr2, trivial⟩, hB'.trans hb2.1, Nat.le_trans hW4 hk2.size⟩
    case done =>
      rintro D ys W hD rfl ⟨⟨v, hv, hrow, -⟩, hB', hW4⟩ hK
      have hc := hv.cell
      gi_wp2
      refine ⟨by simp, .inl ⟨_, _, rfl, run_takeDeferred hK, ?_⟩⟩
      refine ⟨.tuple #[v, .int .i64 0], ?_, ⟨v, by rw [e1.out], ?_⟩, ?_⟩
      · simp [results, Tryd.f16, go_sem]
      · rw [e2.out]
        refine World.ownsRow.mono (base := w5.heap.size + 4) ?_ (by have := b5.out.size; omega)
        have := ownsRow_putObj hrow (.deferred none) hK rfl
        rw [List.length_map, List.map_map]
        exact this
      · exact thenB b5.out (hB'.trans (belowK_b (w := w5) (Nat.le_refl _) W D _ _ (by omega) hK rfl rfl)) hs5
    case stop =>
      rintro D c pre W _ _ h _
      exact h.elim
  · obtain ⟨q, rfl⟩ : ∃ q : Nat, i = q := ⟨i.toNat, by omega⟩
    have hqn : q < ns.length := by omega
    have hsq := hS.out q hqn
    have hE := endOf_le hS.out (i := (q : Int)) (by omega)
    obtain ⟨b, off, rfl, hb, -, -, -, d3, -⟩ := hN.out.at_ hqn
    have hE2 : endOf ns q = q + (ns.getD q Nd.z).size.toNat := by unfold endOf; rw [if_neg (by omega)]; rfl
    have hK : Hid (kidsL ns q = kl ns (endOf ns q) ns.length (q + 1)) := by unfold kidsL; rfl
    generalize endOf ns q = E at *
    generalize (ns.getD q Nd.z).size = sq at *
    obtain ⟨zq, rfl⟩ : ∃ z : Nat, sq = z := ⟨sq.toNat, by omega⟩
    rw [Int.toNat_natCast] at hE2
    subst hE2
    have hq0 : ¬ ((q : Int) < 0) := by omega
    refine callsIn_of_wp_marks Tryd.func16 rfl trivial ?_ rfl
    simp only [Tryd.ntmps16, List.size_toArray, List.length_cons, List.length_nil, Nat.reduceAdd, Nat.reduceSub, Array.replicate_succ, Array.replicate_zero, List.push_toArray, List.append_toArray, List.nil_append, List.cons_append]
    gi_wp2_with (first
      | (refine ⟨trivial, ?_⟩; gi_at_call 31; refine (callsIn_wide.2 hFo.out).mono ?_; rintro e w5 ⟨rfl, b5⟩; have d3' := (b5.cell (p := ⟨b, off + q * 5 + 3, none⟩) (by simp; omega)).trans d3; replace b5 := hide b5)
      | (refine ⟨trivial, ?_⟩; gi_at_call 32; refine (standing_in Fence.wide _ trivial rfl _ _ _ _ _ _).mono ?_; rintro e w' ⟨rfl, rfl⟩))
    have hs5 := b5.out.size
    have hK5 := hK
    clear hK
    have bO := (((Boxed.new w5 53 (.slice none 0 0)).alloc (.cells #[.slice (some ⟨b, off, none⟩) ns.length cap] 43)).alloc (.cells #[.int .i64 ((q : Int) + 1)] 3)).alloc (.cells #[.int .i64 ((q : Int) + zq)] 3)
    have b1 := ((Boxed.new (w5.alloc (.cells #[.slice none 0 0] 53)) 43 (.slice (some ⟨b, off, none⟩) ns.length cap)).alloc (.cells #[.int .i64 ((q : Int) + 1)] 3)).alloc (.cells #[.int .i64 ((q : Int) + zq)] 3)
    have b2 := (Boxed.new ((w5.alloc (.cells #[.slice none 0 0] 53)).alloc (.cells #[.slice (some ⟨b, off, none⟩) ns.length cap] 43)) 3 (.int .i64 ((q : Int) + 1))).alloc (.cells #[.int .i64 ((q : Int) + zq)] 3)
    have b3 := Boxed.new (((w5.alloc (.cells #[.slice none 0 0] 53)).alloc (.cells #[.slice (some ⟨b, off, none⟩) ns.length cap] 43)).alloc (.cells #[.int .i64 ((q : Int) + 1)] 3)) 3 (.int .i64 ((q : Int) + zq))
    have hB0 : Below w5.heap.size w5 ((((w5.alloc (.cells #[.slice none 0 0] 53)).alloc (.cells #[.slice (some ⟨b, off, none⟩) ns.length cap] 43)).alloc (.cells #[.int .i64 ((q : Int) + 1)] 3)).alloc (.cells #[.int .i64 ((q : Int) + zq)] 3)) := ((((Below.refl _ w5).alloc (Nat.le_refl _) _).alloc (by simp) _).alloc (by simp; omega) _).alloc (by simp; omega) _
    have hW0 : ((((w5.alloc (.cells #[.slice none 0 0] 53)).alloc (.cells #[.slice (some ⟨b, off, none⟩) ns.length cap] 43)).alloc (.cells #[.int .i64 ((q : Int) + 1)] 3)).alloc (.cells #[.int .i64 ((q : Int) + zq)] 3)).heap.size = w5.heap.size + 4 := by simp
    simp only [World.size_alloc] at b1 b2 b3
    generalize hX : (((w5.alloc (.cells #[.slice none 0 0] 53)).alloc (.cells #[.slice (some ⟨b, off, none⟩) ns.length cap] 43)).alloc (.cells #[.int .i64 ((q : Int) + 1)] 3)).alloc (.cells #[.int .i64 ((q : Int) + zq)] 3) = X at *
    clear hX
    refine wpIn_rangeFunc_ownG rfl (by omega) (gf := 53) (lb := #[.pointer (some ⟨w5.heap.size + 1 + 1, 0, none⟩), .pointer (some ⟨w5.heap.size + 1 + 2, 0, none⟩), .pointer (some ⟨w5.heap.size + 1, 0, none⟩)]) rfl trivial (enters_of Tryd.func53 (by kernel_rfl) rfl)
      (stand_stops Fence.wide _ trivial rfl (by omega) (w5.heap.size + 1) w5.heap.size _ _ _ ns hS.out (q + 1) (q + zq) hE X (by omega) (by omega) b1.cell (by simpa using b2.cell) (by simpa using b3.cell) ((hN.out.below (b5.out.mono hB)).mono (by omega) |>.below hB0)) KpS_t (KpS_b (by omega) (by omega)) (Below.refl _ _) (fun _ => rfl)
      (fun pre W => (∃ v, Boxed W w5.heap.size 53 v ∧ W.ownsRow (w5.heap.size + 4) 3 1 v pre.length (pre.map (fun n : Nat => Value.int .i64 (n : Int))) ∧ True) ∧ (Below w5.heap.size w5 W ∧ w5.heap.size + 4 ≤ W.heap.size))
      (fun _ _ _ => False)
      (OwnFrom.and (Own.from (holdsRow_own (w5.heap.size + 4) w5.heap.size 53 3 1 (fun pre : List Nat => pre.length) (fun pre : List Nat => pre.map (fun n : Nat => Value.int .i64 (n : Int))) (fun _ _ => True)) _) (OwnFrom.and (ownFrom_below (Nat.le_refl _) (by omega)) (fun s W W' row h hg _ => Nat.le_trans h hg.size)))
      (fun _ _ _ _ _ hs _ _ => hs)
      ⟨⟨_, bO, World.ownsRow_nil _ _ _ _, trivial⟩, hB0, by omega⟩
      (fun x => { tmps := #[.slice (some ⟨b, off, none⟩) ns.length cap, .int .i64 q, undef, undef, .slice none 0 0, .int .i64 0, .int .i64 ((q : Int) + zq), .pointer (some ⟨w5.heap.size, 0, none⟩), .int .i64 (x : Int), .slice (some ⟨b, off, none⟩) ns.length cap, .bool true, .bool false, .int .i64 q, .bool (decide ((q : Int) < -1)), .bool (decide ((q : Int) < -1)), .int .i64 q, .slice (some ⟨b, off, none⟩) ns.length cap, .int .i64 ns.length, .bool false, .bool (decide ((q : Int) < -1)), .slice (some ⟨b, off, none⟩) ns.length cap, .int .i64 ns.length, .int .i64 q, .bool true, .int .i64 q, .slice (some ⟨b, off, none⟩) ns.length cap, .int .i64 q, .pointer (some ⟨b, off + q * 5, none⟩), .pointer (some ⟨b, off + q * 5 + 3, none⟩), .int .i64 zq, .int .i64 ((q : Int) + zq), .slice (some ⟨b, off, none⟩) ns.length cap, .int .i64 q, .int .i64 ((q : Int) + 1), .int .i64 ((q : Int) + zq), .func (.func 53) #[] #[.pointer (some ⟨w5.heap.size + 1 + 1, 0, none⟩), .pointer (some ⟨w5.heap.size + 1 + 2, 0, none⟩), .pointer (some ⟨w5.heap.size + 1, 0, none⟩)], .int .i64 (x : Int), undef, undef, undef, undef, undef], defers := [] }) ?assign ?body ?done ?stop
    case assign =>
      intro l x W K hK
      gi_wp2
      exact hK
    case body =>
      rintro l pre x W ⟨⟨v, hv, hrow, -⟩, hB', hW4⟩ hlt
      have hc := hv.cell
      gi_wp2_with (gi_at_builtin; refine wpListIn_append_own _ rfl _ _ 53 rfl (w5.heap.size + 4) 3 i0 (.int .i64 0) 1 8 ndSliceInt hi hz0 hz1 hz2 rfl (by decide) _ _ _ rfl (hrow.alloc _) ⟨W.heap.size, 0, none⟩ 1 1 [.int .i64 x] rfl rfl (cell_one_new _ _ _) (by simp [Value.oneCell']) (by unfold maxLen; omega) (by omega) (by simp; omega) ?_; intro v' w1 hown' hgrow _; obtain ⟨g', cap', rfl⟩ := ownsRow_succ hown'; obtain ⟨hv1, hv2, hr2, hk2, hb2⟩ := appendedK (n₀ := w5.heap.size) (lo := w5.heap.size + 1) hv (by decide) hrow (by omega) (Nat.le_refl _) (by omega) (by omega) (by omega) hown' hgrow; have hc1 := hv1.cell; have hf1 := hv1.frozen)
      exact ⟨hk2.from _, hb2, ⟨_, hv2, by simpa using hr2, trivial⟩, hB'.trans hb2.1, Nat.le_trans hW4 hk2.size⟩
    case done =>
      rintro D ys W hD rfl ⟨⟨v, hv, hrow, -⟩, hB', hW4⟩ hK
      have hc := hv.cell
      gi_wp2
      refine ⟨by simp, .inl ⟨_, _, rfl, run_takeDeferred hK, ?_⟩⟩
      refine ⟨.tuple #[v, .int .i64 0], ?_, ⟨v, by rw [e1.out], ?_⟩, ?_⟩
      · simp [results, Tryd.f16, go_sem]
      · rw [e2.out, hK5.out]
        refine World.ownsRow.mono (base := w5.heap.size + 4) ?_ (by have := b5.out.size; omega)
        have := ownsRow_putObj hrow (.deferred none) hK rfl
        rw [List.length_map, List.map_map]
        exact this
      · exact thenB b5.out (hB'.trans (belowK_b (w := w5) (Nat.le_refl _) W D _ _ (by omega) hK rfl rfl)) hs5
    case stop =>
      rintro D c pre W _ _ h _
      exact h.elim
end Go.Proofs.YtjbalgjdcdmjjaaDoor
/- ==== KeptCopy ==== -/
namespace Go.Proofs.YtjbalgjdcdmjjaaDoor
open Go.RowKit
set_option linter.unusedVariables false
set_option maxRecDepth 100000 in
set_option maxHeartbeats 1600000 in
theorem copiedO_calls (w : World) (B : Nat) (v : Value) (ns : List Nd) (h : Nds B w v ns) (hB : B ≤ w.heap.size) :
    Calls Tryd.prog 13 #[v] w fun e w' => (∃ r, e = .returned r ∧ Mine 47 5 w' w.heap.size r ns.length (flatN ns)) ∧ Below w.heap.size w w' := by
  obtain ⟨i0, hi, hz0, hz1, hz2⟩ := info_parts infoNodeC
  have hN := hide h
  obtain ⟨a, cap, rfl, h1, ⟨h2, h2'⟩, h3, h4⟩ := h
  clear h3 h4
  go_enter Tryd.func13, Tryd.ntmps13
  go_wp2_with (at_make; refine wpList_make_own _ rfl _ _ 43 rfl w.heap.size 47 i0 _ 5 sliceNodeC hi hz0 hz1 .i64 .i64 _ ns.length rfl rfl rfl (by rw [hz2]; omega) (by unfold maxLen; omega) (Nat.le_refl _) ?_; intro w0 hown0 hgrow0)
  have B0 : Hid (Below w.heap.size w w0) := (Below.refl _ w).grown hgrow0 (Nat.le_refl _) (by simp)
  replace hown0 := hide hown0
  replace hgrow0 := hide hgrow0
  go_loopw [3, 4] (fun u j wr => ∃ q : Nat, q ≤ ns.length ∧ j = .int .i64 q ∧ Hid (wr.ownsRow w.heap.size 47 5 u q (flatN (ns.take q))) ∧ Hid (Below w.heap.size w wr)) (fun _ j _ => ns.length - (intOf j).toNat)
  case atStart => exact ⟨0, Nat.zero_le _, rfl, hown0, B0⟩
  case round =>
    obtain ⟨q, hq, rfl, hO, hBw⟩ := hrel
    clear B0 hown0 hgrow0
    by_cases hlt : q < ns.length
    · have hNw := hN.out.below (hBw.out.mono hB)
      obtain ⟨b, off, rfl, hb, c0, c1, c2, c3, c4⟩ := hNw.at_ hlt
      clear hNw
      have hT : Hid (ns.take (q + 1) = ns.take q ++ [ns.getD q Nd.z]) := by
        unfold Hid
        rw [List.take_add_one, List.getElem?_eq_getElem hlt, List.getD_eq_getElem?_getD, List.getElem?_eq_getElem hlt]; rfl
      obtain ⟨x, hx⟩ : ∃ x, ns.getD q Nd.z = x := ⟨_, rfl⟩
      rw [hx] at c0 c1 c2 c3 c4 hT
      clear hx
      have hBx := hBw.out.size
      go_wp2_with (at_builtin; (refine wpList_append_own _ rfl _ _ 43 rfl w.heap.size 47 i0 _ 5 48 sliceNodeC hi hz0 hz1 hz2 rfl (by decide) _ _ _ rfl (hO.out.alloc _) ⟨wr.heap.size, 0, none⟩ 1 1 x.cells rfl rfl (news5 wr x _) (one5 x) (by unfold maxLen; omega) (by omega) (by simp; omega) ?_; intro v' w1 hown' hgrow _; replace hown' := hide hown'; replace hgrow := hide hgrow; have B1 : Hid (Below w.heap.size w w1) := (hBw.out.alloc hBx _).grown hgrow.out (by simp; omega) (fun g hg => ((hO.out.lt g hg).1))))
      go_roundw
      case rel => exact ⟨q + 1, by omega, by simp, by rw [hT.out, flatN_snoc]; exact hown', B1⟩
      case measure => simp [intOf]; omega
    · obtain rfl : q = ns.length := by omega
      rw [List.take_length] at hO
      have hR := hide (Mine.own hO.out)
      go_wp2
      go_ret
      exact ⟨⟨_, rfl, hR.out⟩, hBw.out⟩
end Go.Proofs.YtjbalgjdcdmjjaaDoor
/- ==== KeptFact ==== -/
namespace Go.Proofs.YtjbalgjdcdmjjaaDoor
open Go.RowKit
set_option linter.unusedVariables false
theorem kidsX_len (ns : List Nd) (i : Int) : (kidsX ns i).length ≤ ns.length := by
  unfold kidsX
  split
  · rw [List.length_map]
    unfold kidsL
    exact kl_length _ _ _ _
  · simp
/-- A list's block lies between lo and hi. -/
def Lies (v : Value) (lo hi : Nat) : Prop := ∀ k, v.ownBlock = some k → lo ≤ k ∧ k < hi
/-- Two lists share no block. -/
def Off (v u : Value) : Prop := ∀ k, v.ownBlock = some k → u.ownBlock = some k → False
theorem Off.symm {v u : Value} (h : Off v u) : Off u v := fun k a b => h k b a
theorem Lies.off {v u : Value} {a b c d : Nat} (h : Lies v a b) (h' : Lies u c d) (e : b ≤ c ∨ d ≤ a) : Off v u := fun k x y => by
  have := h k x
  have := h' k y
  omega
theorem off_of {v u t : Value} {a b c d : Nat} (h : ∀ k, v.ownBlock = some k → t.ownBlock = some k ∨ (a ≤ k ∧ k < b)) (ht : Off t u) (hu : Lies u c d) (e : d ≤ a) : Off v u := fun k x y => by
  rcases h k x with q | q
  · exact ht k q y
  · have := hu k y
    omega
theorem off1 {v a : Value} (h : Off v a) : ∀ k, v.ownBlock = some k → some k ∉ [a.ownBlock] := fun k x y => by
  rw [List.mem_singleton] at y
  exact h k x y.symm
theorem off2 {v a b : Value} (h : Off v a) (h2 : Off v b) : ∀ k, v.ownBlock = some k → some k ∉ [a.ownBlock] ++ [b.ownBlock] := fun k x y => by
  rcases List.mem_append.1 y with y | y
  · exact off1 h k x y
  · exact off1 h2 k x y
theorem off3 {v a b c : Value} (h : Off v a) (h2 : Off v b) (h3 : Off v c) : ∀ k, v.ownBlock = some k → some k ∉ [a.ownBlock] ++ [b.ownBlock] ++ [c.ownBlock] := fun k x y => by
  rcases List.mem_append.1 y with y | y
  · exact off2 h h2 k x y
  · exact off1 h3 k x y
theorem off4 {v a b c d : Value} (h : Off v a) (h2 : Off v b) (h3 : Off v c) (h4 : Off v d) : ∀ k, v.ownBlock = some k → some k ∉ [a.ownBlock] ++ [b.ownBlock] ++ [c.ownBlock] ++ [d.ownBlock] := fun k x y => by
  rcases List.mem_append.1 y with y | y
  · exact off3 h h2 h3 k x y
  · exact off1 h4 k x y
theorem Ch.above {X : Nat} {v : Value} {a b : Nat} {w w' : World} (c : Ch [v.ownBlock] w w') (h : Lies v a b) (hX : X ≤ a) (hw : X ≤ w.heap.size) : Below X w w' :=
  c.below hw (fun x hx k e => by
    rw [List.mem_singleton] at hx
    have := h k (hx.symm.trans e)
    omega)
theorem Mine.lies {T : TypeId} {size : Nat} {w : World} {B : Nat} {v : Value} {n : Nat} {xs : List Value} (h : Mine T size w B v n xs) {hi : Nat} (e : w.heap.size ≤ hi) : Lies v B hi := fun k hk => by
  have := h.block k hk
  omega
/-- A list with one behind it, cut to what was there before. -/
theorem full_of {w : World} {B g n cap : Nat} {ns : List Nd} {u0 u1 u2 u3 u4 : Value} (h : w.ownsRow B 47 5 (.slice (some ⟨g, 0, none⟩) (n + 1) cap) (n + 1) (flatN ns ++ [u0, u1, u2, u3, u4])) (hl : ns.length = n) (hn : n ≤ 2932031007402) :
    Nds w.heap.size w (.slice (some ⟨g, 0, none⟩) n cap) ns ∧ n + 1 ≤ cap ∧ cap ≤ 9223372036854775807 ∧ g < w.heap.size ∧
      (w.cell? ⟨g, n * 5, none⟩ = some u0 ∧ w.cell? ⟨g, n * 5 + 1, none⟩ = some u1 ∧ w.cell? ⟨g, n * 5 + 2, none⟩ = some u2 ∧ w.cell? ⟨g, n * 5 + 3, none⟩ = some u3 ∧ w.cell? ⟨g, n * 5 + 4, none⟩ = some u4) := by
  subst hl
  obtain ⟨h1, h2⟩ := h
  have hfl := flatN_len ns
  rcases h2 with ⟨e, h0⟩ | ⟨g', cap', cur, e, hB, hg, q1, q2, q3, q4⟩
  · cases e
  · cases e
    unfold maxLen at q2
    have own : w.ownsRow B 47 5 (.slice (some ⟨g, 0, none⟩) ns.length cap) ns.length (flatN ns) := by
      refine ⟨hfl, .inr ⟨g, cap, cur, rfl, hB, hg, by omega, by unfold maxLen; omega, q3, ?_⟩⟩
      have := congrArg (List.take (ns.length * 5)) q4
      rw [List.take_take, Nat.min_eq_left (by omega), List.take_left' hfl] at this
      exact this
    have cell : ∀ f u, f < 5 → [u0, u1, u2, u3, u4][f]? = some u → w.cell? ⟨g, ns.length * 5 + f, none⟩ = some u := by
      intro f u hf hu
      have e1 : (flatN ns ++ [u0, u1, u2, u3, u4])[ns.length * 5 + f]? = some u := by
        rw [List.getElem?_append_right (by omega), hfl, Nat.add_sub_cancel_left]
        exact hu
      rw [← q4, List.getElem?_take, if_pos (by omega)] at e1
      rw [cell_of_row w g _ cur _ (0, 0) hg]
      simpa using e1
    exact ⟨own_nds own hn, q1, by omega, (Array.getElem?_eq_some_iff.1 hg).1, cell 0 u0 (by omega) rfl, cell 1 u1 (by omega) rfl, cell 2 u2 (by omega) rfl, cell 3 u3 (by omega) rfl, cell 4 u4 (by omega) rfl⟩
theorem OwnS.mine {w : World} {B : Nat} {v : Value} {xs : List Int} (h : OwnS w B v xs) : Mine 3 1 w B v xs.length (xs.map (Value.int .i64)) := Mine.own h
theorem RowI.cellAt {w : World} {a : Option Addr} {n cap : Nat} {xs : List Int} (h : RowI w (.slice a n cap) xs) {j : Nat} (hj : j < xs.length) : ∃ b off, a = some ⟨b, off, none⟩ ∧ w.cell? ⟨b, off + j, none⟩ = some (.int .i64 (xs.getD j 0)) := by
  obtain ⟨ao, c, e, h1, h2, h3⟩ := h
  cases e
  obtain ⟨b, off, rfl, hb, hc⟩ := h3 (by rintro rfl; exact absurd hj (Nat.not_lt_zero _))
  exact ⟨b, off, rfl, hc j hj⟩
theorem RowI.shape {w : World} {v : Value} {xs : List Int} (h : RowI w v xs) : ∃ a c, v = .slice a xs.length c ∧ xs.length ≤ c ∧ c ≤ 9223372036854775807 := by
  obtain ⟨ao, c, e, h1, h2, h3⟩ := h
  exact ⟨ao, c, e, h1, h2⟩
theorem Stand.below {w w' : World} {v : Value} {n : Nat} {m : Int} (h : Stand w v n m) (b : Below w.heap.size w w') : Stand w' v n m := h.keep (Ch.of_below b) (fun _ _ => by simp)
theorem Count.below {w w' : World} {v : Value} {n : Nat} {m : Int} (h : Count w v n m) (b : Below w.heap.size w w') : Count w' v n m := h.keep (Ch.of_below b) (fun _ _ => by simp)
theorem Mine.rowK {w : World} {B K : Nat} {v : Value} {ks : List Int} (h : Mine 3 1 w B v K (ks.map (Value.int .i64))) (e : ks.length = K) : RowI w v ks := by
  subst e
  exact h.rowI
theorem sl_kept (g N cap n : Nat) (h : n ≤ cap) (W : World) : (Instr.sliceAt 43 (.slice (some ⟨g, 0, none⟩) N cap) none (some (.int .i64 n)) none).run Tryd.prog W = .ok (.slice (some ⟨g, 0, none⟩) n cap) W := by
  have he : Tryd.prog.elem 43 = 47 := by kernel_rfl
  have hu : Tryd.prog.underlying 43 = some (.slice (Tryd.prog.elem 43)) := by rw [he]; exact sliceNodeC
  have h1 : (0 : Int) ≤ n := by omega
  have h2 : (n : Int) ≤ cap := by omega
  rw [run_sliceAt_slice (h := hu), run_slice_h (ht := hu) (h0 := h1) (h2 := h2), he]
  clear hu he
  go_simp
end Go.Proofs.YtjbalgjdcdmjjaaDoor
