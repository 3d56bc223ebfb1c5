/- Laid together of: OwnMem, PieceCut, PieceMark, PieceIntact, PieceScan, PieceKeep, PieceEnded, PieceIn, PieceNew, PieceState. -/
import Derived.Test.YtjbalgjdcdmjjaaDoorScanRows
import Derived.OwnWalk
import Derived.ArgAppend
import Derived.Deep.Onto
import Derived.Test.YtjbalgjdcdmjjaaDoorScanBehind
import Derived.Test.YtjbalgjdcdmjjaaDoorScanSame
import Derived.Deep.RegionHeld3
import Derived.Deep.DeepCutAuto
import Derived.Test.YtjbalgjdcdmjjaaDoorRows
import Derived.Deep.SlicePairs
import Derived.OpenShut
import Derived.SizedLaws
/- ==== OwnMem ==== -/
namespace Go.Proofs.YtjbalgjdcdmjjaaDoor
open Go.RowKit
set_option linter.unusedVariables false
/-- What a step changes: new blocks, and those of S. -/
structure Ch (S : List (Option Nat)) (w w' : World) : Prop where
  os : w'.os = w.os
  tape : w'.tape = w.tape
  output : w'.output = w.output
  size : w.heap.size ≤ w'.heap.size
  block : ∀ k, k < w.heap.size → some k ∉ S → w'.heap[k]? = w.heap[k]?
theorem Ch.of_below {w w' : World} (b : Below w.heap.size w w') : Ch [] w w' := ⟨b.os, b.tape, b.output, b.size, fun k hk _ => b.block k hk⟩
theorem Ch.of_grown {w w' : World} {r : Option Nat} (g : w.grownBy w' r) : Ch [r] w w' := ⟨g.os, g.tape, g.output, g.size, fun k hk h => g.block k hk (fun e => h (by rw [e]; exact List.mem_singleton.2 rfl))⟩
theorem Ch.trans {S T : List (Option Nat)} {w w1 w2 : World} (a : Ch S w w1) (b : Ch T w1 w2) : Ch (S ++ T) w w2 :=
  ⟨b.os.trans a.os, b.tape.trans a.tape, b.output.trans a.output, Nat.le_trans a.size b.size, fun k hk h => (b.block k (Nat.lt_of_lt_of_le hk a.size) (fun e => h (List.mem_append_right _ e))).trans (a.block k hk (fun e => h (List.mem_append_left _ e)))⟩
theorem Ch.then {S : List (Option Nat)} {w w1 w2 : World} (a : Ch S w w1) (b : Below w1.heap.size w1 w2) : Ch S w w2 := by
  have := a.trans (Ch.of_below b)
  rwa [List.append_nil] at this
theorem Ch.below {S : List (Option Nat)} {B : Nat} {w w' : World} (c : Ch S w w') (hB : B ≤ w.heap.size) (h : ∀ x ∈ S, ∀ k, x = some k → B ≤ k) : Below B w w' :=
  ⟨c.os, c.tape, c.output, c.size, fun k hk => c.block k (by omega) (fun e => by have := h _ e k rfl; omega)⟩
/-- A list of a call's own, or one that is cut to its length. -/
def Mine (T : TypeId) (size : Nat) (w : World) (B : Nat) (v : Value) (n : Nat) (xs : List Value) : Prop :=
  ∃ a c, w.ownsRow B T size (.slice a n c) n xs ∧ (v = .slice a n c ∨ v = .slice a n n)
section
variable {T : TypeId} {size : Nat} {w : World} {B : Nat} {v : Value} {n : Nat} {xs : List Value}
theorem Mine.own (h : w.ownsRow B T size v n xs) : Mine T size w B v n xs := by
  rcases id h.2 with ⟨rfl, rfl⟩ | ⟨g, cap, cur, rfl, h1⟩
  · exact ⟨none, 0, h, .inl rfl⟩
  · exact ⟨_, cap, h, .inl rfl⟩
theorem Mine.block (h : Mine T size w B v n xs) : ∀ k, v.ownBlock = some k → B ≤ k ∧ k < w.heap.size := by
  obtain ⟨a, c, h1, rfl | rfl⟩ := h
  · exact h1.lt
  · intro k hk
    exact h1.lt k (by cases a with
      | none => cases hk
      | some x => exact hk)
theorem Mine.keep (h : Mine T size w B v n xs) {S : List (Option Nat)} {w' : World} (c : Ch S w w') (hS : ∀ k, v.ownBlock = some k → some k ∉ S) : Mine T size w' B v n xs := by
  obtain ⟨a, cp, h1, h2⟩ := h
  refine ⟨a, cp, ⟨h1.1, ?_⟩, h2⟩
  rcases h1.2 with hn | ⟨g, cap, cur, e, hb, hgg, rest⟩
  · exact .inl hn
  · cases e
    refine .inr ⟨g, cp, cur, rfl, hb, ?_, rest⟩
    rw [c.block g (Array.getElem?_eq_some_iff.1 hgg).1 (hS g (by rcases h2 with rfl | rfl <;> rfl))]
    exact hgg
theorem Mine.below (h : Mine T size w B v n xs) {w' : World} (b : Below w.heap.size w w') : Mine T size w' B v n xs := h.keep (Ch.of_below b) (fun _ _ => by simp)
theorem Mine.base (h : Mine T size w B v n xs) {B' : Nat} (hB : B' ≤ B) : Mine T size w B' v n xs := by
  obtain ⟨a, c, h1, h2⟩ := h
  exact ⟨a, c, h1.mono hB, h2⟩
theorem Mine.len (h : Mine T size w B v n xs) : xs.length = n * size := by
  obtain ⟨a, c, h1, h2⟩ := h
  exact h1.1
theorem Mine.shape (h : Mine T size w B v n xs) : ∃ a c, v = .slice a n c ∧ n ≤ c ∧ c ≤ 9223372036854775807 ∧ (0 < n → ∃ g, a = some ⟨g, 0, none⟩ ∧ v.ownBlock = some g ∧ ∃ cur, w.heap[g]? = some (.cells cur T (0, 0)) ∧ n * size ≤ cur.size ∧ cur.toList.take (n * size) = xs) := by
  obtain ⟨a, c, h1, h2⟩ := h
  have key : n ≤ c ∧ c ≤ 9223372036854775807 ∧ (0 < n → ∃ g, a = some ⟨g, 0, none⟩ ∧ ∃ cur, w.heap[g]? = some (.cells cur T (0, 0)) ∧ n * size ≤ cur.size ∧ cur.toList.take (n * size) = xs) := by
    rcases h1.2 with ⟨e, h0⟩ | ⟨g, cap, cur, e, hb, hgg, q1, q2, q3, q4⟩
    · cases e
      exact ⟨Nat.le_refl _, by decide, fun h => absurd h (by decide)⟩
    · cases e
      unfold maxLen at q2
      exact ⟨q1, by omega, fun _ => ⟨g, rfl, cur, hgg, by rw [q3]; exact Nat.mul_le_mul_right _ q1, q4⟩⟩
  obtain ⟨k1, k2, k3⟩ := key
  rcases h2 with rfl | rfl
  · refine ⟨a, c, rfl, k1, k2, fun hp => ?_⟩
    obtain ⟨g, rfl, r⟩ := k3 hp
    exact ⟨g, rfl, rfl, r⟩
  · refine ⟨a, n, rfl, Nat.le_refl _, by omega, fun hp => ?_⟩
    obtain ⟨g, rfl, r⟩ := k3 hp
    exact ⟨g, rfl, rfl, r⟩
theorem Mine.set (h : Mine T size w B v n xs) {g : Nat} (hg : v.ownBlock = some g) (k : Nat) (u : Value) (hk : k < n * size) : Mine T size (w.setCell ⟨g, k, none⟩ u) B v n (xs.set k u) := by
  obtain ⟨a, c, h1, h2⟩ := h
  rcases id h1.2 with ⟨e, h0⟩ | ⟨g', cap, cur, e, hb, hgg, q1, q2, q3, q4⟩
  · cases e
    rcases h2 with rfl | rfl <;> simp [Value.ownBlock] at hg
  · cases e
    obtain rfl : g = g' := by rcases h2 with rfl | rfl <;> simpa [Value.ownBlock] using hg.symm
    have b1 := heap_setCell_same w g k cur _ u hgg
    refine ⟨some ⟨g, 0, none⟩, c, ⟨by rw [List.length_set]; exact h1.1, .inr ⟨g, c, _, rfl, hb, b1, q1, q2, by simpa using q3, ?_⟩⟩, h2⟩
    rw [← q4]
    simp only [Array.toList_setIfInBounds]
    rw [List.take_set]
end
/-- An append of one onto such a list: the new list, the old one as it was, and where the new one lies. -/
theorem wpList_append_kept {P : Program} (w : World) {ops : Array Oper} {rest : List Oper} {o : Oper} {a : Act} {Q : Exit → Act → World → Prop} (hgd : o.guard = none) (s x : Operand) (t : TypeId)
    (ho : o.op = .call { callee := .builtin .append, args := #[s, x], argTypes := #[t, t] })
    (base : Nat) (e : TypeId) (i : TypeInfo) (z : Value) (size bytes : Nat) (ht : P.underlying t = some (.slice e)) (hi : P.info? e = some i) (hz : i.zero = some z)
    (hsize : i.size = size) (hby : i.bytes = bytes) (hzs : z.cells.size = size) (hsz : 0 < size)
    (v : Value) (n : Nat) (xs : List Value) (hs : a.eval s = v) (hown : Mine e size w base v n xs)
    (ad : Addr) (news : List Value) (hx : a.eval x = .slice (some ad) 1 1) (hl : news.length = 1 * size) (hnews : ∀ j u, news[j]? = some u → w.cell? (ad.add j) = some u) (h1 : ∀ u ∈ news, u.oneCell' = true)
    (h63 : n + 1 ≤ maxLen) (hbytes : (n + 1) * bytes ≤ 140737488355328) (hbase : base ≤ w.heap.size)
    (h : ∀ g cap w', w'.ownsRow base e size (.slice (some ⟨g, 0, none⟩) (n + 1) cap) (n + 1) (xs ++ news) → Mine e size w' base v n xs → (v.ownBlock = some g ∨ w.heap.size ≤ g) → w.grownBy w' v.ownBlock → wpList P ops Q rest (a.put o.dst (.slice (some ⟨g, 0, none⟩) (n + 1) cap)) w') : wpList P ops Q (o :: rest) a w := by
  have weak : ∀ {w' : World} {row : Option Nat}, w.grownBy w' none → w.grownBy w' row := fun q => ⟨q.os, q.tape, q.output, q.size, fun k hk _ => q.block k hk (by simp)⟩
  have grown : ∀ v' w', w'.ownsRow w.heap.size e size v' (n + 1) (xs ++ news) → w.grownBy w' none → wpList P ops Q rest (a.put o.dst v') w' := by
    intro v' w' h2 h3
    have hold : Mine e size w' base v n xs := hown.keep (Ch.of_grown h3) (fun _ _ => by simp)
    rcases id h2.2 with ⟨_, q⟩ | ⟨g, cap, cur, rfl, hB, hg, hr⟩
    · omega
    · exact h g cap w' (h2.mono hbase) hold (.inr hB) (weak h3)
  obtain ⟨ao, c, h2, hv⟩ := id hown
  rcases id h2.2 with ⟨e1, rfl⟩ | ⟨g, cap, cur, e1, hB, hg, h5, h6, h7, h8⟩
  · cases e1
    have hv : v = .slice none 0 0 := by rcases hv with rfl | rfl <;> rfl
    subst hv
    exact wpList_append_grows w hgd s x t ho e i z size bytes ht hi hz hsize hby hzs hsz none 0 0 xs hs (fun _ => ⟨rfl, rfl⟩) h2.1 (fun b hb => by cases hb) ad 1 1 news hx hl hnews h1 (by omega) h63 hbytes grown
  · cases e1
    have cells : ∀ b, (some (⟨g, 0, none⟩ : Addr)) = some b → ∀ j u, xs[j]? = some u → w.cell? (b.add j) = some u := fun b hb j u hu => by cases hb; exact h2.cells rfl j u hu
    rcases hv with rfl | rfl
    · by_cases hc : n + 1 ≤ c
      · refine wpList_append_fits w hgd s x t ho base e i size ht hi hsize g n c xs hs h2 ad 1 1 news hx hl hnews h1 hc (fun w' h9 h3 => ?_)
        refine h g c w' h9 ⟨_, c, ⟨h2.1, ?_⟩, .inl rfl⟩ (.inl rfl) h3
        rcases id h9.2 with ⟨q, _⟩ | ⟨g', cap', cur', e', hB', hg', q1, q2, q3, q4⟩
        · cases q
        · cases e'
          refine .inr ⟨g, c, cur', rfl, hB', hg', h5, q2, q3, ?_⟩
          have := congrArg (List.take (n * size)) q4
          rw [List.take_take, Nat.min_eq_left (Nat.mul_le_mul_right _ (by omega)), List.take_left' h2.1] at this
          exact this
      · exact wpList_append_grows w hgd s x t ho e i z size bytes ht hi hz hsize hby hzs hsz (some ⟨g, 0, none⟩) n c xs hs (fun q => by cases q) h2.1 cells ad 1 1 news hx hl hnews h1 (by omega) h63 hbytes grown
    · exact wpList_append_grows w hgd s x t ho e i z size bytes ht hi hz hsize hby hzs hsz (some ⟨g, 0, none⟩) n n xs hs (fun q => by cases q) h2.1 cells ad 1 1 news hx hl hnews h1 (by omega) h63 hbytes grown
theorem Ch.set {V : Option Nat} {w wr : World} (h : Ch [V] w wr) {g : Nat} (e : V = some g) (k : Nat) (u : Value) : Ch [V] w (wr.setCell ⟨g, k, none⟩ u) := by
  subst e
  exact ⟨h.os, h.tape, h.output, by simpa [World.setCell] using h.size, fun j hj hn => by
    rw [Below.heap_setCell _ _ _ _ (fun e => hn (by rw [e]; exact List.mem_singleton.2 rfl))]
    exact h.block j hj hn⟩
theorem Ch.weak {S T : List (Option Nat)} {w w' : World} (h : Ch S w w') (q : ∀ x ∈ S, x ∈ T) : Ch T w w' := ⟨h.os, h.tape, h.output, h.size, fun k hk hn => h.block k hk (fun e => hn (q _ e))⟩
/-- The blocks that a step may change are not of this type. -/
def NotOf (T : TypeId) (w : World) (S : List (Option Nat)) : Prop := ∀ k, some k ∈ S → ∃ cur U fz, w.heap[k]? = some (.cells cur U fz) ∧ U ≠ T
theorem NotOf.nil (T : TypeId) (w : World) : NotOf T w [] := fun k h => by cases h
theorem NotOf.one {T U : TypeId} {w : World} {k : Nat} {cur : Array Value} {fz : Nat × Nat} (h : w.heap[k]? = some (.cells cur U fz)) (e : U ≠ T) : NotOf T w [some k] := fun j hj => by
  obtain rfl : j = k := by simpa using hj
  exact ⟨cur, U, fz, h, e⟩
theorem NotOf.own {T U : TypeId} {size n B : Nat} {w : World} {v : Value} {xs : List Value} (h : Mine U size w B v n xs) (e : U ≠ T) : NotOf T w [v.ownBlock] := fun j hj => by
  have hv : v.ownBlock = some j := (List.mem_singleton.1 hj).symm
  obtain ⟨a, c, h1, h2⟩ := h
  rcases h1.2 with ⟨q, _⟩ | ⟨g, cap, cur, q, hB, hg, _⟩
  · cases q
    rcases h2 with rfl | rfl <;> cases hv
  · cases q
    obtain rfl : g = j := by rcases h2 with rfl | rfl <;> simpa [Value.ownBlock] using hv
    exact ⟨cur, U, _, hg, e⟩
theorem NotOf.both {T : TypeId} {w : World} {S R : List (Option Nat)} (a : NotOf T w S) (b : NotOf T w R) : NotOf T w (S ++ R) := fun k h => by
  rcases List.mem_append.1 h with h | h
  · exact a k h
  · exact b k h
theorem Mine.keepT {T : TypeId} {size n B : Nat} {w w' : World} {v : Value} {xs : List Value} (h : Mine T size w B v n xs) {S : List (Option Nat)} (c : Ch S w w') (hS : NotOf T w S) : Mine T size w' B v n xs := by
  refine h.keep c (fun k hk hm => ?_)
  obtain ⟨a, cp, h1, h2⟩ := h
  obtain ⟨cur, U, fz, q1, q2⟩ := hS k hm
  rcases h1.2 with ⟨q, _⟩ | ⟨g, cap, cur', q, hB, hg, _⟩
  · cases q
    rcases h2 with rfl | rfl <;> cases hk
  · cases q
    obtain rfl : g = k := by rcases h2 with rfl | rfl <;> simpa [Value.ownBlock] using hk
    have := q1.symm.trans hg
    simp at this
    exact q2 this.2.1
/-- A block of this type is as it was. -/
theorem Ch.at_ {T : TypeId} {w w' : World} {S : List (Option Nat)} (c : Ch S w w') (hS : NotOf T w S) {k : Nat} {cur : Array Value} {fz : Nat × Nat} (h : w.heap[k]? = some (.cells cur T fz)) : w'.heap[k]? = some (.cells cur T fz) := by
  rw [c.block k (Array.getElem?_eq_some_iff.1 h).1 (fun hm => ?_)]
  · exact h
  · obtain ⟨cur', U, fz', q1, q2⟩ := hS k hm
    have := q1.symm.trans h
    simp at this
    exact q2 this.2.1
end Go.Proofs.YtjbalgjdcdmjjaaDoor
/- ==== PieceCut ==== -/
namespace Go.Proofs.YtjbalgjdcdmjjaaDoor
open Go.RowKit
set_option linter.unusedVariables false
/-- A piece of a list of tokens. -/
theorem TRow.part {w : World} {b off n cap : Nat} {ts : List S.Tok} (h : TRow w (.slice (some ⟨b, off, none⟩) n cap) ts) (k m c : Nat) (hk : k + m ≤ ts.length) (hc : m ≤ c) (hm : c ≤ 9223372036854775807) : TRow w (.slice (some ⟨b, off + k * 4, none⟩) m c) ((ts.drop k).take m) := by
  obtain ⟨a', cap', e, h1, h2, h4⟩ := h
  cases e
  have hl : ((ts.drop k).take m).length = m := by rw [List.length_take, List.length_drop]; omega
  refine ⟨some ⟨b, off + k * 4, none⟩, c, by rw [hl], by omega, hm, fun hne => ?_⟩
  obtain ⟨b', off', e, hc⟩ := h4 (by rintro rfl; simp at hne)
  cases e
  refine ⟨b, off + k * 4, rfl, fun j hj => ?_⟩
  rw [hl] at hj
  have e2 : ((ts.drop k).take m).getD j tk0 = ts.getD (k + j) tk0 := by
    rw [List.getD_eq_getElem?_getD, List.getD_eq_getElem?_getD, List.getElem?_take_of_lt hj, List.getElem?_drop]
  rw [e2]
  have := hc (k + j) (by omega)
  rw [show off + (k + j) * 4 = off + k * 4 + j * 4 by omega] at this
  exact this
theorem TRow.nil (w : World) (a : Option Addr) (c : Nat) (hm : c ≤ 9223372036854775807) : TRow w (.slice a 0 c) [] := ⟨a, c, rfl, Nat.zero_le _, hm, fun h => absurd rfl h⟩
theorem TRow.sliced {w : World} {a : Option Addr} {n cap : Nat} {ts : List S.Tok} (h : TRow w (.slice a n cap) ts) (k m c : Nat) (hk : k + m ≤ ts.length) (hc : m ≤ c - k) (hm : c ≤ cap) : TRow w (Go.sliced a k (k + m) c 4) ((ts.drop k).take m) := by
  have hcap : cap ≤ 9223372036854775807 := by obtain ⟨_, _, e, _, h2, _⟩ := h; cases e; exact h2
  unfold Go.sliced
  rw [Nat.add_sub_cancel_left]
  by_cases hz : m = 0
  · subst hz
    rw [List.take_zero]
    exact TRow.nil _ _ _ (by omega)
  · have h' := h
    obtain ⟨a', cap', e, h1, h2, h4⟩ := h
    cases e
    obtain ⟨b, off, rfl, -⟩ := h4 (by rintro rfl; simp at hk; omega)
    rw [if_neg (by omega)]
    have := h'.part k m (c - k) hk hc (by omega)
    have ea : (⟨b, off, none⟩ : Addr).add (k * 4) = ⟨b, off + k * 4, none⟩ := by
      generalize k * 4 = j
      unfold Addr.add
      split <;> simp_all
    rw [Option.map_some, ea]
    exact this
theorem elemTok : Tryd.prog.elem 26 = 66 := by kernel_rfl
theorem TRow.cutM {w : World} {a : Option Addr} {n cap : Nat} {ts : List S.Tok} (h : TRow w (.slice a n cap) ts) (k j : Nat) (hkj : k ≤ j) (hj : j ≤ ts.length) :
    ∃ v, (∀ W, (Instr.sliceAt 26 (.slice a n cap) (some (.int .i64 (k : Int))) (some (.int .i64 (j : Int))) none).run Tryd.prog W = .ok v W) ∧ TRow w v ((ts.drop k).take (j - k)) := by
  have hs := h
  obtain ⟨a', cap', e, h1, h2, h4⟩ := h
  cases e
  obtain ⟨m, rfl⟩ : ∃ m, j = k + m := ⟨j - k, by omega⟩
  rw [Nat.add_sub_cancel_left]
  refine ⟨Go.sliced a k (k + m) cap 4, fun W => ?_, hs.sliced k m cap hj (by omega) (Nat.le_refl _)⟩
  have hu : Tryd.prog.underlying 26 = some (.slice (Tryd.prog.elem 26)) := by rw [elemTok]; exact Tryd.underlying26
  rw [run_sliceAt_slice (h := hu), run_slice_lh (ht := hu) (h0 := by omega) (h1 := by omega) (h2 := by omega), elemTok]
  clear hu
  have e1 : ((k : Int) + (m : Int)).toNat - k = m := by omega
  go_simp
theorem TRow.cutL {w : World} {a : Option Addr} {n cap : Nat} {ts : List S.Tok} (h : TRow w (.slice a n cap) ts) (k : Nat) (hk : k ≤ ts.length) :
    ∃ v, (∀ W, (Instr.sliceAt 26 (.slice a n cap) (some (.int .i64 (k : Int))) none none).run Tryd.prog W = .ok v W) ∧ TRow w v (ts.drop k) := by
  have hs := h
  obtain ⟨a', cap', e, h1, h2, h4⟩ := h
  cases e
  refine ⟨Go.sliced a k (k + (ts.length - k)) cap 4, fun W => ?_, by have := hs.sliced k (ts.length - k) cap (by omega) (by omega) (Nat.le_refl _); rwa [List.take_of_length_le (by rw [List.length_drop]; omega)] at this⟩
  have hu : Tryd.prog.underlying 26 = some (.slice (Tryd.prog.elem 26)) := by rw [elemTok]; exact Tryd.underlying26
  rw [run_sliceAt_slice (h := hu), run_slice_l (ht := hu) (h0 := by omega) (h1 := by omega), elemTok, show k + (ts.length - k) = ts.length by omega]
  clear hu
  go_simp
theorem stands_strict : ∀ (ts : List S.Tok) (l : List UInt8) (i e p : Nat), S.Stands resv ts l i e p → ∀ t ∈ ts, t.beg < t.fin
  | [], l, i, e, p, h => fun t ht => by simp at ht
  | t :: ts, l, i, e, p, h => by
    obtain ⟨n, m, h1, h2, h3, h4, -, -, h5⟩ := h
    have := stands_strict ts _ _ e p h5
    intro u hu
    rcases List.mem_cons.1 hu with rfl | hu
    · omega
    · exact this u hu
theorem run_within (l : List UInt8) : ∀ t ∈ (S.run resv .idle l 0).1, t.beg < l.length ∧ t.fin ≤ l.length := fun t ht => by
  have h1 := (run_bound l).1 t ht
  have h2 := stands_strict _ _ _ _ _ (S.run_stands resv l 0) t ht
  omega
set_option maxRecDepth 100000 in
set_option maxHeartbeats 4000000 in
theorem certain_calls (w : World) (v : Value) (D R : List S.Tok) (hv : TRow w v (D ++ R)) (s : ByteArray) (l : List UInt8) (hs : s.data.toList = l) (hl : l.length ≤ 1073741824) (m : Nat) (hm : m ≤ 1073741824)
    (hD : ∀ t ∈ D, t.fin < m ∨ (t.fin = m ∧ S.now l t)) (hR : ∀ t ∈ R, m < t.fin ∨ (t.fin = m ∧ ¬ S.now l t)) (hb : ∀ t ∈ D ++ R, t.beg < l.length ∧ t.fin ≤ l.length) (hlen : (D ++ R).length ≤ 4294967298) :
    Calls Tryd.prog 27 #[v, .string s, .int .i64 m] w fun e w' => e = .returned (.int .i64 D.length) ∧ Below w.heap.size w w' := by
  obtain ⟨N, hN⟩ : ∃ N, (D ++ R).length = N := ⟨_, rfl⟩
  obtain ⟨K, hK⟩ : ∃ K, D.length = K := ⟨_, rfl⟩
  have hKN : K ≤ N := by rw [← hN, ← hK, List.length_append]; omega
  obtain ⟨va, vc, rfl, n1, n2⟩ := hv.shape
  have hz := size_of s l hs
  have hat := hide (fun (k : Nat) (h : k < s.size) => byteAt s l hs k h)
  have tin : Hid (∀ k, k < N → (D ++ R).getD k tk0 ∈ D ++ R) := fun k hk => by
    rw [← hN] at hk
    rw [List.getD_eq_getElem?_getD, List.getElem?_eq_getElem hk]
    exact List.getElem_mem hk
  have inD : Hid (∀ k, k < K → (D ++ R).getD k tk0 ∈ D) := fun k hk => by
    rw [← hK] at hk
    rw [List.getD_eq_getElem?_getD, List.getElem?_append_left hk, List.getElem?_eq_getElem hk]
    exact List.getElem_mem hk
  have inR : Hid (K < N → (D ++ R).getD K tk0 ∈ R) := fun hk => by
    rw [← hN, List.length_append, ← hK] at hk
    rw [List.getD_eq_getElem?_getD, List.getElem?_append_right (by omega), ← hK, Nat.sub_self, List.getElem?_eq_getElem (by omega)]
    exact List.getElem_mem _
  rw [hN] at n1 hlen hv
  have hvH := hide hv
  have hD' := hide hD
  have hR' := hide hR
  have hb' := hide hb
  rw [hK, hN]
  have B0 : Hid (Below w.heap.size w w) := Below.refl _ w
  have hNh := hide hN
  clear hv hD hR hb hN hK hs
  generalize D ++ R = ts at *
  go_enter Tryd.func27, Tryd.ntmps27
  go_wp2
  go_loopw [7] (fun j wr => ∃ k : Nat, k ≤ K ∧ j = .int .i64 k ∧ Hid (Below w.heap.size w wr)) (fun j _ => K - (intOf j).toNat)
  case atStart => exact ⟨0, Nat.zero_le _, rfl, B0⟩
  case round =>
    clear B0
    obtain ⟨k, hk, rfl, hB⟩ := hrel
    by_cases hlt : k < N
    · obtain ⟨b, off, rfl, x0, x1, x2, x3⟩ := (hvH.out.below hB.out).at_ (j := k) (by rw [hNh.out]; exact hlt)
      have i1 : (k : Int) < N := by omega
      have ht := tin.out k hlt
      obtain ⟨q1, q2⟩ := hb'.out _ ht
      have dec : (k < K ∧ ((ts.getD k tk0).fin < m ∨ ((ts.getD k tk0).fin = m ∧ S.now l (ts.getD k tk0)))) ∨ (k = K ∧ (m < (ts.getD k tk0).fin ∨ ((ts.getD k tk0).fin = m ∧ ¬ S.now l (ts.getD k tk0)))) := by
        rcases Nat.lt_or_ge k K with h | h
        · exact .inl ⟨h, hD'.out _ (inD.out k h)⟩
        · obtain rfl : k = K := by omega
          exact .inr ⟨rfl, hR'.out _ (inR.out hlt)⟩
      generalize ts.getD k tk0 = t at x0 x1 x2 x3 q1 q2 dec
      obtain ⟨tk, tb, tf, tx⟩ := t
      simp only at x0 x1 x2 x3 q1 q2 dec
      have hsz : tb < s.size := by omega
      have hbb : s[tb]'hsz = l.getD tb 0 := hat.out tb hsz
      have hnow : S.now l ⟨tk, tb, tf, tx⟩ ↔ (tk = 1 ∨ tk = 2 ∨ l.getD tb 0 = 124) := by
        unfold S.now
        rw [List.getD_eq_getElem?_getD, List.getElem?_eq_getElem q1]
        simp
      rw [hnow] at dec
      generalize l.getD tb 0 = c at hbb dec hnow
      clear hnow ht
      have e124 : c = 124 ↔ (c.toNat : Int) = 124 := by
        rw [← UInt8.toNat_inj]
        show c.toNat = 124 ↔ _
        omega
      have kinds : ((tk = 1 ∨ tk = 2 ∨ c = 124) ∧ ((tk : Int) = 1 ∨ (¬ (tk : Int) = 1 ∧ (tk : Int) = 2) ∨ (¬ (tk : Int) = 1 ∧ ¬ (tk : Int) = 2 ∧ (c.toNat : Int) = 124))) ∨ (¬ (tk = 1 ∨ tk = 2 ∨ c = 124) ∧ ¬ (tk : Int) = 1 ∧ ¬ (tk : Int) = 2 ∧ ¬ (c.toNat : Int) = 124) := by
        rw [e124]
        omega
      clear e124
      rcases kinds with ⟨nw, kk⟩ | ⟨nw, k1, k2, k3⟩
      · have dec2 : (k < K ∧ ¬ (m : Int) < tf) ∨ (k = K ∧ (m : Int) < tf) := by
          rcases dec with ⟨a, b⟩ | ⟨a, b⟩
          · exact .inl ⟨a, by omega⟩
          · refine .inr ⟨a, ?_⟩
            rcases b with b | b
            · omega
            · exact absurd nw b.2
        clear dec nw
        rcases dec2 with ⟨hk', j1⟩ | ⟨hk', j1⟩
        · rcases kk with k1 | ⟨k1, k2⟩ | ⟨k1, k2, k3⟩
          all_goals
            by_cases j2 : (tf : Int) = m
            all_goals
              go_wp2
              go_roundw
              case rel => exact ⟨k + 1, by omega, by go_num, hB.out.alloc hB.out.size _⟩
              case measure => simp [intOf]; omega
        · subst hk'
          rcases kk with k1 | ⟨k1, k2⟩ | ⟨k1, k2, k3⟩
          all_goals
            go_wp2
            go_ret
            exact ⟨rfl, hB.out.alloc hB.out.size _⟩
      · have dec2 : (k < K ∧ ¬ (m : Int) < tf ∧ ¬ (tf : Int) = m) ∨ (k = K ∧ (m : Int) < tf) ∨ (k = K ∧ ¬ (m : Int) < tf ∧ (tf : Int) = m) := by
          rcases dec with ⟨a, b⟩ | ⟨a, b⟩
          · rcases b with b | b
            · exact .inl ⟨a, by omega, by omega⟩
            · exact absurd b.2 nw
          · rcases b with b | b
            · exact .inr (.inl ⟨a, by omega⟩)
            · exact .inr (.inr ⟨a, by omega, by omega⟩)
        clear dec nw
        rcases dec2 with ⟨hk', j1, j2⟩ | ⟨hk', j1⟩ | ⟨hk', j1, j2⟩
        · go_wp2
          go_roundw
          case rel => exact ⟨k + 1, by omega, by go_num, hB.out.alloc hB.out.size _⟩
          case measure => simp [intOf]; omega
        · subst hk'
          go_wp2
          go_ret
          exact ⟨rfl, hB.out.alloc hB.out.size _⟩
        · subst hk'
          have b1 : ((tk : Int) == 1) = false := by simpa using k1
          have b2 : ((tk : Int) == 2) = false := by simpa using k2
          have b3 : ((c.toNat : Int) == 124) = false := by simpa using k3
          go_wp2
          go_ret
          exact ⟨rfl, hB.out.alloc hB.out.size _⟩
    · obtain rfl : k = K := by omega
      obtain rfl : k = N := by omega
      have i1 : ¬ (k : Int) < k := by omega
      go_wp2
      go_ret
      exact ⟨rfl, hB.out⟩
end Go.Proofs.YtjbalgjdcdmjjaaDoor
/- ==== PieceMark ==== -/
namespace Go.Proofs.YtjbalgjdcdmjjaaDoor
open Go.RowKit
set_option linter.unusedVariables false
/-- The marks among a list's cells. -/
def TM (xs : List Value) (n m : Nat) : Prop := ∀ j, j < n → xs[j * 4]? = some (.int .i64 (1000 + (m : Int))) ∧ xs[j * 4 + 1]? = some (.int .i64 (j : Int)) ∧ xs[j * 4 + 2]? = some (.int .i64 (-1)) ∧ xs[j * 4 + 3]? = some (.string ⟨#[109, 97, 114, 107]⟩)
theorem tm_snoc {xs : List Value} {n m : Nat} (h : TM xs n m) (hl : xs.length = n * 4) : TM (xs ++ [.int .i64 (1000 + (m : Int)), .int .i64 (n : Int), .int .i64 (-1), .string ⟨#[109, 97, 114, 107]⟩]) (n + 1) m := by
  intro j hj
  by_cases e : j < n
  · obtain ⟨a, b, c, d⟩ := h j e
    rw [List.getElem?_append_left (by omega), List.getElem?_append_left (by omega), List.getElem?_append_left (by omega), List.getElem?_append_left (by omega)]
    exact ⟨a, b, c, d⟩
  · obtain rfl : j = n := by omega
    rw [List.getElem?_append_right (by omega), List.getElem?_append_right (by omega), List.getElem?_append_right (by omega), List.getElem?_append_right (by omega), hl, Nat.sub_self, Nat.add_sub_cancel_left, Nat.add_sub_cancel_left, Nat.add_sub_cancel_left]
    exact ⟨rfl, rfl, rfl, rfl⟩
theorem tm_set {xs : List Value} {k n m : Nat} (h : TM xs k m) (hl : xs.length = n * 4) (hk : k < n) :
    TM ((((xs.set (k * 4) (.int .i64 (1000 + (m : Int)))).set (k * 4 + 1) (.int .i64 (k : Int))).set (k * 4 + 2) (.int .i64 (-1))).set (k * 4 + 3) (.string ⟨#[109, 97, 114, 107]⟩)) (k + 1) m := by
  intro j hj
  by_cases e : j < k
  · obtain ⟨a, b, c, d⟩ := h j e
    simp only [List.getElem?_set_ne (by omega : k * 4 ≠ j * 4), List.getElem?_set_ne (by omega : k * 4 + 1 ≠ j * 4), List.getElem?_set_ne (by omega : k * 4 + 2 ≠ j * 4), List.getElem?_set_ne (by omega : k * 4 + 3 ≠ j * 4),
      List.getElem?_set_ne (by omega : k * 4 ≠ j * 4 + 1), List.getElem?_set_ne (by omega : k * 4 + 1 ≠ j * 4 + 1), List.getElem?_set_ne (by omega : k * 4 + 2 ≠ j * 4 + 1), List.getElem?_set_ne (by omega : k * 4 + 3 ≠ j * 4 + 1),
      List.getElem?_set_ne (by omega : k * 4 ≠ j * 4 + 2), List.getElem?_set_ne (by omega : k * 4 + 1 ≠ j * 4 + 2), List.getElem?_set_ne (by omega : k * 4 + 2 ≠ j * 4 + 2), List.getElem?_set_ne (by omega : k * 4 + 3 ≠ j * 4 + 2),
      List.getElem?_set_ne (by omega : k * 4 ≠ j * 4 + 3), List.getElem?_set_ne (by omega : k * 4 + 1 ≠ j * 4 + 3), List.getElem?_set_ne (by omega : k * 4 + 2 ≠ j * 4 + 3), List.getElem?_set_ne (by omega : k * 4 + 3 ≠ j * 4 + 3)]
    exact ⟨a, b, c, d⟩
  · obtain rfl : j = k := by omega
    refine ⟨?_, ?_, ?_, ?_⟩
    · rw [List.getElem?_set_ne (by omega), List.getElem?_set_ne (by omega), List.getElem?_set_ne (by omega), List.getElem?_set_self (by omega)]
    · rw [List.getElem?_set_ne (by omega), List.getElem?_set_ne (by omega), List.getElem?_set_self (by rw [List.length_set]; omega)]
    · rw [List.getElem?_set_ne (by omega), List.getElem?_set_self (by rw [List.length_set, List.length_set]; omega)]
    · rw [List.getElem?_set_self (by rw [List.length_set, List.length_set, List.length_set]; omega)]
/-- A write into a new block. -/
theorem Ch.new {S : List (Option Nat)} {w wr : World} (h : Ch S w wr) {b : Nat} (hb : w.heap.size ≤ b) (k : Nat) (u : Value) : Ch S w (wr.setCell ⟨b, k, none⟩ u) :=
  ⟨h.os, h.tape, h.output, by simpa [World.setCell] using h.size, fun j hj hn => (Below.heap_setCell _ _ _ _ (by simp; omega)).trans (h.block j hj hn)⟩
theorem Ch.alloc {S : List (Option Nat)} {w wr : World} (h : Ch S w wr) (o : Obj) : Ch S w (wr.alloc o) := h.then ((Below.refl _ wr).alloc (Nat.le_refl _) o)
theorem Mine.alloc {T : TypeId} {size : Nat} {w : World} {B : Nat} {v : Value} {n : Nat} {xs : List Value} (h : Mine T size w B v n xs) (o : Obj) : Mine T size (w.alloc o) B v n xs := h.below ((Below.refl _ w).alloc (Nat.le_refl _) o)
set_option maxRecDepth 100000 in
set_option maxHeartbeats 4000000 in
theorem hold_calls (w : World) (B : Nat) (v : Value) (n : Nat) (xs : List Value) (h : Mine 66 4 w B v n xs) (hB : B ≤ w.heap.size) (hn : n ≤ 4294967298) (m : Nat) (hm : m ≤ 4294967296) :
    Calls Tryd.prog 10 #[v, .int .i64 m] w fun e w' => (∃ u xs' ys, e = .returned (.agg #[v, u, .int .i64 m]) ∧ Mine 66 4 w' B v n xs' ∧ TM xs' n m ∧ Mine 66 4 w' B u (n + 1) ys ∧ TM ys (n + 1) m ∧ (∀ k, u.ownBlock = some k → v.ownBlock = some k ∨ w.heap.size ≤ k)) ∧ Ch [v.ownBlock] w w' := by
  obtain ⟨i0, hi, hz0, hz1, hz2⟩ := info_parts infoTok
  obtain ⟨a, c, hv, h1, h2, h3⟩ := h.shape
  obtain ⟨V, hV⟩ : ∃ V, v.ownBlock = V := ⟨_, rfl⟩
  obtain ⟨wa, hwa⟩ : ∃ W, w.alloc (.cells #[.slice none 0 0, .slice none 0 0, .int .i64 0] 39) = W := ⟨_, rfl⟩
  have hM := h.alloc (.cells #[.slice none 0 0, .slice none 0 0, .int .i64 0] 39)
  have vb := hide (fun k (hk : v.ownBlock = some k) => (h.block k hk).2)
  have C0 : Ch [V] w (w.alloc (.cells #[.slice none 0 0, .slice none 0 0, .int .i64 0] 39)) := Ch.alloc ⟨rfl, rfl, rfl, Nat.le_refl _, fun _ _ _ => rfl⟩ _
  have X0 := heap_alloc_new w (.cells #[.slice none 0 0, .slice none 0 0, .int .i64 0] 39)
  rw [hwa] at hM C0 X0
  replace hM := hide hM
  replace C0 := hide C0
  replace X0 := hide X0
  rw [hV] at vb ⊢
  have hVh := hide hV
  subst hv
  clear h h3 hV
  go_enter Tryd.func10, Tryd.ntmps10
  go_wp2
  go_loopw [5] (fun j wr => ∃ k : Nat, k ≤ n ∧ j = .int .i64 k ∧ ∃ ys, Hid (Mine 66 4 wr B (.slice a n c) n ys) ∧ Hid (TM ys k m) ∧ Hid (Ch [V] w wr) ∧ Hid (wr.heap[w.heap.size]? = some (.cells #[.slice none 0 0, .slice none 0 0, .int .i64 0] 39 (0, 0)))) (fun j _ => n - (intOf j).toNat)
  case atStart => exact ⟨0, Nat.zero_le _, rfl, xs, hM, fun j hj => absurd hj (Nat.not_lt_zero _), C0, X0⟩
  case round =>
    clear C0 hM X0
    obtain ⟨k, hk, rfl, ys, hY, hK, hC, hX⟩ := hrel
    by_cases hlt : k < n
    · obtain ⟨a', c', e, -, -, q⟩ := hY.out.shape
      cases e
      obtain ⟨g, rfl, hg, cur, hcur, hsz, htk⟩ := q (by omega)
      have gne : g ≠ w.heap.size := by
        have := vb.out g (by rw [← hVh.out]; exact hg)
        omega
      have i1 : (k : Int) < n := by omega
      have cc : ∀ f, f < 4 → ∃ u, wr.cell? ⟨g, k * 4 + f, none⟩ = some u := fun f hf => by
        rw [cell_of_row wr g _ cur _ (0, 0) hcur]
        exact ⟨_, Array.getElem?_eq_getElem (by omega)⟩
      obtain ⟨x0, c0⟩ := cc 0 (by omega)
      obtain ⟨x1, c1⟩ := cc 1 (by omega)
      obtain ⟨x2, c2⟩ := cc 2 (by omega)
      obtain ⟨x3, c3⟩ := cc 3 (by omega)
      rw [Nat.add_zero] at c0
      have fz := fun j => frozen_of_row wr g j cur 66 hcur
      have f0 := fz (k * 4)
      have f1 := fz (k * 4 + 1)
      have f2 := fz (k * 4 + 2)
      have f3 := fz (k * 4 + 3)
      have hgH := hide hg
      replace gne := hide gne
      clear hcur hsz htk q hg cc fz
      go_wp2
      refine ⟨⟨k + 1, by omega, by go_num, _, ?_, tm_set hK.out hY.out.len (by omega), ?_, ?_⟩, by simp [intOf]; omega⟩
      · exact (((hY.out.set hgH.out _ _ (by omega)).set hgH.out _ _ (by omega)).set hgH.out _ _ (by omega)).set hgH.out _ _ (by omega)
      · have e : V = some g := hVh.out.symm.trans hgH.out
        exact (((hC.out.set e _ _).set e _ _).set e _ _).set e _ _
      · show _ = _
        rw [Below.heap_setCell _ _ _ _ (Ne.symm gne.out), Below.heap_setCell _ _ _ _ (Ne.symm gne.out), Below.heap_setCell _ _ _ _ (Ne.symm gne.out), Below.heap_setCell _ _ _ _ (Ne.symm gne.out)]
        exact hX.out
    · obtain rfl : k = n := by omega
      have i1 : ¬ (k : Int) < k := by omega
      have wz := hC.out.size
      have hXl : w.heap.size < wr.heap.size := (Array.getElem?_eq_some_iff.1 hX.out).1
      go_wp2_with (at_builtin; (refine wpList_append_kept _ rfl _ _ 26 rfl B 66 i0 (.agg #[.int .i64 0, .int .i64 0, .int .i64 0, .string ⟨#[]⟩]) 4 40 sliceTok hi hz0 hz1 hz2 rfl (by decide) _ k ys rfl (hY.out.alloc _) ⟨wr.heap.size, 0, none⟩ [.int .i64 (1000 + (m : Int)), .int .i64 k, .int .i64 (-1), .string ⟨#[109, 97, 114, 107]⟩] rfl rfl (four_new _ _ _ _ _ _) (by simp [Value.oneCell']) (by unfold maxLen; omega) (by omega) (by simp; omega) ?_; intro g cap w2 o2 M2 at2 gr2; have X2 : w2.heap[w.heap.size]? = some (.cells #[.slice none 0 0, .slice none 0 0, .int .i64 0] 39 (0, 0)) := (by rw [gr2.block _ (by simp; omega) (fun e => by have := vb.out _ (hVh.out.symm.trans e.symm); omega), heap_alloc_old wr _ hXl]; exact hX.out); have y0 : w2.cell? ⟨w.heap.size, 0, none⟩ = some (.slice none 0 0) := (by rw [cell_of_row w2 _ _ _ _ (0, 0) X2]; rfl); have y1 : w2.cell? ⟨w.heap.size, 1, none⟩ = some (.slice none 0 0) := (by rw [cell_of_row w2 _ _ _ _ (0, 0) X2]; rfl); have y2 : w2.cell? ⟨w.heap.size, 2, none⟩ = some (.int .i64 0) := (by rw [cell_of_row w2 _ _ _ _ (0, 0) X2]; rfl); have fz := fun j => frozen_of_row w2 w.heap.size j _ _ X2; replace o2 := hide o2; have M3 : Hid (Mine 66 4 w2 B (.slice a k c) k ys) := M2; clear M2; replace at2 := hide at2; replace gr2 := hide gr2; replace X2 := hide X2))
      have CB : ∀ u0 u1 u2, Ch [some w.heap.size] w2 (((w2.setCell ⟨w.heap.size, 0, none⟩ u0).setCell ⟨w.heap.size, 1, none⟩ u1).setCell ⟨w.heap.size, 2, none⟩ u2) := fun u0 u1 u2 => Ch.set (Ch.set (Ch.set ⟨rfl, rfl, rfl, Nat.le_refl _, fun _ _ _ => rfl⟩ rfl _ _) rfl _ _) rfl _ _
      have e := hVh.out
      have C2 : ∀ u0 u1 u2, Ch [V] w (((w2.setCell ⟨w.heap.size, 0, none⟩ u0).setCell ⟨w.heap.size, 1, none⟩ u1).setCell ⟨w.heap.size, 2, none⟩ u2) := fun u0 u1 u2 => by
        have := (hC.out.alloc (.cells #[.int .i64 (1000 + (m : Int)), .int .i64 k, .int .i64 (-1), .string ⟨#[109, 97, 114, 107]⟩] 66)).trans (Ch.of_grown gr2.out)
        have h4 : Ch [V] w w2 := this.weak (fun x hx => by
          rcases List.mem_append.1 hx with hx | hx
          · exact hx
          · rw [List.mem_singleton] at hx ⊢
            exact hx.trans e)
        exact ((h4.new (Nat.le_refl _) _ _).new (Nat.le_refl _) _ _).new (Nat.le_refl _) _ _
      refine bodyPost_ret (v := .agg #[.slice a k c, .slice (some ⟨g, 0, none⟩) (k + 1) cap, .int .i64 m]) (by simp [results, Tryd.results10, go_sem, y0, y1, y2]) rfl ?_
      refine ⟨⟨_, rfl, _, M3.out.keep (CB _ _ _) (fun j hj hm => ?_), hK.out, _, (Mine.own o2.out).keep (CB _ _ _) (fun j hj hm => ?_), tm_snoc hK.out hY.out.len, fun j hj => ?_⟩, C2 _ _ _⟩
      · have := vb.out j (e.symm.trans hj)
        have : j = w.heap.size := by simpa using hm
        omega
      · obtain rfl : g = j := by simpa [Value.ownBlock] using hj
        have : g = w.heap.size := by simpa using hm
        rcases at2.out with q | q
        · have := vb.out g (e.symm.trans q)
          omega
        · simp at q
          omega
      · obtain rfl : g = j := by simpa [Value.ownBlock] using hj
        rcases at2.out with q | q
        · exact .inl (e.symm.trans q)
        · exact .inr (by simp at q; omega)
end Go.Proofs.YtjbalgjdcdmjjaaDoor
/- ==== PieceIntact ==== -/
namespace Go.Proofs.YtjbalgjdcdmjjaaDoor
open Go.RowKit
set_option linter.unusedVariables false
set_option maxRecDepth 100000 in
set_option maxHeartbeats 4000000 in
theorem tmarked_calls (w : World) (B : Nat) (v : Value) (n m : Nat) (xs : List Value) (h : Mine 66 4 w B v n xs) (hx : TM xs n m) (hn : n ≤ 4294967299) (hm : m ≤ 4294967296) :
    Calls Tryd.prog 29 #[v, .int .i64 m] w fun e w' => e = .returned (.bool true) ∧ Below w.heap.size w w' := by
  obtain ⟨a, c, rfl, h1, h2, h3⟩ := h.shape
  have hc : Hid (∀ j, j < n → ∃ g, a = some ⟨g, 0, none⟩ ∧ g < w.heap.size ∧ w.cell? ⟨g, j * 4, none⟩ = some (.int .i64 (1000 + (m : Int))) ∧ w.cell? ⟨g, j * 4 + 1, none⟩ = some (.int .i64 (j : Int)) ∧ w.cell? ⟨g, j * 4 + 2, none⟩ = some (.int .i64 (-1)) ∧ w.cell? ⟨g, j * 4 + 3, none⟩ = some (.string ⟨#[109, 97, 114, 107]⟩)) := fun j hj => by
    obtain ⟨g, rfl, -, cur, hg, hs, ht⟩ := h3 (by omega)
    obtain ⟨m0, m1, m2, m3⟩ := hx j hj
    rw [← ht, List.getElem?_take, if_pos (by omega)] at m0 m1 m2 m3
    refine ⟨g, rfl, (Array.getElem?_eq_some_iff.1 hg).1, ?_, ?_, ?_, ?_⟩
    · rw [cell_of_row w g _ cur _ (0, 0) hg]; simpa using m0
    · rw [cell_of_row w g _ cur _ (0, 0) hg]; simpa using m1
    · rw [cell_of_row w g _ cur _ (0, 0) hg]; simpa using m2
    · rw [cell_of_row w g _ cur _ (0, 0) hg]; simpa using m3
  clear h h3 hx
  have B0 : Hid (Below w.heap.size w w) := Below.refl _ w
  go_enter Tryd.func29, Tryd.ntmps29
  go_wp2
  go_loopw [5] (fun j wr => ∃ k : Nat, k ≤ n ∧ j = .int .i64 k ∧ Hid (Below w.heap.size w wr)) (fun j _ => n - (intOf j).toNat)
  case atStart => exact ⟨0, Nat.zero_le _, rfl, B0⟩
  case round =>
    clear B0
    obtain ⟨k, hk, rfl, hB⟩ := hrel
    by_cases hlt : k < n
    · obtain ⟨g, rfl, hg, c0, c1, c2, c3⟩ := hc.out k hlt
      have d0 := (hB.out.cell (p := ⟨g, _, none⟩) hg).trans c0
      have d1 := (hB.out.cell (p := ⟨g, _, none⟩) hg).trans c1
      have d2 := (hB.out.cell (p := ⟨g, _, none⟩) hg).trans c2
      have d3 := (hB.out.cell (p := ⟨g, _, none⟩) hg).trans c3
      have i1 : (k : Int) < n := by omega
      clear c0 c1 c2 c3 hg
      go_wp2
      go_roundw
      case rel => exact ⟨k + 1, by omega, by go_num, hB⟩
      case measure => simp [intOf]; omega
    · have i1 : ¬ (k : Int) < n := by omega
      go_wp2
      go_ret
      exact ⟨rfl, hB.out⟩
/-- A list that was told, and what is held of it. -/
structure HE where
  lv : Value
  mv : Value
  n : Nat
  m : Nat
def HE.cells (e : HE) : List Value := [e.lv, e.mv, .int .i64 e.m]
def HE.z : HE := ⟨.slice none 0 0, .slice none 0 0, 0, 0⟩
def hcells (es : List HE) : List Value := es.flatMap HE.cells
theorem hcells_len (es : List HE) : (hcells es).length = es.length * 3 := by
  induction es with
  | nil => rfl
  | cons x r ih => simp only [hcells, List.flatMap_cons, List.length_append, List.length_cons] at ih ⊢; rw [ih]; simp [HE.cells]; omega
theorem hcells_snoc (es : List HE) (x : HE) : hcells (es ++ [x]) = hcells es ++ x.cells := by simp [hcells]
theorem hcells_at (es : List HE) (j f : Nat) (hj : j < es.length) (hf : f < 3) : (hcells es)[j * 3 + f]? = (es.getD j HE.z).cells[f]? := by
  induction es generalizing j with
  | nil => simp at hj
  | cons x r ih =>
    have hx : x.cells.length = 3 := rfl
    simp only [hcells, List.flatMap_cons]
    cases j with
    | zero => rw [List.getElem?_append_left (by omega)]; simp
    | succ j =>
      rw [List.getElem?_append_right (by omega), hx, List.getD_cons_succ, ← ih j (by simp at hj; omega)]
      have e : (j + 1) * 3 + f - 3 = j * 3 + f := by omega
      rw [e]
      rfl
def HE.Is (w : World) (B : Nat) (e : HE) : Prop := ∃ xs ys, Mine 66 4 w B e.lv e.n xs ∧ TM xs e.n e.m ∧ Mine 66 4 w B e.mv (e.n + 1) ys ∧ TM ys (e.n + 1) e.m ∧ e.n ≤ 4294967298 ∧ e.m ≤ 4294967296
theorem HE.Is.below {w w' : World} {B : Nat} {e : HE} (h : e.Is w B) (b : Below w.heap.size w w') : e.Is w' B := by
  obtain ⟨xs, ys, h1, h2, h3, h4⟩ := h
  exact ⟨xs, ys, h1.below b, h2, h3.below b, h4⟩
/-- The held lists in memory. -/
structure Held (w : World) (B : Nat) (v : Value) (es : List HE) : Prop where
  row : Mine 39 3 w B v es.length (hcells es)
  each : ∀ e ∈ es, e.Is w B
theorem Held.below {w w' : World} {B : Nat} {v : Value} {es : List HE} (h : Held w B v es) (b : Below w.heap.size w w') : Held w' B v es := ⟨h.row.below b, fun e he => (h.each e he).below b⟩
theorem Held.at_ {w : World} {B : Nat} {a : Option Addr} {n c : Nat} {es : List HE} (h : Held w B (.slice a n c) es) {j : Nat} (hj : j < es.length) :
    ∃ g, a = some ⟨g, 0, none⟩ ∧ w.cell? ⟨g, j * 3, none⟩ = some (es.getD j HE.z).lv ∧ w.cell? ⟨g, j * 3 + 1, none⟩ = some (es.getD j HE.z).mv ∧ w.cell? ⟨g, j * 3 + 2, none⟩ = some (.int .i64 (es.getD j HE.z).m) ∧ (es.getD j HE.z).Is w B := by
  obtain ⟨a', c', e, -, -, q⟩ := h.row.shape
  cases e
  obtain ⟨g, rfl, -, cur, hg, hs, ht⟩ := q (by omega)
  have cell : ∀ f, f < 3 → w.cell? ⟨g, j * 3 + f, none⟩ = (es.getD j HE.z).cells[f]? := fun f hf => by
    rw [← hcells_at es j f hj hf, ← ht, List.getElem?_take, if_pos (by omega), cell_of_row w g _ cur _ (0, 0) hg]
    simp
  refine ⟨g, rfl, cell 0 (by omega), cell 1 (by omega), cell 2 (by omega), h.each _ ?_⟩
  rw [List.getD_eq_getElem?_getD, List.getElem?_eq_getElem hj]
  exact List.getElem_mem hj
set_option maxRecDepth 100000 in
set_option maxHeartbeats 4000000 in
theorem intact_calls (w : World) (B : Nat) (v : Value) (es : List HE) (h : Held w B v es) (hn : es.length ≤ 4294967296) :
    Calls Tryd.prog 9 #[v] w fun e w' => e = .returned (.bool true) ∧ Below w.heap.size w w' := by
  obtain ⟨a, c, rfl, h1, h2, h3⟩ := h.row.shape
  obtain ⟨N, hN⟩ : ∃ N, es.length = N := ⟨_, rfl⟩
  have hH := hide h
  rw [hN] at h1 hH hn ⊢
  have hNh := hide hN
  clear h h3 hN
  have B0 : Hid (Below w.heap.size w w) := Below.refl _ w
  go_enter Tryd.func9, Tryd.ntmps9
  go_wp2
  go_loopw [3] (fun j wr => ∃ k : Nat, k ≤ N ∧ j = .int .i64 k ∧ Hid (Below w.heap.size w wr)) (fun j _ => N - (intOf j).toNat)
  case atStart => exact ⟨0, Nat.zero_le _, rfl, B0⟩
  case round =>
    clear B0
    obtain ⟨k, hk, rfl, hB⟩ := hrel
    by_cases hlt : k < N
    · obtain ⟨g, rfl, c0, c1, c2, xs, ys, m1, t1, m2, t2, b1, b2⟩ := (hH.out.below hB.out).at_ (j := k) (by rw [hNh.out]; exact hlt)
      have gl : g < wr.heap.size := World.block_lt_of_cell? wr _ c0
      have q1 := hide (tmarked_calls wr.drew B _ _ _ _ m1 t1 (by omega) b2)
      have q2 := hide (fun W (q : Below wr.heap.size wr W) => tmarked_calls W B _ _ _ _ (m2.below q) t2 (by omega) b2)
      generalize es.getD k HE.z = t at c0 c1 c2 q1 q2 b1 b2 m1 m2 t1 t2
      obtain ⟨lv, mv, tn, tm⟩ := t
      simp only at c0 c1 c2 q1 q2 b1 b2
      have i1 : (k : Int) < N := by omega
      clear m1 m2 t1 t2
      have KS : ∀ {W : World}, Below wr.heap.size wr W → W.cell? ⟨g, k * 3, none⟩ = some lv ∧ W.cell? ⟨g, k * 3 + 1, none⟩ = some mv ∧ W.cell? ⟨g, k * 3 + 2, none⟩ = some (.int .i64 tm) := fun q => ⟨(q.cell (p := ⟨g, _, none⟩) gl).trans c0, (q.cell (p := ⟨g, _, none⟩) gl).trans c1, (q.cell (p := ⟨g, _, none⟩) gl).trans c2⟩
      have KD : Below wr.heap.size wr wr.drew := (Below.refl _ wr).drew
      go_wp2_with fail
      go_region_held3 (fun W => W.cell? ⟨g, k * 3, none⟩ = some lv ∧ W.cell? ⟨g, k * 3 + 1, none⟩ = some mv ∧ W.cell? ⟨g, k * 3 + 2, none⟩ = some (.int .i64 tm))
        (first
          | with_reducible exact KS (Below.refl _ _)
          | with_reducible exact KS KD
          | with_reducible exact KS bb1
          | with_reducible exact KS bb2)
        (first
          | (go_at_call 29; refine q1.out.mono ?_; rintro x w1 ⟨rfl, bb1⟩; replace bb1 := KD.then_below bb1; have q3 := hide (q2.out w1 bb1); clear q1 q2)
          | (go_at_call 29; refine q3.out.mono ?_; rintro x w2 ⟨rfl, bb2⟩; replace bb2 := bb1.then_below bb2; clear q3))
      go_wp2_with fail
      go_roundw
      case rel => exact ⟨k + 1, by omega, by go_num, hB.out.then_below bb2⟩
      case measure => simp [intOf]; omega
    · have i1 : ¬ (k : Int) < N := by omega
      go_wp2
      go_ret
      exact ⟨rfl, hB.out⟩
end Go.Proofs.YtjbalgjdcdmjjaaDoor
/- ==== PieceScan ==== -/
namespace Go.Proofs.YtjbalgjdcdmjjaaDoor
open Go.RowKit
set_option linter.unusedVariables false
theorem feed_append (b : List UInt8) : ∀ (a : List UInt8) (q : S.St) (i : Nat), S.feed resv q (a ++ b) i = match (S.feed resv q a i).2 with
    | .inl q' => ((S.feed resv q a i).1 ++ (S.feed resv q' b (i + a.length)).1, (S.feed resv q' b (i + a.length)).2)
    | .inr x => ((S.feed resv q a i).1, .inr x)
  | [], q, i => rfl
  | c :: t, q, i => by
    rcases hs : S.step resv q c i with ⟨ts, q'⟩ | ⟨ts, e, p⟩
    · rw [List.cons_append, S.feed_go resv hs, S.feed_go resv hs, feed_append b t q' (i + 1)]
      rcases (S.feed resv q' t (i + 1)).2 with q'' | x
      · simp only [List.append_assoc, List.length_cons]
        rw [show i + 1 + t.length = i + (t.length + 1) by omega]
      · rfl
    · rw [List.cons_append, S.feed_err resv hs, S.feed_err resv hs]
/-- All that is not the scanner's own. -/
def Oth (w : World) (g : Nat) (tv : Value) (k : Nat) : Prop := k < w.heap.size ∧ k ≠ g ∧ tv.ownBlock ≠ some k
theorem SS.oth {F : Nat → Prop} {w : World} {g : Nat} {c : Sc} {acc : List UInt8} {tv : Value} (h : SS F w g c acc [] tv (.slice none 0 0)) : SS (Oth w g tv) w g c acc [] tv (.slice none 0 0) :=
  ⟨h.blk, fun q => q.2.1 rfl, h.text, fun k e q => q.2.2 e, h.told, fun k e => by simp [Value.ownBlock] at e, h.cls, ⟨h.cls.lt, fun e => h.mine (e ▸ h.cF), fun e => h.tmine _ e h.cF⟩, fun k q => q.1⟩
theorem Kp.ch {w w' : World} {g : Nat} {tv : Value} (h : Kp (Oth w g tv) w w') : Ch ([some g] ++ [tv.ownBlock]) w w' :=
  ⟨h.os, h.tape, h.output, h.size, fun k hk hn => h.block k hk ⟨hk, fun e => hn (by rw [e]; simp), fun e => hn (by rw [e]; simp)⟩⟩
theorem SS.notOf {F : Nat → Prop} {w : World} {g : Nat} {c : Sc} {acc : List UInt8} {ts : List S.Tok} {tv ov : Value} (h : SS F w g c acc ts tv ov) {T : TypeId} (h1 : 74 ≠ T) (h2 : 5 ≠ T) : NotOf T w ([some g] ++ [tv.ownBlock]) :=
  (NotOf.one h.blk h1).both (NotOf.own (Mine.own h.text) h2)
/-- A scanner that has been fed p. -/
def Alive (w : World) (g : Nat) (tv : Value) (p : List UInt8) : Prop :=
  ∃ c acc, SS (Oth w g tv) w g c acc [] tv (.slice none 0 0) ∧
    match (S.feed resv .idle p 0).2 with
    | .inl q => AtS g q c acc ∧ Sane c p.length ∧ acc.length ≤ p.length
    | .inr (e, pl) => c.fault = e ∧ c.place = pl ∧ c.ended = false
structure Scn (w : World) (B g : Nat) (tv : Value) (p : List UInt8) : Prop where
  lo : B ≤ g
  tlo : ∀ k, tv.ownBlock = some k → B ≤ k
  st : Alive w g tv p
/-- A scanner that has come to its text's end. -/
structure Over (w : World) (B g : Nat) (tv : Value) (e pl : Nat) : Prop where
  lo : B ≤ g
  tlo : ∀ k, tv.ownBlock = some k → B ≤ k
  st : ∃ c acc, SS (Oth w g tv) w g c acc [] tv (.slice none 0 0) ∧ c.fault = e ∧ c.place = pl ∧ c.ended = true
theorem oth_lo {w : World} {B g : Nat} {tv : Value} (h1 : B ≤ g) (h2 : ∀ k, tv.ownBlock = some k → B ≤ k) (hB : B ≤ w.heap.size) {v : Value} (h : ∀ k, v.ownBlock = some k → ¬ Oth w g tv k) : ∀ k, v.ownBlock = some k → B ≤ k := fun k hk => by
  by_cases a : k < w.heap.size
  · by_cases b : k = g
    · omega
    · by_cases c : tv.ownBlock = some k
      · exact h2 k c
      · exact absurd ⟨a, b, c⟩ (h k hk)
  · omega
set_option maxRecDepth 100000 in
set_option maxHeartbeats 1600000 in
theorem feed_dead {F : Nat → Prop} {w : World} {g : Nat} {c : Sc} {acc : List UInt8} {ts : List S.Tok} {tv ov : Value} (h : SS F w g c acc ts tv ov) (he : c.ended = true ∨ (c.ended = false ∧ c.fault ≠ 0)) (s : ByteArray) :
    Calls Tryd.prog 7 #[.pointer (some ⟨g, 0, none⟩), .string s] w fun e w' => e = .returned (.slice none 0 0) ∧ Below w.heap.size w w' ∧ w'.heap = w.heap := by
  have a14 : w.cell? ⟨g, 14, none⟩ = some (.bool c.ended) := h.cell 14 _ rfl
  have a15 : w.cell? ⟨g, 15, none⟩ = some (.int .i64 c.fault) := h.cell 15 _ rfl
  have B0 := hide (Below.refl w.heap.size w)
  clear h
  rcases he with he | ⟨he, hf⟩
  · rw [he] at a14
    go_enter Tryd.func7, Tryd.ntmps7
    go_wp2
    go_step3
    go_wp2
    rw [Exit.noGoto_ret]
    go_ret
    exact ⟨rfl, B0.out, rfl⟩
  · rw [he] at a14
    have hz : ¬ (c.fault : Int) = 0 := by omega
    go_enter Tryd.func7, Tryd.ntmps7
    go_wp2
    go_step3
    go_wp2
    rw [Exit.noGoto_ret]
    go_ret
    exact ⟨rfl, B0.out, rfl⟩
/-- What a call of the scanner's leaves: a list that it told, and itself. -/
structure Told (w w' : World) (B g : Nat) (tv : Value) (v : Value) (tv' : Value) (D : List S.Tok) : Prop where
  row : Mine 66 4 w' B v D.length (tksCells D)
  trow : TRow w' v D
  voth : ∀ k, v.ownBlock = some k → ¬ Oth w g tv k
  toth : ∀ k, tv'.ownBlock = some k → ¬ Oth w g tv k
  ch : Ch ([some g] ++ [tv.ownBlock]) w w'
theorem told_of {w w' : World} {B g : Nat} {tv v tv' : Value} {D : List S.Tok} (h1 : B ≤ g) (h2 : ∀ k, tv.ownBlock = some k → B ≤ k) (hB : B ≤ w.heap.size) (o : w'.ownsRow 0 66 4 v D.length (tksCells D)) (m : ∀ k, v.ownBlock = some k → ¬ Oth w g tv k) (m' : ∀ k, tv'.ownBlock = some k → ¬ Oth w g tv k) (k : Kp (Oth w g tv) w w') : Told w w' B g tv v tv' D :=
  ⟨Mine.own (ownsRow_base o (oth_lo h1 h2 hB m)), ownsRow.trow o, m, m', k.ch⟩
set_option maxRecDepth 100000 in
theorem scn_feed (w : World) (B g : Nat) (tv : Value) (p : List UInt8) (h : Scn w B g tv p) (hB : B ≤ w.heap.size) (s : ByteArray) (l : List UInt8) (hs : s.data.toList = l) (hl : (p ++ l).length ≤ 1073741824) :
    Calls Tryd.prog 7 #[.pointer (some ⟨g, 0, none⟩), .string s] w fun e w' => ∃ v tv' D, e = .returned v ∧ (S.feed resv .idle (p ++ l) 0).1 = (S.feed resv .idle p 0).1 ++ D ∧ Told w w' B g tv v tv' D ∧ Scn w' B g tv' (p ++ l) := by
  obtain ⟨lo, tlo, c, acc, hS, hst⟩ := h
  have hap := feed_append l p .idle 0
  rw [Nat.zero_add] at hap
  rcases hq : (S.feed resv .idle p 0).2 with q | ⟨e, pl⟩
  · rw [hq] at hst hap
    simp only at hst hap
    obtain ⟨ha, hsn, hla⟩ := hst
    rw [List.length_append] at hl
    refine (feed_calls hS hsn hla (by simp) q ha s l hs (by omega)).mono ?_
    rintro e w' ⟨v, rfl, o, m, fd⟩
    rw [List.nil_append] at o
    have e1 : (S.feed resv .idle (p ++ l) 0).1 = (S.feed resv .idle p 0).1 ++ (S.feed resv q l p.length).1 := by rw [hap]
    have e2 : (S.feed resv .idle (p ++ l) 0).2 = (S.feed resv q l p.length).2 := by rw [hap]
    rcases hr : (S.feed resv q l p.length).2 with q' | ⟨e, pl⟩
    · rw [hr] at fd e2
      obtain ⟨c', acc', tv', h', a', s', l', k'⟩ := fd
      refine ⟨v, tv', _, rfl, e1, told_of lo tlo hB o m h'.tmine k', ⟨lo, oth_lo lo tlo hB h'.tmine, c', acc', h'.oth, ?_⟩⟩
      rw [e2]
      simp only [List.length_append]
      exact ⟨a', s', l'⟩
    · rw [hr] at fd e2
      obtain ⟨c', acc', tv', h', a', k'⟩ := fd
      refine ⟨v, tv', _, rfl, e1, told_of lo tlo hB o m h'.tmine k', ⟨lo, oth_lo lo tlo hB h'.tmine, c', acc', h'.oth, ?_⟩⟩
      rw [e2]
      exact a'
  · rw [hq] at hst hap
    simp only at hst hap
    obtain ⟨hf, hp, he⟩ := hst
    have e0 := feed_good p .idle 0 e pl hq
    refine (feed_dead hS (.inr ⟨he, by rw [hf]; exact e0⟩) s).mono ?_
    rintro x w' ⟨rfl, b, hh⟩
    have e1 : (S.feed resv .idle (p ++ l) 0).1 = (S.feed resv .idle p 0).1 ++ [] := by rw [hap, List.append_nil]
    have e2 : (S.feed resv .idle (p ++ l) 0).2 = .inr (e, pl) := by rw [hap]
    have k' : Kp (Oth w g tv) w w' := ⟨b.os, b.tape, b.output, b.size, fun k hk _ => b.block k hk⟩
    have h' : SS (Oth w' g tv) w' g c acc [] tv (.slice none 0 0) := by
      have := hS
      refine ⟨by rw [hh]; exact this.blk, fun q => q.2.1 rfl, ?_, fun k e q => q.2.2 e, World.ownsRow_nil _ _ _ _, fun k e => by simp [Value.ownBlock] at e, this.cls.kept this.cF k', ?_, fun k q => q.1⟩
      · have ht := this.text
        unfold World.ownsRow at ht ⊢
        rw [hh]
        exact ht
      · have := this.cF
        exact ⟨by rw [hh]; exact this.1, this.2⟩
    refine ⟨.slice none 0 0, tv, [], rfl, e1, told_of lo tlo hB (World.ownsRow_nil _ _ _ _) (fun k e => by simp [Value.ownBlock] at e) (fun k e q => q.2.2 e) k', ⟨lo, tlo, c, acc, h', ?_⟩⟩
    rw [e2]
    exact ⟨hf, hp, he⟩
set_option maxRecDepth 100000 in
theorem scn_end (w : World) (B g : Nat) (tv : Value) (p : List UInt8) (h : Scn w B g tv p) (hB : B ≤ w.heap.size) (hl : p.length ≤ 1073741824) :
    Calls Tryd.prog 30 #[.pointer (some ⟨g, 0, none⟩)] w fun e w' => ∃ v tv' D, e = .returned (.tuple #[v, .int .i64 (S.run resv .idle p 0).2.1, .int .i64 (S.run resv .idle p 0).2.2]) ∧ (S.run resv .idle p 0).1 = (S.feed resv .idle p 0).1 ++ D ∧ Told w w' B g tv v tv' D ∧ Over w' B g tv' (S.run resv .idle p 0).2.1 (S.run resv .idle p 0).2.2 := by
  obtain ⟨lo, tlo, c, acc, hS, hst⟩ := h
  have hap := S.run_append resv [] p .idle 0
  rw [Nat.zero_add, List.append_nil] at hap
  rcases hq : (S.feed resv .idle p 0).2 with q | ⟨e, pl⟩
  · rw [hq] at hst hap
    simp only at hst
    have hap2 : S.run resv .idle p 0 = ((S.feed resv .idle p 0).1 ++ (S.stop resv q p.length).1, (S.stop resv q p.length).2.1, (S.stop resv q p.length).2.2) := hap
    obtain ⟨ha, hsn, hla⟩ := hst
    rw [hap2]
    refine (end_ok hS hsn (by omega) (by simp) q ha).mono ?_
    rintro e w' ⟨v, rfl, o, m, c', acc', tv', h', a', k'⟩
    rw [List.nil_append] at o
    exact ⟨v, tv', _, rfl, rfl, told_of lo tlo hB o m h'.tmine k', ⟨lo, oth_lo lo tlo hB h'.tmine, c', acc', h'.oth, a'⟩⟩
  · rw [hq] at hst hap
    simp only at hst
    have hap2 : S.run resv .idle p 0 = ((S.feed resv .idle p 0).1, e, pl) := hap
    obtain ⟨hf, hp, he⟩ := hst
    have e0 := feed_good p .idle 0 e pl hq
    rw [hap2]
    refine (end_err hS e pl (.inr e0) hf hp).mono ?_
    rintro x w' ⟨rfl, o, m, c', acc', tv', h', a', k'⟩
    exact ⟨_, tv', [], rfl, by rw [List.append_nil], told_of lo tlo hB o m h'.tmine k', ⟨lo, oth_lo lo tlo hB h'.tmine, c', acc', h'.oth, a'⟩⟩
theorem over_feed (w : World) (B g : Nat) (tv : Value) (e pl : Nat) (h : Over w B g tv e pl) (s : ByteArray) :
    Calls Tryd.prog 7 #[.pointer (some ⟨g, 0, none⟩), .string s] w fun x w' => x = .returned (.slice none 0 0) ∧ Below w.heap.size w w' ∧ w'.heap = w.heap := by
  obtain ⟨c, acc, hS, hf, hp, he⟩ := h.st
  exact feed_dead hS (.inl he) s
theorem over_end (w : World) (B g : Nat) (tv : Value) (e pl : Nat) (h : Over w B g tv e pl) :
    Calls Tryd.prog 30 #[.pointer (some ⟨g, 0, none⟩)] w fun x w' => x = .returned (.tuple #[.slice none 0 0, .int .i64 e, .int .i64 pl]) ∧ Ch ([some g] ++ [tv.ownBlock]) w w' := by
  obtain ⟨c, acc, hS, hf, hp, he⟩ := h.st
  refine (end_err hS e pl (.inl he) hf hp).mono ?_
  rintro x w' ⟨rfl, o, m, c', acc', tv', h', a', k'⟩
  exact ⟨rfl, k'.ch⟩
end Go.Proofs.YtjbalgjdcdmjjaaDoor
/- ==== PieceKeep ==== -/
namespace Go.Proofs.YtjbalgjdcdmjjaaDoor
open Go.RowKit
set_option linter.unusedVariables false
theorem Mine.trow {w : World} {B : Nat} {v : Value} {ts : List S.Tok} (h : Mine 66 4 w B v ts.length (tksCells ts)) : TRow w v ts := by
  obtain ⟨a, c, h1, h2⟩ := h
  have h3 := ownsRow.trow h1
  rcases h2 with rfl | rfl
  · exact h3
  · obtain ⟨a', c', e, q1, q2, q3⟩ := h3
    cases e
    exact ⟨a, _, rfl, Nat.le_refl _, by omega, q3⟩
theorem Mine.typed {T : TypeId} {size n B : Nat} {w : World} {v : Value} {xs : List Value} (h : Mine T size w B v n xs) {k : Nat} (hk : v.ownBlock = some k) : ∃ cur, w.heap[k]? = some (.cells cur T (0, 0)) := by
  obtain ⟨a, c, h1, h2⟩ := h
  rcases h1.2 with ⟨q, _⟩ | ⟨g, cap, cur, q, hB, hg, _⟩
  · cases q
    rcases h2 with rfl | rfl <;> cases hk
  · cases q
    obtain rfl : g = k := by rcases h2 with rfl | rfl <;> simpa [Value.ownBlock] using hk
    exact ⟨cur, hg⟩
/-- A block of another type is none of the scanner's. -/
theorem SS.typed {F : Nat → Prop} {w : World} {g : Nat} {c : Sc} {acc : List UInt8} {ts : List S.Tok} {tv ov : Value} (h : SS F w g c acc ts tv ov) {T : TypeId} (h1 : 74 ≠ T) (h2 : 5 ≠ T) {k : Nat} {cur : Array Value} {fz : Nat × Nat} (hk : w.heap[k]? = some (.cells cur T fz)) : Oth w g tv k := by
  refine ⟨(Array.getElem?_eq_some_iff.1 hk).1, fun e => ?_, fun e => ?_⟩
  · subst e
    have := h.blk.symm.trans hk
    simp at this
    exact h1 this.2.1
  · obtain ⟨cur', hg⟩ := (Mine.own h.text).typed e
    have := hg.symm.trans hk
    simp at this
    exact h2 this.2.1
theorem SS.keep {w w' : World} {g : Nat} {c : Sc} {acc : List UInt8} {tv : Value} (h : SS (Oth w g tv) w g c acc [] tv (.slice none 0 0)) {S : List (Option Nat)} (q : Ch S w w') (h1 : some g ∉ S) (h2 : ∀ k, tv.ownBlock = some k → some k ∉ S) (h3 : some 1 ∉ S) : SS (Oth w' g tv) w' g c acc [] tv (.slice none 0 0) := by
  have hb := (q.block g h.lt h1).trans h.blk
  refine ⟨hb, fun x => x.2.1 rfl, ?_, fun k e x => x.2.2 e, World.ownsRow_nil _ _ _ _, fun k e => by simp [Value.ownBlock] at e, ?_, ?_, fun k x => x.1⟩
  · exact ownsRow_same h.text fun b hb => q.block b (h.text.lt b hb).2 (h2 b hb)
  · intro j hj
    rw [World.cell?_of_block (w := w) (q.block _ h.cls.lt h3)]
    exact h.cls j hj
  · exact ⟨Nat.lt_of_lt_of_le h.cF.1 q.size, h.cF.2⟩
theorem Scn.keep {w w' : World} {B g : Nat} {tv : Value} {p : List UInt8} (h : Scn w B g tv p) {S : List (Option Nat)} (q : Ch S w w') (h1 : some g ∉ S) (h2 : ∀ k, tv.ownBlock = some k → some k ∉ S) (h3 : some 1 ∉ S) : Scn w' B g tv p := by
  obtain ⟨lo, tlo, c, acc, hS, hst⟩ := h
  exact ⟨lo, tlo, c, acc, hS.keep q h1 h2 h3, hst⟩
theorem Over.keep {w w' : World} {B g : Nat} {tv : Value} {e pl : Nat} (h : Over w B g tv e pl) {S : List (Option Nat)} (q : Ch S w w') (h1 : some g ∉ S) (h2 : ∀ k, tv.ownBlock = some k → some k ∉ S) (h3 : some 1 ∉ S) : Over w' B g tv e pl := by
  obtain ⟨lo, tlo, c, acc, hS, hst⟩ := h
  exact ⟨lo, tlo, c, acc, hS.keep q h1 h2 h3, hst⟩
/-- A list of another type that is written, or grown: the scanner stays. -/
theorem SS.off {F : Nat → Prop} {w : World} {g : Nat} {c : Sc} {acc : List UInt8} {ts : List S.Tok} {tv ov : Value} (h : SS F w g c acc ts tv ov) {T : TypeId} {size n B : Nat} {v : Value} {xs : List Value} (m : Mine T size w B v n xs) (h1 : 74 ≠ T) (h2 : 5 ≠ T) (hcl : 1 < B) :
    some g ∉ [v.ownBlock] ∧ (∀ k, tv.ownBlock = some k → some k ∉ [v.ownBlock]) ∧ some 1 ∉ [v.ownBlock] := by
  refine ⟨fun x => ?_, fun k hk x => ?_, fun x => ?_⟩
  · obtain ⟨cur, hg⟩ := m.typed (List.mem_singleton.1 x).symm
    exact (h.typed h1 h2 hg).2.1 rfl
  · obtain ⟨cur, hg⟩ := m.typed (List.mem_singleton.1 x).symm
    exact (h.typed h1 h2 hg).2.2 hk
  · have := m.block _ (List.mem_singleton.1 x).symm
    omega
theorem Scn.keepM {w w' : World} {B g : Nat} {tv : Value} {p : List UInt8} (h : Scn w B g tv p) {T : TypeId} {size n : Nat} {v : Value} {xs : List Value} (m : Mine T size w B v n xs) (h1 : 74 ≠ T) (h2 : 5 ≠ T) (hcl : 1 < B) (q : Ch [v.ownBlock] w w') : Scn w' B g tv p := by
  obtain ⟨c, acc, hS, hst⟩ := h.st
  obtain ⟨a, b, d⟩ := hS.off m h1 h2 hcl
  exact h.keep q a b d
theorem Over.keepM {w w' : World} {B g : Nat} {tv : Value} {e pl : Nat} (h : Over w B g tv e pl) {T : TypeId} {size n : Nat} {v : Value} {xs : List Value} (m : Mine T size w B v n xs) (h1 : 74 ≠ T) (h2 : 5 ≠ T) (hcl : 1 < B) (q : Ch [v.ownBlock] w w') : Over w' B g tv e pl := by
  obtain ⟨c, acc, hS, hst⟩ := h.st
  obtain ⟨a, b, d⟩ := hS.off m h1 h2 hcl
  exact h.keep q a b d
theorem Scn.below {w w' : World} {B g : Nat} {tv : Value} {p : List UInt8} (h : Scn w B g tv p) (b : Below w.heap.size w w') : Scn w' B g tv p := h.keep (Ch.of_below b) (by simp) (fun _ _ => by simp) (by simp)
theorem Over.below {w w' : World} {B g : Nat} {tv : Value} {e pl : Nat} (h : Over w B g tv e pl) (b : Below w.heap.size w w') : Over w' B g tv e pl := h.keep (Ch.of_below b) (by simp) (fun _ _ => by simp) (by simp)
theorem Scn.notOf {w : World} {B g : Nat} {tv : Value} {p : List UInt8} (h : Scn w B g tv p) {T : TypeId} (h1 : 74 ≠ T) (h2 : 5 ≠ T) : NotOf T w ([some g] ++ [tv.ownBlock]) := by
  obtain ⟨c, acc, hS, hst⟩ := h.st
  exact hS.notOf h1 h2
theorem Over.notOf {w : World} {B g : Nat} {tv : Value} {e pl : Nat} (h : Over w B g tv e pl) {T : TypeId} (h1 : 74 ≠ T) (h2 : 5 ≠ T) : NotOf T w ([some g] ++ [tv.ownBlock]) := by
  obtain ⟨c, acc, hS, hst⟩ := h.st
  exact hS.notOf h1 h2
theorem HE.Is.keepT {w w' : World} {B : Nat} {e : HE} (h : e.Is w B) {S : List (Option Nat)} (c : Ch S w w') (hS : NotOf 66 w S) : e.Is w' B := by
  obtain ⟨xs, ys, h1, h2, h3, h4⟩ := h
  exact ⟨xs, ys, h1.keepT c hS, h2, h3.keepT c hS, h4⟩
theorem Held.keepT {w w' : World} {B : Nat} {v : Value} {es : List HE} (h : Held w B v es) {S : List (Option Nat)} (c : Ch S w w') (hS : NotOf 66 w S) (hS2 : NotOf 39 w S) : Held w' B v es :=
  ⟨h.row.keepT c hS2, fun e he => (h.each e he).keepT c hS⟩
/-- None of the held lists lies at k. -/
def Free (es : List HE) (v : Value) : Prop := ∀ e ∈ es, ∀ k, v.ownBlock = some k → e.lv.ownBlock ≠ some k ∧ e.mv.ownBlock ≠ some k
theorem free_of {F : Nat → Prop} {w : World} {B g : Nat} {c : Sc} {acc : List UInt8} {ts : List S.Tok} {tv ov hv v : Value} {es : List HE} (h : SS F w g c acc ts tv ov) (H : Held w B hv es) (hv : ∀ k, v.ownBlock = some k → ¬ Oth w g tv k) : Free es v := fun e he k hk => by
  obtain ⟨xs, ys, h1, h2, h3, h4⟩ := H.each e he
  refine ⟨fun x => ?_, fun x => ?_⟩
  · obtain ⟨cur, hg⟩ := h1.typed x
    exact hv k hk (h.typed (by decide) (by decide) hg)
  · obtain ⟨cur, hg⟩ := h3.typed x
    exact hv k hk (h.typed (by decide) (by decide) hg)
theorem Held.written {w w' : World} {B : Nat} {hv v : Value} {es : List HE} {n : Nat} {xs : List Value} (h : Held w B hv es) (m : Mine 66 4 w B v n xs) (f : Free es v) (c : Ch [v.ownBlock] w w') : Held w' B hv es := by
  refine ⟨h.row.keepT c (NotOf.own m (by decide)), fun e he => ?_⟩
  obtain ⟨xs, ys, h1, h2, h3, h4⟩ := h.each e he
  exact ⟨xs, ys, h1.keep c (fun k hk hm => (f e he k (List.mem_singleton.1 hm).symm).1 hk), h2, h3.keep c (fun k hk hm => (f e he k (List.mem_singleton.1 hm).symm).2 hk), h4⟩
end Go.Proofs.YtjbalgjdcdmjjaaDoor
/- ==== PieceEnded ==== -/
namespace Go.Proofs.YtjbalgjdcdmjjaaDoor
open Go.RowKit
set_option linter.unusedVariables false
set_option maxRecDepth 100000 in
set_option maxHeartbeats 4000000 in
theorem fed_calls (w : World) (t : ByteArray) (p : List UInt8) (ht : t.data.toList = p) (s : ByteArray) (l : List UInt8) (hs : s.data.toList = l) (hl : l.length ≤ 1073741824) (hp : p.length ≤ 1073741824) (vg vw : Value) (D G R : List S.Tok) (hg : TRow w vg G) (hw : TRow w vw ((D ++ G) ++ R))
    (hD : ∀ t ∈ D ++ G, t.fin < p.length ∨ (t.fin = p.length ∧ S.now l t)) (hR : ∀ t ∈ R, p.length < t.fin ∨ (t.fin = p.length ∧ ¬ S.now l t)) (hb : ∀ t ∈ (D ++ G) ++ R, t.beg < l.length ∧ t.fin ≤ l.length) (hlen : ((D ++ G) ++ R).length ≤ 4294967298) :
    Calls Tryd.prog 8 #[.agg #[.string t, .int .i64 D.length], vg, vw, .string s] w fun e w' => e = .returned (.bool true) ∧ Below w.heap.size w w' := by
  obtain ⟨va, vc, rfl, n1, n2⟩ := hw.shape
  have hz := size_of t p ht
  have q0 := hide (fun W (q : Below w.heap.size w W) => certain_calls W _ (D ++ G) R (hw.below q) s l hs hl p.length hp hD hR hb hlen)
  obtain ⟨v2, hsl, hcut⟩ := hw.cutM D.length (D ++ G).length (by rw [List.length_append]; omega) (by simp only [List.length_append]; omega)
  have hcut2 : Hid (TRow w v2 G) := by
    have e : ((D ++ G ++ R).drop D.length).take ((D ++ G).length - D.length) = G := by
      rw [List.append_assoc, List.drop_left, List.length_append, Nat.add_sub_cancel_left, List.take_left]
    rw [← e]
    exact hcut
  have q1 := hide (fun W (q : Below w.heap.size w W) => same_calls W vg v2 G (hg.below q) (hcut2.out.below q) (by simp only [List.length_append] at hlen; omega))
  obtain ⟨N, hN⟩ : ∃ N, (D ++ G ++ R).length = N := ⟨_, rfl⟩
  obtain ⟨K, hK⟩ : ∃ K, D.length = K := ⟨_, rfl⟩
  obtain ⟨J, hJ⟩ : ∃ J, (D ++ G).length = J := ⟨_, rfl⟩
  have hKJ : K ≤ J := by rw [← hK, ← hJ, List.length_append]; omega
  obtain ⟨P, hP⟩ : ∃ P, p.length = P := ⟨_, rfl⟩
  rw [hN] at q0 n1 hsl ⊢
  rw [hK] at hsl ⊢
  rw [hJ] at hsl q0
  rw [hP] at q0 hz
  have i1 : ¬ (J : Int) < K := by omega
  have BA := hide ((Below.refl _ w).alloc (Nat.le_refl _) (.cells #[.string t, .int .i64 K] 32))
  clear hg hw hD hR hb hlen hcut hN hK hJ hP ht hs
  go_enter Tryd.func8, Tryd.ntmps8
  go_wp2_with fail
  refine (q0.out _ BA.out).mono ?_
  rintro x w1 ⟨rfl, b1⟩
  have BB := hide (BA.out.then_below b1)
  have q2 := hide (q1.out w1 BB.out)
  have X1 : Hid (w1.heap[w.heap.size]? = some (.cells #[.string t, .int .i64 K] 32 (0, 0))) := (b1.block _ (by simp)).trans (heap_alloc_new w _)
  have y1 : w1.cell? ⟨w.heap.size, 1, none⟩ = some (.int .i64 (K : Int)) := by rw [cell_of_row w1 _ _ _ _ (0, 0) X1.out]; rfl
  clear q0 q1 b1
  go_wp2_with fail
  refine q2.out.mono ?_
  rintro x w2 ⟨rfl, b2⟩
  go_wp2
  go_ret
  exact ⟨rfl, BB.out.then_below b2⟩
theorem Ch.weakB {S T : List (Option Nat)} {w w' : World} (h : Ch S w w') (q : ∀ k, k < w.heap.size → some k ∈ S → some k ∈ T) : Ch T w w' := ⟨h.os, h.tape, h.output, h.size, fun k hk hn => h.block k hk (fun e => hn (q k hk e))⟩
theorem infoHeld : (Tryd.prog.info? 39).map (fun i => (i.zero, i.size, i.bytes)) = some (some (.agg #[.slice none 0 0, .slice none 0 0, .int .i64 0]), 3, 56) := by kernel_rfl
theorem sliceHeld : Tryd.prog.underlying 34 = some (.slice 39) := by kernel_rfl
theorem three_new (w : World) (a b c : Value) (T : TypeId) : ∀ j u, ([a, b, c] : List Value)[j]? = some u → (w.alloc (.cells #[a, b, c] T)).cell? ((⟨w.heap.size, 0, none⟩ : Addr).add j) = some u := by
  intro j u hu
  rw [add_zero', cell_of_row _ _ j _ _ (0, 0) (heap_alloc_new w (.cells #[a, b, c] T))]
  simpa using hu
theorem Ch.grown {w w2 : World} {o : Obj} {r : Option Nat} (g : (w.alloc o).grownBy w2 r) : Ch [r] w w2 := by
  have := (Ch.alloc (S := []) (w := w) (wr := w) ⟨rfl, rfl, rfl, Nat.le_refl _, fun _ _ _ => rfl⟩ o).trans (Ch.of_grown g)
  simpa using this
set_option maxRecDepth 100000 in
set_option maxHeartbeats 8000000 in
theorem ended_calls (w : World) (hr : Rsv w) (B g : Nat) (tv : Value) (p : List UInt8) (hS : Scn w B g tv p) (hB : B ≤ w.heap.size) (hcl : 1 < B) (t : ByteArray) (ht : t.data.toList = p) (hl : p.length ≤ 1073741820) (hv : Value) (es : List HE) (H : Held w B hv es) (hn : es.length ≤ 4294967290) :
    Calls Tryd.prog 11 #[.pointer (some ⟨g, 0, none⟩), .agg #[.string t, .int .i64 (S.feed resv .idle p 0).1.length], hv] w fun e w' => e = .returned (.bool true) ∧ Held w' B hv es ∧ Ch ([some g] ++ [tv.ownBlock] ++ [hv.ownBlock]) w w' := by
  obtain ⟨j0, hi, hz0, hz1, hz2⟩ := info_parts infoHeld
  obtain ⟨ha, hc, rfl, n1, n2, -⟩ := H.row.shape
  obtain ⟨NE, hNE⟩ : ∃ N, es.length = N := ⟨_, rfl⟩
  obtain ⟨T, hT⟩ : ∃ N, (S.feed resv .idle p 0).1.length = N := ⟨_, rfl⟩
  have q0 := hide (rtokens_calls (w.alloc (.cells #[.string t, .int .i64 T] 32)) (hr.below ((Below.refl _ w).alloc (Nat.le_refl _) _)) t p ht (by omega))
  have qE := hide (fun W (q : Scn W B g tv p) (z : B ≤ W.heap.size) => scn_end W B g tv p q z (by omega))
  have many := run_many p
  have htz : t.size ≤ 1073741820 := by rw [size_of t p ht]; exact hl
  obtain ⟨O, hO⟩ : ∃ O, S.run resv .idle p 0 = O := ⟨_, rfl⟩
  rw [hO] at q0 qE many
  obtain ⟨ts, e, pl⟩ := O
  simp only at q0 qE many
  obtain ⟨N, hN⟩ : ∃ N, ts.length = N := ⟨_, rfl⟩
  have hH := hide H
  have hSh := hide hS
  rw [hNE] at n1 hn hH ⊢
  rw [hT]
  have hTh := hide hT
  have hNEh := hide hNE
  have hNh := hide hN
  rw [hN] at many
  have X1 := hide (heap_alloc_new w (.cells #[.string t, .int .i64 T] 32))
  have BA := hide ((Below.refl _ w).alloc (Nat.le_refl _) (.cells #[.string t, .int .i64 T] 32))
  clear hr hS H hNE hT hO hN ht
  go_enter Tryd.func11, Tryd.ntmps11
  go_wp2_with fail
  refine q0.out.mono ?_
  rintro x w2 ⟨v2, rfl, u2, b2⟩
  have B2 := hide (BA.out.then_below b2)
  have z2 := B2.out.size
  have zb : w.heap.size + 1 ≤ w2.heap.size := by have := b2.size; simpa using this
  have S2 := hide (hSh.out.below B2.out)
  have H2 := hide (hH.out.below B2.out)
  have X2 := hide ((b2.block _ (by simp)).trans X1.out)
  have W2 := hide (Mine.own u2)
  obtain ⟨a2, c2, rfl, -, -⟩ := (ownsRow.trow u2).shape
  simp only [hNh.out] at W2 ⊢
  clear q0 X1 BA u2 b2 hSh hH
  go_wp2_with fail
  refine (qE.out w2 S2.out (by omega)).mono ?_
  rintro x w3 ⟨v3, tv3, D, rfl, eD, T3, O3⟩
  have z3 := T3.ch.size
  have H3 := hide (H2.out.keepT T3.ch (S2.out.notOf (by decide) (by decide)) (S2.out.notOf (by decide) (by decide)))
  have X3 := hide (T3.ch.at_ (S2.out.notOf (T := 32) (by decide) (by decide)) X2.out)
  have W3 := W2.out.keepT T3.ch (S2.out.notOf (T := 66) (by decide) (by decide))
  have fr : Hid (Free es v3) := by
    obtain ⟨c, acc, q, -⟩ := S2.out.st
    exact free_of q H2.out T3.voth
  have r3 : TRow w3 (.slice a2 N c2) ts := Mine.trow (by rw [hNh.out]; exact W3)
  have hTN : T ≤ ts.length := by rw [eD, List.length_append, hTh.out]; omega
  have eT : ts.drop T = D := by rw [eD, ← hTh.out, List.drop_left]
  obtain ⟨u3, sl, r4⟩ := r3.cutL T hTN
  rw [eT] at r4
  have hDl : D.length ≤ N := by rw [← hNh.out, eD, List.length_append]; omega
  have q3 := hide (same_calls w3 v3 u3 D T3.trow r4 (by omega))
  have M3 := hide T3.row
  have c3 := hide T3.ch
  have oth3 := hide (And.intro T3.voth T3.toth)
  obtain ⟨a3, cp3, rfl, -, -⟩ := T3.trow.shape
  replace O3 := hide O3
  have y0 : w3.cell? ⟨w.heap.size, 0, none⟩ = some (.string t) := by rw [cell_of_row w3 _ _ _ _ (0, 0) X3.out]; rfl
  have y1 : w3.cell? ⟨w.heap.size, 1, none⟩ = some (.int .i64 (T : Int)) := by rw [cell_of_row w3 _ _ _ _ (0, 0) X3.out]; rfl
  rw [hNh.out] at hTN
  have i1 : ¬ (N : Int) < T := by omega
  obtain ⟨K, hK⟩ : ∃ K, D.length = K := ⟨_, rfl⟩
  rw [hK] at hDl M3 q3 ⊢
  have hKh := hide hK
  clear T3 W3 W2 r3 r4 eT qE hK H2 X2
  go_wp2_with fail
  refine q3.out.mono ?_
  rintro x w4 ⟨rfl, b4⟩
  have z4 := b4.size
  have H4 := hide (H3.out.below b4)
  have M4 := hide (M3.out.below b4)
  have O4 := hide (O3.out.below b4)
  have X4 := hide ((b4.block _ (by omega)).trans X3.out)
  replace y0 := (b4.cell (p := ⟨w.heap.size, 0, none⟩) (show w.heap.size < w3.heap.size by omega)).trans y0
  replace y1 := (b4.cell (p := ⟨w.heap.size, 1, none⟩) (show w.heap.size < w3.heap.size by omega)).trans y1
  replace b4 := hide b4
  clear q3 H3 M3 O3 X3 sl
  go_wp2_with fail
  refine (intact_calls w4 B _ es H4.out (by rw [hNEh.out]; omega)).mono ?_
  rintro x w5 ⟨rfl, b5⟩
  have z5 := b5.size
  have H5 := hide (H4.out.below b5)
  have M5 := hide (M4.out.below b5)
  have O5 := hide (O4.out.below b5)
  have X5 := hide ((b5.block _ (by omega)).trans X4.out)
  replace y0 := (b5.cell (p := ⟨w.heap.size, 0, none⟩) (show w.heap.size < w4.heap.size by omega)).trans y0
  replace y1 := (b5.cell (p := ⟨w.heap.size, 1, none⟩) (show w.heap.size < w4.heap.size by omega)).trans y1
  have c5 := hide ((c3.out.then b4.out).then b5)
  replace b5 := hide b5
  clear H4 M4 O4 X4 c3 b4 b5
  go_wp2_with fail
  refine (hold_calls w5 B _ K _ M5.out (by omega) (by omega) NE (by omega)).mono ?_
  rintro x w6 ⟨⟨u, xs', ys, rfl, N1, N2, N3, N4, N5⟩, c6⟩
  have z6 := c6.size
  have H6 := hide (H5.out.written M5.out (by rw [← hKh.out]; exact fr.out) c6)
  have O6 := hide (O5.out.keepM M5.out (by decide) (by decide) hcl c6)
  have X6 := hide (c6.at_ (NotOf.own M5.out (by decide)) X5.out)
  obtain ⟨ua, uc, rfl, -, -, -⟩ := N3.shape
  have XI := hide (show HE.Is w6 B ⟨.slice a3 K cp3, .slice ua (K + 1) uc, K, NE⟩ from ⟨xs', ys, N1, N2, N3, N4, (show K ≤ 4294967298 by omega), (show NE ≤ 4294967296 by omega)⟩)
  replace c6 := hide c6
  clear H5 M5 O5 X5 N1 N2 N3 N4 N5 y0 y1
  have H6r := hide (show Mine 39 3 w6 B (.slice ha NE hc) NE (hcells es) by have := H6.out.row; rwa [hNEh.out] at this)
  go_wp2_with (at_builtin; (refine wpList_append_kept _ rfl _ _ 34 rfl B 39 j0 (.agg #[.slice none 0 0, .slice none 0 0, .int .i64 0]) 3 56 sliceHeld hi hz0 hz1 hz2 rfl (by decide) _ NE (hcells es) rfl (H6r.out.alloc _) ⟨w6.heap.size, 0, none⟩ [.slice a3 K cp3, .slice ua (K + 1) uc, .int .i64 NE] rfl rfl (three_new _ _ _ _ _) (by simp [Value.oneCell']) (by unfold maxLen; omega) (by omega) (by simp; omega) ?_; intro gq cap w7 o7 m7 at7 gr7; have c7 : Ch [Value.ownBlock (.slice ha NE hc)] w6 w7 := Ch.grown gr7; have m7' : Mine 39 3 w7 B (.slice ha NE hc) NE (hcells es) := m7; have X7 := c7.at_ (NotOf.own H6r.out (by decide)) X6.out; have y0 : w7.cell? ⟨w.heap.size, 0, none⟩ = some (.string t) := (by rw [cell_of_row w7 _ _ _ _ (0, 0) X7]; rfl); have nt := NotOf.own H6r.out (show 39 ≠ 66 by decide); have H7 := hide (show Held w7 B (.slice ha NE hc) es from ⟨by rw [hNEh.out]; exact m7', fun e he => (H6.out.each e he).keepT c7 nt⟩); have E7 := hide (show Held w7 B (.slice (some ⟨gq, 0, none⟩) (NE + 1) cap) (es ++ [⟨.slice a3 K cp3, .slice ua (K + 1) uc, K, NE⟩]) from ⟨by rw [List.length_append, List.length_singleton, hNEh.out, hcells_snoc]; exact Mine.own o7, fun e he => by rcases List.mem_append.1 he with he | he; exact (H6.out.each e he).keepT c7 nt; rw [List.mem_singleton] at he; subst he; exact XI.out.keepT c7 nt⟩); have O7 := hide (O6.out.keepM H6r.out (by decide) (by decide) hcl c7); have z7 := c7.size; replace c7 := hide c7; clear o7 m7 m7' at7 gr7 X7 nt X6 H6 H6r O6 XI))
  refine (over_feed w7 B g tv3 e pl O7.out _).mono ?_
  rintro x w8 ⟨rfl, b8, -⟩
  have z8 := b8.size
  have H8 := hide (H7.out.below b8)
  have E8 := hide (E7.out.below b8)
  have O8 := hide (O7.out.below b8)
  replace b8 := hide b8
  clear H7 E7 O7 y0
  go_wp2_with fail
  refine (over_end w8 B g tv3 e pl O8.out).mono ?_
  rintro x w9 ⟨rfl, c9⟩
  have z9 := c9.size
  have H9 := hide (H8.out.keepT c9 (O8.out.notOf (by decide) (by decide)) (O8.out.notOf (by decide) (by decide)))
  have E9 := hide (E8.out.keepT c9 (O8.out.notOf (by decide) (by decide)) (O8.out.notOf (by decide) (by decide)))
  replace c9 := hide c9
  clear H8 E8 O8
  go_wp2_with fail
  refine (intact_calls w9 B _ _ E9.out (by rw [List.length_append, List.length_singleton, hNEh.out]; omega)).mono ?_
  rintro x w10 ⟨rfl, b10⟩
  have H10 := hide (H9.out.below b10)
  replace b10 := hide b10
  clear H9 E9
  go_wp2
  go_ret
  refine ⟨rfl, H10.out, ?_⟩
  have all := (((((Ch.of_below B2.out).trans c5.out).trans c6.out).trans c7.out).then b8.out |>.trans c9.out).then b10.out
  refine all.weakB (fun k hk hm => ?_)
  obtain ⟨oa, ob⟩ := oth3.out
  simp only [List.nil_append, List.mem_append, List.mem_singleton] at hm
  rw [List.mem_cons, List.mem_cons, List.mem_singleton]
  have dec : ∀ v : Value, (∀ k, v.ownBlock = some k → ¬ Oth w2 g tv k) → some k = v.ownBlock → some k = some g ∨ some k = tv.ownBlock := fun v hv e => by
    by_cases h1 : k = g
    · exact .inl (by rw [h1])
    · by_cases h2 : tv.ownBlock = some k
      · exact .inr h2.symm
      · exact absurd ⟨by omega, h1, h2⟩ (hv k e.symm)
  rcases hm with ((((h | h) | h) | h) | (h | h))
  · exact .inl h
  · exact .inr (.inl h)
  · rcases dec (.slice a3 D.length cp3) oa (by rw [hKh.out]; exact h) with h | h
    · exact .inl h
    · exact .inr (.inl h)
  · exact .inr (.inr h)
  · exact .inl h
  · rcases dec _ ob h with h | h
    · exact .inl h
    · exact .inr (.inl h)
end Go.Proofs.YtjbalgjdcdmjjaaDoor
/- ==== PieceIn ==== -/
namespace Go.Proofs.YtjbalgjdcdmjjaaDoor
open Go.RowKit Go.Deep
set_option linter.unusedVariables false
structure Pc where
  sec : Bool
  text : ByteArray
def Pc.z : Pc := ⟨false, ByteArray.empty⟩
/-- How many bytes they hold. -/
def pcw : List Pc → Nat
  | [] => 0
  | x :: r => x.text.data.toList.length + pcw r
/-- What the one scanner, the other one is fed in all. -/
def catP (b : Bool) : List Pc → List UInt8
  | [] => []
  | x :: r => (if x.sec = b then x.text.data.toList else []) ++ catP b r
theorem catP_append (b : Bool) (p q : List Pc) : catP b (p ++ q) = catP b p ++ catP b q := by
  induction p with
  | nil => rfl
  | cons x r ih => simp only [List.cons_append, catP, ih, List.append_assoc]
theorem catP_le (b : Bool) (p : List Pc) : (catP b p).length ≤ pcw p := by
  induction p with
  | nil => exact Nat.le_refl _
  | cons x r ih =>
    simp only [catP, pcw, List.length_append]
    split
    · omega
    · simp; omega
theorem catP_next (b : Bool) (p : List Pc) (i : Nat) (h : i < p.length) : catP b (p.take (i + 1)) = catP b (p.take i) ++ (if (p.getD i Pc.z).sec = b then (p.getD i Pc.z).text.data.toList else []) := by
  have e : p.take (i + 1) = p.take i ++ [p.getD i Pc.z] := by
    rw [List.take_add_one, List.getElem?_eq_getElem h, List.getD_eq_getElem?_getD, List.getElem?_eq_getElem h]; rfl
  rw [e, catP_append]
  simp [catP]
theorem catP_take (b : Bool) (p : List Pc) (i : Nat) : (catP b p).take (catP b (p.take i)).length = catP b (p.take i) ∧ (catP b (p.take i)).length ≤ (catP b p).length := by
  have e : catP b p = catP b (p.take i) ++ catP b (p.drop i) := by rw [← catP_append, List.take_append_drop]
  refine ⟨?_, ?_⟩
  · conv => lhs; arg 2; rw [e]
    exact List.take_left' rfl
  · rw [e, List.length_append]
    omega
/-- The slice value v holds the pieces ps. -/
def PRow (w : World) (v : Value) (ps : List Pc) : Prop :=
  ∃ a cap, v = .slice a ps.length cap ∧ ps.length ≤ cap ∧ cap ≤ 9223372036854775807 ∧
    (ps ≠ [] → ∃ b off, a = some ⟨b, off, none⟩ ∧ ∀ j, j < ps.length →
      w.cell? ⟨b, off + j * 2, none⟩ = some (.bool (ps.getD j Pc.z).sec) ∧ w.cell? ⟨b, off + j * 2 + 1, none⟩ = some (.string (ps.getD j Pc.z).text))
theorem PRow.below {w w' : World} {v : Value} {ps : List Pc} (h : PRow w v ps) (q : Below w.heap.size w w') : PRow w' v ps := by
  obtain ⟨a, cap, rfl, h1, h2, h4⟩ := h
  refine ⟨a, cap, rfl, h1, h2, fun hne => ?_⟩
  obtain ⟨g, off, rfl, hc⟩ := h4 hne
  refine ⟨g, off, rfl, fun j hj => ?_⟩
  obtain ⟨c0, c1⟩ := hc j hj
  have hg : g < w.heap.size := World.block_lt_of_cell? w _ c0
  exact ⟨(q.cell (p := ⟨g, _, none⟩) hg).trans c0, (q.cell (p := ⟨g, _, none⟩) hg).trans c1⟩
theorem PRow.at_ {w : World} {a : Option Addr} {n cap : Nat} {ps : List Pc} (h : PRow w (.slice a n cap) ps) {j : Nat} (hj : j < ps.length) :
    ∃ b off, a = some ⟨b, off, none⟩ ∧ w.cell? ⟨b, off + j * 2, none⟩ = some (.bool (ps.getD j Pc.z).sec) ∧ w.cell? ⟨b, off + j * 2 + 1, none⟩ = some (.string (ps.getD j Pc.z).text) := by
  obtain ⟨a', cap', e, h1, h2, h4⟩ := h
  cases e
  obtain ⟨b, off, rfl, hc⟩ := h4 (by rintro rfl; exact absurd hj (Nat.not_lt_zero _))
  exact ⟨b, off, rfl, hc j hj⟩
theorem PRow.shape {w : World} {v : Value} {ps : List Pc} (h : PRow w v ps) : ∃ a cap, v = .slice a ps.length cap ∧ ps.length ≤ cap ∧ cap ≤ 9223372036854775807 := by
  obtain ⟨a, cap, rfl, h1, h2, h4⟩ := h
  exact ⟨a, cap, rfl, h1, h2⟩
theorem underPc : ∃ f0 f1 : Field, Tryd.prog.underlying 25 = some (.struct #[f0, f1]) ∧ (f0.offset = 0 ∧ f0.type = 4) ∧ (f1.offset = 1 ∧ f1.type = 9) :=
  ⟨_, _, Tryd.underlying25, ⟨rfl, rfl⟩, rfl, rfl⟩
theorem cellsPc : Tryd.prog.cellsOf 25 = 2 := by kernel_rfl
theorem cellsBool : Tryd.prog.cellsOf 4 = 1 := by kernel_rfl
theorem cellsString : Tryd.prog.cellsOf 9 = 1 := by kernel_rfl
theorem addr2 {w : World} {a : Addr} {u : Value} (j f : Nat) (h : w.cell? ((a.add (j * 2)).add f) = some u) : w.cell? ⟨a.block, a.off + j * 2 + f, none⟩ = some u := by
  have hs := World.cell?_spot h
  have e : (a.add (j * 2)).add f = ⟨a.block, a.off + j * 2 + f, none⟩ := by
    obtain ⟨b, off, spot⟩ := a
    simp only [Addr.add] at hs ⊢
    split <;> split <;> simp_all
  rw [← e]
  exact h
theorem pcw_bulk {H : Type} : ∀ (ps : List Pc) (ds : List (DataW H)), ps.length = ds.length → (∀ j, j < ps.length → (ps.getD j Pc.z).text.data.toList.length + 1 ≤ Rows.uptoBulk (ds.getD j .nil)) → pcw ps + ps.length ≤ Rows.uptoBulkAll ds
  | [], ds, _, _ => Nat.zero_le _
  | x :: ps, [], h, _ => by simp at h
  | x :: ps, d :: ds, h, hj => by
    have h0 := hj 0 (by simp)
    have ih := pcw_bulk ps ds (by simpa using h) (fun j hjl => by
      have := hj (j + 1) (by simp; omega)
      simpa using this)
    simp only [List.getD_cons_zero] at h0
    simp only [pcw, Rows.uptoBulkAll, List.length_cons]
    omega
set_option maxRecDepth 100000 in
theorem open_pieces {H : Type} {enc : TypeId × Value → H} {w : World} {held : Bool} {fuel : Nat} {v : Value} {x : DataW H × List MemPlace} (hv : ∃ a n c, v = .slice a n c)
    (h : DataW.trod enc Tryd.prog w 0 (fun _ => true) held fuel 22 v.cells.toList = some x) : ∃ ps, PRow w v ps ∧ pcw ps + ps.length ≤ Rows.uptoBulk x.1 := by
  obtain ⟨va, vn, vc, rfl⟩ := hv
  rcases open_slice (t := 22) (e := 25) (by kernel_rfl) h with ⟨hcs, _⟩ | ⟨a, len, cap, m, n, D, Pl, hcs, hb, hl, hm, hmm, rfl, hx⟩
  · simp [Value.cells] at hcs
    obtain ⟨rfl, rfl, rfl⟩ := hcs
    exact ⟨[], ⟨none, 0, rfl, by simp, by simp, fun h => absurd rfl h⟩, Nat.zero_le _⟩
  · simp [Value.cells] at hcs
    obtain ⟨rfl, rfl, rfl⟩ := hcs
    simp only [if_true] at hmm
    subst hmm
    obtain ⟨f0, f1, hu, ⟨o0, t0⟩, o1, t1⟩ := underPc
    rw [cellsPc] at hx
    have each : ∀ j, j < m → ∃ x : Pc, (w.cell? ⟨a.block, a.off + j * 2, none⟩ = some (.bool x.sec) ∧ w.cell? ⟨a.block, a.off + j * 2 + 1, none⟩ = some (.string x.text)) ∧ x.text.data.toList.length + 1 ≤ Rows.uptoBulk (D j) := by
      intro j hj
      obtain ⟨cs, h1, h2⟩ := hx j hj
      obtain ⟨_, hlen, hcell⟩ := World.cells?_some h1
      obtain ⟨xs, k, hk, hxy, _, hxl, hf⟩ := DataW.trod_struct hu h2
      match cs, hlen with
      | [v0, v1], _ =>
        match xs, hxl with
        | [y0, y1], _ =>
          have g0 := hf 0 f0 rfl
          have g1 := hf 1 f1 rfl
          simp [o0, t0, cellsBool] at g0
          simp [o1, t1, cellsString] at g1
          obtain ⟨n0, e0, z0⟩ := DataW.trod_bool Tryd.underlying4 g0
          obtain ⟨s4, e4, z4, -⟩ := DataW.trod_string Tryd.underlying9 g1
          cases e0; cases e4
          have hD : D j = .agg [.lit (.bool n0), .lit (.string s4.data.toList)] := by
            have := (Prod.mk.inj hxy).1
            rw [this, z0, z4]
            rfl
          refine ⟨⟨n0, s4⟩, ⟨addr2 j 0 (hcell 0 (by omega)), addr2 j 1 (hcell 1 (by omega))⟩, ?_⟩
          rw [hD]
          simp only [Rows.uptoBulk, Rows.uptoBulkAll]
          omega
    have inh : Inhabited Pc := ⟨Pc.z⟩
    obtain ⟨X, hX⟩ := choose_lt each
    have hw := pcw_bulk ((List.range vn).map X) ((List.range vn).map D) (by simp) (fun j hj => by
        simp only [List.length_map, List.length_range] at hj
        have e : ((List.range vn).map X).getD j Pc.z = X j := by simp [List.getD_eq_getElem?_getD, hj]
        have e2 : ((List.range vn).map D).getD j .nil = D j := by simp [List.getD_eq_getElem?_getD, hj]
        rw [e, e2]
        exact (hX j (by omega)).2)
    have hlen2 : ((List.range vn).map X).length = vn := by simp
    simp only [Rows.uptoBulk]
    obtain ⟨b, off, spot⟩ := a
    refine ⟨(List.range vn).map X, ⟨some ⟨b, off, spot⟩, m, by rw [hlen2], by rw [hlen2]; omega, by unfold maxLen at hm; omega, fun hne => ?_⟩, by omega⟩
    have h0 : 0 < vn := by
      apply Nat.pos_of_ne_zero
      rintro rfl
      simp at hne
    have hsp : spot = none := by
      obtain ⟨cs, h1, _⟩ := hx 0 (by omega)
      obtain ⟨_, hlen, hcell⟩ := World.cells?_some h1
      have := hcell 0 (by omega)
      match cs, hlen with
      | [v0, v1], _ => simpa [Addr.add] using World.cell?_spot this
    subst hsp
    refine ⟨b, off, rfl, fun j hj => ?_⟩
    rw [hlen2] at hj
    have e : ((List.range vn).map X).getD j Pc.z = X j := by simp [List.getD_eq_getElem?_getD, hj]
    rw [e]
    exact (hX j (by omega)).1
end Go.Proofs.YtjbalgjdcdmjjaaDoor
/- ==== PieceNew ==== -/
namespace Go.Proofs.YtjbalgjdcdmjjaaDoor
open Go.RowKit
set_option linter.unusedVariables false
set_option maxRecDepth 100000 in
theorem becomeX_calls {F : Nat → Prop} {w : World} {g : Nat} {c : Sc} {acc : List UInt8} {ts : List S.Tok} {tv ov : Value} (h : SS F w g c acc ts tv ov) (a b : Nat) :
    Calls Tryd.prog 50 #[.pointer (some ⟨g, 0, none⟩), mv a g, mv b g] w fun e w' => e = .returned (.tuple #[]) ∧ SS F w' g { c with step := mv a g, stop := mv b g } acc ts tv ov ∧ Kp F w w' := by
  obtain ⟨c0, c1, -⟩ := h.cells
  have fz := h.frozen
  have h1 := hide ((h.set 0 (mv a g) { c with step := mv a g } rfl).set 1 (mv b g) { c with step := mv a g, stop := mv b g } rfl)
  have k1 := hide (((Kp.refl F w).set h.mine 0 (mv a g)).set h.mine 1 (mv b g))
  unfold mv at *
  go_enter Tryd.func50, Tryd.ntmps50
  go_wp2
  go_end0
  exact ⟨rfl, h1.out, k1.out⟩
set_option maxRecDepth 100000 in
theorem idleX_calls {F : Nat → Prop} {w : World} {g : Nat} {c : Sc} {acc : List UInt8} {ts : List S.Tok} {tv ov : Value} (h : SS F w g c acc ts tv ov) :
    Calls Tryd.prog 25 #[.pointer (some ⟨g, 0, none⟩)] w fun e w' => e = .returned (.tuple #[]) ∧ SS F w' g { c with step := mv 51 g, stop := mv 52 g } acc ts tv ov ∧ Kp F w w' := by
  have q := hide (becomeX_calls h 51 52)
  have hmf : ∀ (fn : Fn) (first cap : Array Value) (w : World), (Instr.makeFunc fn first cap).run Tryd.prog w = .ok (.func fn first cap) w := fun _ _ _ _ => rfl
  go_enter Tryd.func25, Tryd.ntmps25
  go_wp2_with (go_at_call 50; refine q.out.mono ?_; rintro e w1 ⟨rfl, q1⟩)
  go_end0
  exact ⟨rfl, q1⟩
set_option maxRecDepth 100000 in
set_option maxHeartbeats 1600000 in
theorem scn_new (w : World) (B : Nat) (hc : Cls w) (hB : B ≤ w.heap.size) :
    Calls Tryd.prog 6 #[] w fun e w' => ∃ g, e = .returned (.pointer (some ⟨g, 0, none⟩)) ∧ Scn w' B g (.slice none 0 0) [] ∧ Below w.heap.size w w' ∧ w.heap.size ≤ g := by
  have h0 := hide (SS.fresh (F := fun k => k < w.heap.size) hc (fun _ h => h) hc.lt)
  have k0 := hide ((Kp.refl (fun k => k < w.heap.size) w).alloc (.cells (Sc.zero.arr (.slice none 0 0) (.slice none 0 0)) 74))
  clear hc
  go_enter Tryd.func6, Tryd.ntmps6
  go_wp2_with (go_at_call 25; refine (idleX_calls h0.out).mono ?_; rintro e w1 ⟨rfl, h1, k1⟩; replace h1 := hide h1; replace k1 := hide k1)
  go_ret
  refine ⟨_, rfl, ⟨hB, fun k e => by simp [Value.ownBlock] at e, _, _, h1.out.oth, ?_⟩, Kp.below (k0.out.trans k1.out), Nat.le_refl _⟩
  show AtS _ .idle _ [] ∧ _
  exact ⟨⟨rfl, rfl⟩, ⟨rfl, rfl, rfl, rfl⟩, by simp⟩
/-- Two scanners side by side. -/
structure Two (w : World) (B ga gb : Nat) (ta tb : Value) (pa pb : List UInt8) : Prop where
  a : Scn w B ga ta pa
  b : Scn w B gb tb pb
  ne : ga ≠ gb
  off : ∀ k, ta.ownBlock = some k → tb.ownBlock = some k → False
theorem Two.symm {w : World} {B ga gb : Nat} {ta tb : Value} {pa pb : List UInt8} (h : Two w B ga gb ta tb pa pb) : Two w B gb ga tb ta pb pa := ⟨h.b, h.a, fun e => h.ne e.symm, fun k x y => h.off k y x⟩
theorem Two.below {w w' : World} {B ga gb : Nat} {ta tb : Value} {pa pb : List UInt8} (h : Two w B ga gb ta tb pa pb) (q : Below w.heap.size w w') : Two w' B ga gb ta tb pa pb := ⟨h.a.below q, h.b.below q, h.ne, h.off⟩
theorem Two.keepM {w w' : World} {B ga gb : Nat} {ta tb : Value} {pa pb : List UInt8} (h : Two w B ga gb ta tb pa pb) {T : TypeId} {size n : Nat} {v : Value} {xs : List Value} (m : Mine T size w B v n xs) (h1 : 74 ≠ T) (h2 : 5 ≠ T) (hcl : 1 < B) (q : Ch [v.ownBlock] w w') : Two w' B ga gb ta tb pa pb := ⟨h.a.keepM m h1 h2 hcl q, h.b.keepM m h1 h2 hcl q, h.ne, h.off⟩
/-- What one scanner changes is not the other's. -/
theorem Two.apart {w : World} {B ga gb : Nat} {ta tb : Value} {pa pb : List UInt8} (h : Two w B ga gb ta tb pa pb) (hcl : 1 < B) :
    some gb ∉ [some ga] ++ [ta.ownBlock] ∧ (∀ k, tb.ownBlock = some k → some k ∉ [some ga] ++ [ta.ownBlock]) ∧ some 1 ∉ [some ga] ++ [ta.ownBlock] := by
  obtain ⟨ca, aa, Sa, -⟩ := h.a.st
  obtain ⟨cb, ab, Sb, -⟩ := h.b.st
  refine ⟨fun x => ?_, fun k hk x => ?_, fun x => ?_⟩
  · simp only [List.mem_append, List.mem_singleton] at x
    rcases x with x | x
    · exact h.ne (Option.some.inj x).symm
    · obtain ⟨cur, q⟩ := (Mine.own Sa.text).typed x.symm
      have := q.symm.trans Sb.blk
      simp at this
  · simp only [List.mem_append, List.mem_singleton] at x
    rcases x with x | x
    · obtain rfl := Option.some.inj x
      obtain ⟨cur, q⟩ := (Mine.own Sb.text).typed hk
      have := q.symm.trans Sa.blk
      simp at this
    · exact h.off k x.symm hk
  · simp only [List.mem_append, List.mem_singleton] at x
    rcases x with x | x
    · have := h.a.lo
      have := Option.some.inj x
      omega
    · have := h.a.tlo _ x.symm
      omega
theorem Two.step {w w' : World} {B ga gb : Nat} {ta tb v ta' : Value} {pa pb pa' : List UInt8} {D : List S.Tok} (h : Two w B ga gb ta tb pa pb) (hcl : 1 < B) (t : Told w w' B ga ta v ta' D) (s : Scn w' B ga ta' pa') : Two w' B ga gb ta' tb pa' pb := by
  obtain ⟨x, y, z⟩ := h.apart hcl
  obtain ⟨ca, aa, Sa, -⟩ := h.a.st
  obtain ⟨cb, ab, Sb, -⟩ := h.b.st
  refine ⟨s, h.b.keep t.ch x y z, h.ne, fun k p q => ?_⟩
  refine t.toth k p ⟨(Sb.text.lt k q).2, fun e => ?_, fun e => h.off k e q⟩
  exact y k q (by rw [e]; simp)
end Go.Proofs.YtjbalgjdcdmjjaaDoor
/- ==== PieceState ==== -/
namespace Go.Proofs.YtjbalgjdcdmjjaaDoor
open Go.RowKit
set_option linter.unusedVariables false
theorem NotOf.ne {T : TypeId} {w : World} {S : List (Option Nat)} (h : NotOf T w S) {k : Nat} {cur : Array Value} {fz : Nat × Nat} (hk : w.heap[k]? = some (.cells cur T fz)) : some k ∉ S := fun x => by
  obtain ⟨cur', U, fz', a, b⟩ := h k x
  have := a.symm.trans hk
  simp at this
  exact b this.2.1
theorem Two.keepN {w w' : World} {B ga gb : Nat} {ta tb : Value} {pa pb : List UInt8} (h : Two w B ga gb ta tb pa pb) (hcl : 1 < B) {S : List (Option Nat)} (c : Ch S w w') (h1 : NotOf 74 w S) (h2 : NotOf 5 w S) (h3 : ∀ k, some k ∈ S → B ≤ k) : Two w' B ga gb ta tb pa pb := by
  obtain ⟨ca, aa, Sa, -⟩ := h.a.st
  obtain ⟨cb, ab, Sb, -⟩ := h.b.st
  have hc : some 1 ∉ S := fun x => by have := h3 _ x; omega
  refine ⟨h.a.keep c (h1.ne Sa.blk) (fun k hk => ?_) hc, h.b.keep c (h1.ne Sb.blk) (fun k hk => ?_) hc, h.ne, h.off⟩
  · obtain ⟨cur, q⟩ := (Mine.own Sa.text).typed hk
    exact h2.ne q
  · obtain ⟨cur, q⟩ := (Mine.own Sb.text).typed hk
    exact h2.ne q
/-- No block in common. -/
def NoTok (u v : Value) : Prop := ∀ k, u.ownBlock = some k → v.ownBlock ≠ some k
structure PS (w wr : World) (bW ga gb : Nat) (F0 F1 t0 t1 : ByteArray) (T0 T1 : Nat) (v0 v1 : Value) (ts0 ts1 : List S.Tok) (hv : Value) (es : List HE) (ta tb : Value) (p0 p1 : List UInt8) : Prop where
  bel : Below w.heap.size w wr
  full : wr.heap[w.heap.size]? = some (.cells #[.string F0, .string F1] 23 (0, 0))
  walk : wr.heap[bW]? = some (.cells #[.string t0, .int .i64 T0, .string t1, .int .i64 T1] 33 (0, 0))
  wlo : w.heap.size ≤ bW
  w0 : Mine 66 4 wr w.heap.size v0 ts0.length (tksCells ts0)
  w1 : Mine 66 4 wr w.heap.size v1 ts1.length (tksCells ts1)
  two : Two wr w.heap.size ga gb ta tb p0 p1
  held : Held wr w.heap.size hv es
section
variable {w wr w' : World} {bW ga gb : Nat} {F0 F1 t0 t1 : ByteArray} {T0 T1 : Nat} {v0 v1 : Value} {ts0 ts1 : List S.Tok} {hv : Value} {es : List HE} {ta tb : Value} {p0 p1 : List UInt8}
theorem PS.below (h : PS w wr bW ga gb F0 F1 t0 t1 T0 T1 v0 v1 ts0 ts1 hv es ta tb p0 p1) (b : Below wr.heap.size wr w') : PS w w' bW ga gb F0 F1 t0 t1 T0 T1 v0 v1 ts0 ts1 hv es ta tb p0 p1 :=
  ⟨h.bel.then_below b, (b.block _ (Array.getElem?_eq_some_iff.1 h.full).1).trans h.full, (b.block _ (Array.getElem?_eq_some_iff.1 h.walk).1).trans h.walk, h.wlo, h.w0.below b, h.w1.below b, h.two.below b, h.held.below b⟩
/-- A change that leaves these types alone. -/
theorem PS.keepN (h : PS w wr bW ga gb F0 F1 t0 t1 T0 T1 v0 v1 ts0 ts1 hv es ta tb p0 p1) (hcl : 1 < w.heap.size) {S : List (Option Nat)} (c : Ch S wr w') (h3 : ∀ k, some k ∈ S → w.heap.size ≤ k) (q0 : NotOf 23 wr S) (q1 : NotOf 33 wr S) (q2 : NotOf 66 wr S) (q3 : NotOf 74 wr S) (q4 : NotOf 5 wr S) (q5 : NotOf 39 wr S) :
    PS w w' bW ga gb F0 F1 t0 t1 T0 T1 v0 v1 ts0 ts1 hv es ta tb p0 p1 :=
  ⟨h.bel.trans (c.below h.bel.size (fun x hx k e => h3 k (e ▸ hx))), c.at_ q0 h.full, c.at_ q1 h.walk, h.wlo, h.w0.keepT c q2, h.w1.keepT c q2, h.two.keepN hcl c q3 q4 h3, h.held.keepT c q2 q5⟩
theorem PS.setW (h : PS w wr bW ga gb F0 F1 t0 t1 T0 T1 v0 v1 ts0 ts1 hv es ta tb p0 p1) (hcl : 1 < w.heap.size) (j : Nat) (u : Value) {t0' t1' : ByteArray} {T0' T1' : Nat}
    (e : (#[.string t0, .int .i64 T0, .string t1, .int .i64 T1] : Array Value).setIfInBounds j u = #[.string t0', .int .i64 T0', .string t1', .int .i64 T1']) : PS w (wr.setCell ⟨bW, j, none⟩ u) bW ga gb F0 F1 t0' t1' T0' T1' v0 v1 ts0 ts1 hv es ta tb p0 p1 := by
  have c : Ch [some bW] wr (wr.setCell ⟨bW, j, none⟩ u) := Ch.set ⟨rfl, rfl, rfl, Nat.le_refl _, fun _ _ _ => rfl⟩ rfl j u
  have n : ∀ T, 33 ≠ T → NotOf T wr [some bW] := fun T hT => NotOf.one h.walk hT
  have lo : ∀ k, some k ∈ [some bW] → w.heap.size ≤ k := fun k hk => by
    rw [List.mem_singleton] at hk
    have := h.wlo
    cases hk
    exact this
  refine ⟨h.bel.trans (c.below h.bel.size (fun x hx k e => lo k (e ▸ hx))), c.at_ (n _ (by decide)) h.full, ?_, h.wlo, h.w0.keepT c (n _ (by decide)), h.w1.keepT c (n _ (by decide)), h.two.keepN hcl c (n _ (by decide)) (n _ (by decide)) lo, h.held.keepT c (n _ (by decide)) (n _ (by decide))⟩
  rw [heap_setCell_same wr bW j _ _ u h.walk, e]
theorem PS.drew (h : PS w wr bW ga gb F0 F1 t0 t1 T0 T1 v0 v1 ts0 ts1 hv es ta tb p0 p1) : PS w wr.drew bW ga gb F0 F1 t0 t1 T0 T1 v0 v1 ts0 ts1 hv es ta tb p0 p1 := h.below (Below.refl _ _).drew
theorem told_lo {B g : Nat} {tv v tv' : Value} {D : List S.Tok} {p : List UInt8} (h : Scn wr B g tv p) (t : Told wr w' B g tv v tv' D) : ∀ k, some k ∈ [some g] ++ [tv.ownBlock] → B ≤ k := fun k hk => by
  simp only [List.mem_append, List.mem_singleton] at hk
  rcases hk with e | e
  · have := h.lo
    have := Option.some.inj e
    omega
  · exact h.tlo k e.symm
theorem noTok_of {B g : Nat} {tv v u : Value} {p : List UInt8} {n : Nat} {xs : List Value} (h : Scn wr B g tv p) (m : Mine 66 4 wr B u n xs) (hv : ∀ k, v.ownBlock = some k → ¬ Oth wr g tv k) : NoTok v u := fun k hk hu => by
  obtain ⟨c, acc, q, -⟩ := h.st
  obtain ⟨cur, x⟩ := m.typed hu
  exact hv k hk (q.typed (by decide) (by decide) x)
/-- The one scanner has been fed. -/
theorem PS.fedA (h : PS w wr bW ga gb F0 F1 t0 t1 T0 T1 v0 v1 ts0 ts1 hv es ta tb p0 p1) (hcl : 1 < w.heap.size) {v ta' : Value} {D : List S.Tok} {p0' : List UInt8} (t : Told wr w' w.heap.size ga ta v ta' D) (s : Scn w' w.heap.size ga ta' p0') :
    PS w w' bW ga gb F0 F1 t0 t1 T0 T1 v0 v1 ts0 ts1 hv es ta' tb p0' p1 ∧ (Free es v ∧ NoTok v v0 ∧ NoTok v v1) := by
  have n : ∀ T, 74 ≠ T → 5 ≠ T → NotOf T wr ([some ga] ++ [ta.ownBlock]) := fun T a b => h.two.a.notOf a b
  refine ⟨⟨h.bel.trans (t.ch.below h.bel.size (fun x hx k e => told_lo h.two.a t k (e ▸ hx))), t.ch.at_ (n _ (by decide) (by decide)) h.full, t.ch.at_ (n _ (by decide) (by decide)) h.walk, h.wlo, h.w0.keepT t.ch (n _ (by decide) (by decide)), h.w1.keepT t.ch (n _ (by decide) (by decide)), h.two.step hcl t s, h.held.keepT t.ch (n _ (by decide) (by decide)) (n _ (by decide) (by decide))⟩, ?_, noTok_of h.two.a h.w0 t.voth, noTok_of h.two.a h.w1 t.voth⟩
  obtain ⟨c, acc, q, -⟩ := h.two.a.st
  exact free_of q h.held t.voth
theorem PS.fedB (h : PS w wr bW ga gb F0 F1 t0 t1 T0 T1 v0 v1 ts0 ts1 hv es ta tb p0 p1) (hcl : 1 < w.heap.size) {v tb' : Value} {D : List S.Tok} {p1' : List UInt8} (t : Told wr w' w.heap.size gb tb v tb' D) (s : Scn w' w.heap.size gb tb' p1') :
    PS w w' bW ga gb F0 F1 t0 t1 T0 T1 v0 v1 ts0 ts1 hv es ta tb' p0 p1' ∧ (Free es v ∧ NoTok v v0 ∧ NoTok v v1) := by
  have n : ∀ T, 74 ≠ T → 5 ≠ T → NotOf T wr ([some gb] ++ [tb.ownBlock]) := fun T a b => h.two.b.notOf a b
  refine ⟨⟨h.bel.trans (t.ch.below h.bel.size (fun x hx k e => told_lo h.two.b t k (e ▸ hx))), t.ch.at_ (n _ (by decide) (by decide)) h.full, t.ch.at_ (n _ (by decide) (by decide)) h.walk, h.wlo, h.w0.keepT t.ch (n _ (by decide) (by decide)), h.w1.keepT t.ch (n _ (by decide) (by decide)), (h.two.symm.step hcl t s).symm, h.held.keepT t.ch (n _ (by decide) (by decide)) (n _ (by decide) (by decide))⟩, ?_, noTok_of h.two.b h.w0 t.voth, noTok_of h.two.b h.w1 t.voth⟩
  obtain ⟨c, acc, q, -⟩ := h.two.b.st
  exact free_of q h.held t.voth
/-- A list that was told is written over. -/
theorem PS.written (h : PS w wr bW ga gb F0 F1 t0 t1 T0 T1 v0 v1 ts0 ts1 hv es ta tb p0 p1) (hcl : 1 < w.heap.size) {v : Value} {n : Nat} {xs : List Value} (m : Mine 66 4 wr w.heap.size v n xs) (f : Free es v ∧ NoTok v v0 ∧ NoTok v v1) (c : Ch [v.ownBlock] wr w') :
    PS w w' bW ga gb F0 F1 t0 t1 T0 T1 v0 v1 ts0 ts1 hv es ta tb p0 p1 := by
  have no : ∀ T, 66 ≠ T → NotOf T wr [v.ownBlock] := fun T hT => NotOf.own m hT
  have lo : ∀ k, some k ∈ [v.ownBlock] → w.heap.size ≤ k := fun k hk => (m.block k (List.mem_singleton.1 hk).symm).1
  exact ⟨h.bel.trans (c.below h.bel.size (fun x hx k e => lo k (e ▸ hx))), c.at_ (no _ (by decide)) h.full, c.at_ (no _ (by decide)) h.walk, h.wlo, h.w0.keep c (fun k hk hm => f.2.1 k (List.mem_singleton.1 hm).symm hk), h.w1.keep c (fun k hk hm => f.2.2 k (List.mem_singleton.1 hm).symm hk), h.two.keepM m (by decide) (by decide) hcl c, h.held.written m f.1 c⟩
/-- The held lists have grown by one. -/
theorem PS.grown (h : PS w wr bW ga gb F0 F1 t0 t1 T0 T1 v0 v1 ts0 ts1 hv es ta tb p0 p1) (hcl : 1 < w.heap.size) {hv' : Value} {e : HE} (he : e.Is wr w.heap.size) (c : Ch [hv.ownBlock] wr w') (r : Mine 39 3 w' w.heap.size hv' (es ++ [e]).length (hcells (es ++ [e]))) :
    PS w w' bW ga gb F0 F1 t0 t1 T0 T1 v0 v1 ts0 ts1 hv' (es ++ [e]) ta tb p0 p1 := by
  have m := h.held.row
  have no : ∀ T, 39 ≠ T → NotOf T wr [hv.ownBlock] := fun T hT => NotOf.own m hT
  have lo : ∀ k, some k ∈ [hv.ownBlock] → w.heap.size ≤ k := fun k hk => (m.block k (List.mem_singleton.1 hk).symm).1
  refine ⟨h.bel.trans (c.below h.bel.size (fun x hx k e => lo k (e ▸ hx))), c.at_ (no _ (by decide)) h.full, c.at_ (no _ (by decide)) h.walk, h.wlo, h.w0.keepT c (no _ (by decide)), h.w1.keepT c (no _ (by decide)), h.two.keepN hcl c (no _ (by decide)) (no _ (by decide)) lo, ⟨r, fun x hx => ?_⟩⟩
  rcases List.mem_append.1 hx with hx | hx
  · exact (h.held.each x hx).keepT c (no _ (by decide))
  · rw [List.mem_singleton] at hx
    subst hx
    exact he.keepT c (no _ (by decide))
end
/-- What one more piece tells, against what is certain. -/
theorem certain_of (b : Bool) (ps : List Pc) (i : Nat) : ∃ R, (S.run resv .idle (catP b ps) 0).1 = (S.feed resv .idle (catP b (ps.take i)) 0).1 ++ R ∧
    (∀ t, t ∈ (S.feed resv .idle (catP b (ps.take i)) 0).1 → t.fin < (catP b (ps.take i)).length ∨ (t.fin = (catP b (ps.take i)).length ∧ S.now (catP b ps) t)) ∧
    ∀ t, t ∈ R → (catP b (ps.take i)).length < t.fin ∨ (t.fin = (catP b (ps.take i)).length ∧ ¬ S.now (catP b ps) t) := by
  obtain ⟨h1, h2⟩ := catP_take b ps i
  have := S.feed_certain resv (catP b ps) (catP b (ps.take i)).length h2
  rw [h1] at this
  exact this
end Go.Proofs.YtjbalgjdcdmjjaaDoor
