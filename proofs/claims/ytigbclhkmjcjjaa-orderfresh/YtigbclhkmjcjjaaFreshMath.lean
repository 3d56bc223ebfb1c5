/-
  What an append does to a list of the call's own, and to that list's old value; lists that are written full.
-/
import Derived.Test.YtigbclhkmjcjjaaRefSame
import Derived.OwnWalk
import Derived.ArgAppend
namespace Go.Proofs.Ytigbclhkmjcjjaa
open Go.RowKit
set_option linter.unusedVariables false
/-- An append onto a list of the call's own: the new list, the old one as it was, and where the new one lies. -/
theorem wpList_append_keeps {P : Program} (w : World) {ops : Array Oper} {rest : List Oper} {o : Oper} {a : Act} {Q : Exit → Act → World → Prop} (hgd : o.guard = none) (s x : Operand) (t : TypeId)
    (ho : o.op = .call { callee := .builtin .append, args := #[s, x], argTypes := #[t, t] })
    (base : Nat) (e : TypeId) (i : TypeInfo) (z : Value) (bytes : Nat) (ht : P.underlying t = some (.slice e)) (hi : P.info? e = some i) (hz : i.zero = some z)
    (hsize : i.size = 1) (hby : i.bytes = bytes) (hzs : z.cells.size = 1)
    (v : Value) (n : Nat) (xs : List Value) (hs : a.eval s = v) (hown : w.ownsRow base e 1 v n xs)
    (ad : Addr) (m c : Nat) (news : List Value) (hx : a.eval x = .slice (some ad) m c) (hl : news.length = m * 1) (hnews : ∀ j u, news[j]? = some u → w.cell? (ad.add j) = some u) (h1 : ∀ u ∈ news, u.oneCell' = true) (hm : 0 < m)
    (h63 : n + m ≤ maxLen) (hbytes : (n + m) * bytes ≤ 140737488355328) (hbase : base ≤ w.heap.size)
    (h : ∀ g cap w', w'.ownsRow base e 1 (.slice (some ⟨g, 0, none⟩) (n + m) cap) (n + m) (xs ++ news) → w'.ownsRow base e 1 v n xs → (v.ownBlock = some g ∨ w.heap.size ≤ g) → w.grownBy w' v.ownBlock → wpList P ops Q rest (a.put o.dst (.slice (some ⟨g, 0, none⟩) (n + m) cap)) w') : wpList P ops Q (o :: rest) a w := by
  have weak : ∀ {w' : World} {row : Option Nat}, w.grownBy w' none → w.grownBy w' row := fun q => ⟨q.os, q.tape, q.output, q.size, fun k hk _ => q.block k hk (by simp)⟩
  have grown : ∀ v' w', w'.ownsRow w.heap.size e 1 v' (n + m) (xs ++ news) → w.grownBy w' none → wpList P ops Q rest (a.put o.dst v') w' := by
    intro v' w' h2 h3
    have hold : w'.ownsRow base e 1 v n xs := hown.kept h3 (by cases v.ownBlock <;> simp)
    rcases id h2.2 with ⟨_, q⟩ | ⟨g, cap, cur, rfl, hB, hg, hr⟩
    · omega
    · exact h g cap w' (owns_base h2 hbase) hold (.inr hB) (weak h3)
  rcases id hown.2 with ⟨rfl, rfl⟩ | ⟨g, cap, cur, rfl, hB, hg, h5, h6, h7, h8⟩
  · exact wpList_append_grows w hgd s x t ho e i z 1 bytes ht hi hz hsize hby hzs (by decide) none 0 0 xs hs (fun _ => ⟨rfl, rfl⟩) hown.1 (fun b hb => by cases hb) ad m c news hx hl hnews h1 (by omega) h63 hbytes grown
  · by_cases hc : n + m ≤ cap
    · refine wpList_append_fits w hgd s x t ho base e i 1 ht hi hsize g n cap xs hs hown ad m c news hx hl hnews h1 hc (fun w' h2 h3 => ?_)
      refine h g cap w' h2 ?_ (.inl rfl) h3
      rcases id h2.2 with ⟨q, _⟩ | ⟨g', cap', cur', e', hB', hg', q1, q2, q3, q4⟩
      · cases q
      · cases e'
        refine ⟨hown.1, .inr ⟨g, cap, cur', rfl, hB', hg', h5, q2, q3, ?_⟩⟩
        have := congrArg (List.take (n * 1)) q4
        rw [List.take_take, Nat.min_eq_left (by omega), List.take_left' hown.1] at this
        exact this
    · exact wpList_append_grows w hgd s x t ho e i z 1 bytes ht hi hz hsize hby hzs (by decide) (some ⟨g, 0, none⟩) n cap xs hs (fun q => by cases q) hown.1 (fun b hb j u hu => by cases hb; exact hown.cells rfl j u hu) ad m c news hx hl hnews h1 (by omega) h63 hbytes grown
theorem cell_two_new (w : World) (x y : Value) (t : TypeId) : ∀ j u, [x, y][j]? = some u → (w.alloc (.cells #[x, y] t)).cell? ((⟨w.heap.size, 0, none⟩ : Addr).add j) = some u := by
  intro j u hj
  have hb := heap_alloc_new w (.cells #[x, y] t)
  rw [Addr.add_lit, Nat.zero_add, block_cell hb]
  rw [List.getElem?_toArray]
  exact hj
/-- The first k written over with z. -/
def over (z : Int) (l : List Nat) (k : Nat) : List Value := List.replicate k (Value.int .i64 z) ++ (l.drop k).map fun x : Nat => Value.int .i64 (x : Int)
theorem over_zero (z : Int) (l : List Nat) : over z l 0 = l.map fun x : Nat => Value.int .i64 (x : Int) := by simp [over]
theorem over_set (z : Int) {l : List Nat} {k : Nat} (h : k < l.length) : (over z l k).set k (.int .i64 z) = over z l (k + 1) := by
  unfold over
  rw [List.set_append_right _ _ (by simp), List.length_replicate, Nat.sub_self, List.drop_eq_getElem_cons h, List.map_cons, List.set_cons_zero, List.replicate_succ']
  simp
theorem over_len (z : Int) {l : List Nat} {k : Nat} (h : k ≤ l.length) : (over z l k).length = l.length := by
  unfold over
  rw [List.length_append, List.length_replicate, List.length_map, List.length_drop]
  omega
theorem over_all (z : Int) (l : List Nat) {j : Nat} (h : j < l.length) : (over z l l.length)[j]? = some (.int .i64 z) := by
  unfold over
  rw [List.getElem?_append_left (by simpa using h), List.getElem?_replicate, if_pos h]
theorem cell_set_ne {w : World} {g g' j j' : Nat} (u : Value) (h : g' ≠ g ∨ j' ≠ j) : (w.setCell ⟨g, j, none⟩ u).cell? ⟨g', j', none⟩ = w.cell? ⟨g', j', none⟩ := by
  refine World.cell?_setCell_other w _ _ u ?_
  intro c
  cases c
  rcases h with h | h <;> exact h rfl
end Go.Proofs.Ytigbclhkmjcjjaa
