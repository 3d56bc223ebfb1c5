/- Laid together of: NodeBase, NodeMath, NodeInside, NodeStack. -/
import Derived.Test.YtjbalgjdcdmjjaaDoorTextBase
import Derived.Laws.AppendOwn
import Derived.Maps.AppendAt
import Derived.WalkSmall
/- ==== NodeBase ==== -/
namespace Go.Proofs.YtjbalgjdcdmjjaaDoor
open Go.RowKit
set_option linter.unusedVariables false
/-- A node: its kind, place, end, size and text. -/
structure Nd where
  kind : Int
  pos : Int
  fin : Int
  size : Int
  text : ByteArray
def Nd.cells (x : Nd) : List Value := [.int .i64 x.kind, .int .i64 x.pos, .int .i64 x.fin, .int .i64 x.size, .string x.text]
def Nd.z : Nd := ⟨0, 0, 0, 0, ByteArray.empty⟩
/-- May the node stand at i, in a list that ends at hi? -/
def Nd.ok (x : Nd) (i hi : Int) : Prop :=
  (x.kind = 1 ∧ x.text.toList = [] ∧ 1 ≤ x.size ∧ x.size ≤ hi - i) ∨ (x.kind ≠ 1 ∧ 3 ≤ x.kind ∧ x.kind ≤ 10 ∧ x.size = 1)
/-- The slice value v holds the nodes ns, in a block below B. -/
def Nds (B : Nat) (w : World) (v : Value) (ns : List Nd) : Prop :=
  ∃ a cap, v = .slice a ns.length cap ∧ ns.length ≤ cap ∧ (cap ≤ 9223372036854775807 ∧ ns.length ≤ 2932031007402) ∧ (a = none → ns = []) ∧
    (ns ≠ [] → ∃ b off, a = some ⟨b, off, none⟩ ∧ b < B ∧ ∀ j, j < ns.length →
      w.cell? ⟨b, off + j * 5, none⟩ = some (.int .i64 (ns.getD j Nd.z).kind) ∧
      w.cell? ⟨b, off + j * 5 + 1, none⟩ = some (.int .i64 (ns.getD j Nd.z).pos) ∧
      w.cell? ⟨b, off + j * 5 + 2, none⟩ = some (.int .i64 (ns.getD j Nd.z).fin) ∧
      w.cell? ⟨b, off + j * 5 + 3, none⟩ = some (.int .i64 (ns.getD j Nd.z).size) ∧
      w.cell? ⟨b, off + j * 5 + 4, none⟩ = some (.string (ns.getD j Nd.z).text))
theorem Nds.below {B : Nat} {w w' : World} {v : Value} {ns : List Nd} (h : Nds B w v ns) (b : Below B w w') : Nds B w' v ns := by
  obtain ⟨a, cap, rfl, h1, h2, h3, h4⟩ := h
  refine ⟨a, cap, rfl, h1, h2, h3, fun hne => ?_⟩
  obtain ⟨g, off, rfl, hg, hc⟩ := h4 hne
  refine ⟨g, off, rfl, hg, fun j hj => ?_⟩
  obtain ⟨c0, c1, c2, c3, c4⟩ := hc j hj
  exact ⟨(b.cell (p := ⟨g, _, none⟩) hg).trans c0, (b.cell (p := ⟨g, _, none⟩) hg).trans c1, (b.cell (p := ⟨g, _, none⟩) hg).trans c2, (b.cell (p := ⟨g, _, none⟩) hg).trans c3, (b.cell (p := ⟨g, _, none⟩) hg).trans c4⟩
theorem Nds.mono {B B' : Nat} {w : World} {v : Value} {ns : List Nd} (h : Nds B w v ns) (hB : B ≤ B') : Nds B' w v ns := by
  obtain ⟨a, cap, rfl, h1, h2, h3, h4⟩ := h
  refine ⟨a, cap, rfl, h1, h2, h3, fun hne => ?_⟩
  obtain ⟨g, off, rfl, hg, hc⟩ := h4 hne
  exact ⟨g, off, rfl, by omega, hc⟩
end Go.Proofs.YtjbalgjdcdmjjaaDoor
/- ==== NodeMath ==== -/
namespace Go.Proofs.YtjbalgjdcdmjjaaDoor
open Go.RowKit
set_option linter.unusedVariables false
def Nd.okB (x : Nd) (i hi : Int) : Bool :=
  decide ((x.kind = 1 ∧ x.text.toList = [] ∧ 1 ≤ x.size ∧ x.size ≤ hi - i) ∨ (x.kind ≠ 1 ∧ 3 ≤ x.kind ∧ x.kind ≤ 10 ∧ x.size = 1))
theorem okB_iff (x : Nd) (i hi : Int) : x.okB i hi = true ↔ x.ok i hi := decide_eq_true_iff
theorem okB_yes {x : Nd} {i hi : Int} (h : x.ok i hi) : x.okB i hi = true := (okB_iff x i hi).2 h
theorem okB_no {x : Nd} {i hi : Int} (h : ¬ x.ok i hi) : x.okB i hi = false := by
  cases hb : x.okB i hi
  · rfl
  · exact absurd ((okB_iff x i hi).1 hb) h
/-- The nodes r from i on, with the ends S of the lists that are open (the innermost first). -/
def fo : List Nd → Nat → List Nat → Bool
  | [], _, _ => true
  | x :: r, i, S =>
    match S.dropWhile (fun e => decide (e = i)) with
    | [] => false
    | top :: S' => if x.okB i top then fo r (i + 1) (if x.kind = 1 then (i + x.size.toNat) :: top :: S' else top :: S') else false
def forestB (ns : List Nd) : Bool := fo ns 0 [ns.length]
theorem fo_pop (r : List Nd) (i : Nat) (S : List Nat) : fo r i (i :: S) = fo r i S := by
  cases r with
  | nil => rfl
  | cons x r => simp [fo]
theorem fo_no {x : Nd} {r : List Nd} {i top : Nat} {S : List Nat} (ht : top ≠ i) (h : ¬ x.ok i top) : fo (x :: r) i (top :: S) = false := by
  simp [fo, ht, okB_no h]
theorem fo_open {x : Nd} {r : List Nd} {i top : Nat} {S : List Nat} (ht : top ≠ i) (h : x.ok i top) (hk : x.kind = 1) : fo (x :: r) i (top :: S) = fo r (i + 1) ((i + x.size.toNat) :: top :: S) := by
  simp [fo, ht, okB_yes h, hk]
theorem fo_atom {x : Nd} {r : List Nd} {i top : Nat} {S : List Nat} (ht : top ≠ i) (h : x.ok i top) (hk : x.kind ≠ 1) : fo (x :: r) i (top :: S) = fo r (i + 1) (top :: S) := by
  simp [fo, ht, okB_yes h, hk]
/-- Each node ends within the list. -/
def Szs (ns : List Nd) : Prop := ∀ j, j < ns.length → 1 ≤ (ns.getD j Nd.z).size ∧ (j : Int) + (ns.getD j Nd.z).size ≤ ns.length
theorem fo_sizes (n : Nat) : ∀ (r : List Nd) (i : Nat) (S : List Nat), i + r.length ≤ n → (∀ e ∈ S, e ≤ n) → fo r i S = true → ∀ j, j < r.length → 1 ≤ (r.getD j Nd.z).size ∧ ((i + j : Nat) : Int) + (r.getD j Nd.z).size ≤ n := by
  intro r
  induction r with
  | nil => intro i S _ _ _ j hj; simp at hj
  | cons x r ih =>
    intro i S hi hS h j hj
    simp only [List.length_cons] at hi hj
    unfold fo at h
    cases hd : S.dropWhile (fun e => decide (e = i)) with
    | nil => rw [hd] at h; simp at h
    | cons top S' =>
      rw [hd] at h
      have hmem : ∀ e ∈ top :: S', e ≤ n := by
        intro e he
        rw [← hd] at he
        exact hS e ((List.dropWhile_sublist _).mem he)
      have htop := hmem top (by simp)
      by_cases hok : x.ok i top
      · simp only [okB_yes hok, if_true] at h
        have hx : 1 ≤ x.size ∧ ((i : Nat) : Int) + x.size ≤ n := by
          rcases hok with ⟨_, _, h1, h2⟩ | ⟨_, _, _, h1⟩ <;> omega
        cases j with
        | zero => simpa using hx
        | succ j =>
          have := ih (i + 1) _ (by omega) (by
            intro e he
            split at he
            · rcases List.mem_cons.1 he with rfl | he
              · omega
              · exact hmem e he
            · exact hmem e he) h j (by omega)
          rw [List.getD_cons_succ]
          have e1 : i + (j + 1) = i + 1 + j := by omega
          rw [e1]
          exact this
      · simp [okB_no hok] at h
theorem forest_sizes {ns : List Nd} (h : forestB ns = true) : Szs ns := by
  intro j hj
  have := fo_sizes ns.length ns 0 [ns.length] (by omega) (by simp) h j hj
  simpa using this
/-- The places of what stands from a on, up to e. -/
def kl (ns : List Nd) (e : Nat) : Nat → Nat → List Nat
  | 0, _ => []
  | k + 1, a => if a < e then a :: kl ns e k (a + (ns.getD a Nd.z).size.toNat) else []
theorem kl_end (ns : List Nd) (e k a : Nat) (h : e ≤ a) : kl ns e k a = [] := by
  cases k with
  | zero => rfl
  | succ k => rw [kl, if_neg (by omega)]
theorem kl_go (ns : List Nd) (e k a : Nat) (h : a < e) : kl ns e (k + 1) a = a :: kl ns e k (a + (ns.getD a Nd.z).size.toNat) := by rw [kl, if_pos h]
theorem kl_length (ns : List Nd) (e k a : Nat) : (kl ns e k a).length ≤ k := by
  induction k generalizing a with
  | zero => simp [kl]
  | succ k ih =>
    unfold kl
    split
    · simp only [List.length_cons]; have := ih (a + (ns.getD a Nd.z).size.toNat); omega
    · simp
/-- The end of the list at i; -1: of all. -/
def endOf (ns : List Nd) (i : Int) : Nat := if i < 0 then ns.length else i.toNat + (ns.getD i.toNat Nd.z).size.toNat
def kidsL (ns : List Nd) (i : Int) : List Nat := kl ns (endOf ns i) ns.length (i + 1).toNat
theorem endOf_le {ns : List Nd} (h : Szs ns) {i : Int} (hi : i < ns.length) : endOf ns i ≤ ns.length := by
  unfold endOf
  split
  · omega
  · have := h i.toNat (by omega); omega
/-- A list of ints of one's own. -/
def OwnS (w : World) (B : Nat) (v : Value) (xs : List Int) : Prop := w.ownsRow B 3 1 v xs.length (xs.map (Value.int .i64))
def RowI (w : World) (v : Value) (l : List Int) : Prop :=
  ∃ ao cap, v = .slice ao l.length cap ∧ l.length ≤ cap ∧ cap ≤ 9223372036854775807 ∧
    (l ≠ [] → ∃ b off, ao = some ⟨b, off, none⟩ ∧ b < w.heap.size ∧ ∀ j, j < l.length → w.cell? ⟨b, off + j, none⟩ = some (.int .i64 (l.getD j 0)))
theorem OwnS.row {w : World} {B : Nat} {v : Value} {xs : List Int} (h : OwnS w B v xs) : RowI w v xs := by
  obtain ⟨h1, h2⟩ := h
  rcases h2 with ⟨rfl, h0⟩ | ⟨g, cap, cur, rfl, hB, hg, hn, hm, hs, ht⟩
  · have : xs = [] := List.length_eq_zero_iff.1 h0
    subst this
    exact ⟨none, 0, rfl, by simp, by decide, fun h => absurd rfl h⟩
  · refine ⟨some ⟨g, 0, none⟩, cap, rfl, hn, by unfold maxLen at hm; omega, fun _ => ⟨g, 0, rfl, (Array.getElem?_eq_some_iff.1 hg).1, fun j hj => ?_⟩⟩
    have e : cur.toList[j]? = some (Value.int .i64 (xs.getD j 0)) := by
      have : (xs.map (Value.int .i64))[j]? = some (Value.int .i64 (xs.getD j 0)) := by
        rw [List.getElem?_map, List.getElem?_eq_getElem hj, List.getD_eq_getElem?_getD, List.getElem?_eq_getElem hj]; rfl
      rw [← ht, List.getElem?_take] at this
      split at this
      · exact this
      · cases this
    rw [Nat.zero_add, cell_of_row w g j cur _ (0, 0) hg]
    simpa using e
theorem RowI.below {w w' : World} {v : Value} {xs : List Int} (h : RowI w v xs) (b : Below w.heap.size w w') : RowI w' v xs := by
  obtain ⟨ao, cap, rfl, h1, h2, h3⟩ := h
  refine ⟨ao, cap, rfl, h1, h2, fun hne => ?_⟩
  obtain ⟨g, off, rfl, hg, hc⟩ := h3 hne
  exact ⟨g, off, rfl, Nat.lt_of_lt_of_le hg b.size, fun j hj => (b.cell (p := ⟨g, _, none⟩) hg).trans (hc j hj)⟩
theorem ndInfoInt : (Tryd.prog.info? 3).map (fun i => (i.zero, i.size, i.bytes)) = some (some (.int .i64 0), 1, 8) := by kernel_rfl
theorem ndSliceInt : Tryd.prog.underlying 53 = some (.slice 3) := by kernel_rfl
end Go.Proofs.YtjbalgjdcdmjjaaDoor
/- ==== NodeInside ==== -/
namespace Go.Proofs.YtjbalgjdcdmjjaaDoor
open Go.RowKit
set_option linter.unusedVariables false
theorem OwnS.snoc {w : World} {B : Nat} {v : Value} {xs : List Int} {x : Int} (h : w.ownsRow B 3 1 v (xs.length + 1) (xs.map (Value.int .i64) ++ [.int .i64 x])) : OwnS w B v (xs ++ [x]) := by
  unfold OwnS
  simpa using h
theorem Nds.at_ {B : Nat} {w : World} {a : Option Addr} {n cap : Nat} {ns : List Nd} (h : Nds B w (.slice a n cap) ns) {j : Nat} (hj : j < ns.length) :
    ∃ b off, a = some ⟨b, off, none⟩ ∧ b < B ∧ w.cell? ⟨b, off + j * 5, none⟩ = some (.int .i64 (ns.getD j Nd.z).kind) ∧
      w.cell? ⟨b, off + j * 5 + 1, none⟩ = some (.int .i64 (ns.getD j Nd.z).pos) ∧
      w.cell? ⟨b, off + j * 5 + 2, none⟩ = some (.int .i64 (ns.getD j Nd.z).fin) ∧
      w.cell? ⟨b, off + j * 5 + 3, none⟩ = some (.int .i64 (ns.getD j Nd.z).size) ∧
      w.cell? ⟨b, off + j * 5 + 4, none⟩ = some (.string (ns.getD j Nd.z).text) := by
  obtain ⟨a', cap', e, h1, h2, h3, h4⟩ := h
  cases e
  obtain ⟨b, off, rfl, hb, hc⟩ := h4 (by intro e; rw [e] at hj; simp at hj)
  obtain ⟨c0, c1, c2, c3, c4⟩ := hc j hj
  exact ⟨b, off, rfl, hb, c0, c1, c2, c3, c4⟩
end Go.Proofs.YtjbalgjdcdmjjaaDoor
/- ==== NodeStack ==== -/
namespace Go.Proofs.YtjbalgjdcdmjjaaDoor
open Go.RowKit
set_option linter.unusedVariables false
def lenOf : Value → Nat | .slice _ n _ => n | _ => 0
/-- The stack S (its top first) as it lies in memory. -/
def stk (S : List Nat) : List Int := (S.reverse).map (fun n : Nat => (n : Int))
theorem stk_len (S : List Nat) : (stk S).length = S.length := by simp [stk]
theorem stk_cons (a : Nat) (S : List Nat) : stk (a :: S) = stk S ++ [(a : Int)] := by simp [stk]
theorem stack_top {w : World} {B : Nat} {v : Value} {a : Nat} {T : List Nat} (h : OwnS w B v (stk (a :: T))) :
    ∃ g cap, v = .slice (some ⟨g, 0, none⟩) (T.length + 1) cap ∧ T.length + 1 ≤ cap ∧ cap ≤ 9223372036854775807 ∧ B ≤ g ∧ g < w.heap.size ∧
      w.cell? ⟨g, T.length, none⟩ = some (.int .i64 a) ∧ OwnS w B (.slice (some ⟨g, 0, none⟩) T.length cap) (stk T) := by
  have hr := h.row
  unfold OwnS at h
  rw [stk_len, List.length_cons] at h
  have h' := h
  obtain ⟨h1, h2⟩ := h
  rcases h2 with ⟨_, h0⟩ | ⟨g, cap, cur, rfl, hB, hg, hn, hm, hs, ht⟩
  · omega
  · refine ⟨g, cap, rfl, hn, by unfold maxLen at hm; omega, hB, (Array.getElem?_eq_some_iff.1 hg).1, ?_, ?_⟩
    · obtain ⟨ao, c, e, _, _, hc⟩ := hr
      rw [stk_len, List.length_cons] at e
      cases e
      obtain ⟨b, off, e, _, hc⟩ := hc (by rw [stk_cons]; simp)
      cases e
      have := hc T.length (by rw [stk_len, List.length_cons]; omega)
      rw [Nat.zero_add] at this
      rw [this, stk_cons]
      have e2 : (stk T ++ [(a : Int)]).getD T.length 0 = a := by
        rw [List.getD_eq_getElem?_getD, List.getElem?_append_right (by rw [stk_len]; exact Nat.le_refl _), stk_len]
        simp
      rw [e2]
    · rw [stk_cons, List.map_append] at h'
      have := ownsRow_pop (by rw [List.length_map, stk_len]; simp) h'
      unfold OwnS
      rw [stk_len]
      exact this
theorem ownsRow_below {w w' : World} {B : Nat} {e : TypeId} {size n : Nat} {v : Value} {xs : List Value} (h : w.ownsRow B e size v n xs) (b : Below w.heap.size w w') : w'.ownsRow B e size v n xs := by
  obtain ⟨h1, h2⟩ := h
  refine ⟨h1, ?_⟩
  rcases h2 with h2 | ⟨g, cap, cur, hv, hB, hg, hr⟩
  · exact .inl h2
  · exact .inr ⟨g, cap, cur, hv, hB, (b.block g (Array.getElem?_eq_some_iff.1 hg).1).trans hg, hr⟩
theorem OwnS.belowS {w w' : World} {B : Nat} {v : Value} {xs : List Int} (h : OwnS w B v xs) (b : Below w.heap.size w w') : OwnS w' B v xs := ownsRow_below h b
theorem thenB {B : Nat} {a w w' : World} (h : Below B a w) (b : Below w.heap.size w w') (hB : B ≤ w.heap.size) : Below B a w' := h.trans (b.mono hB)
theorem nd_drop_cons {ns : List Nd} {q : Nat} (h : q < ns.length) : ns.drop q = ns.getD q Nd.z :: ns.drop (q + 1) := by
  rw [List.drop_eq_getElem_cons h, List.getD_eq_getElem?_getD, List.getElem?_eq_getElem h]
  rfl
/-- What is known between two nodes. -/
def FoI (ns : List Nd) (q : Nat) (S : List Nat) : Prop :=
  fo (ns.drop q) q S = forestB ns ∧ (∀ e ∈ S, e ≤ ns.length) ∧ S.getLast? = some ns.length ∧ S.length ≤ q + 1
theorem FoI.start (ns : List Nd) : FoI ns 0 [ns.length] := ⟨rfl, by simp, rfl, by simp⟩
theorem FoI.fin {ns : List Nd} {S : List Nat} (h : FoI ns ns.length S) : forestB ns = true := by
  rw [← h.1, List.drop_length]; rfl
theorem FoI.top {ns : List Nd} {q : Nat} {S : List Nat} (h : FoI ns q S) : ∃ a T, S = a :: T ∧ a ≤ ns.length := by
  cases S with
  | nil => have := h.2.2.1; simp at this
  | cons a T => exact ⟨a, T, rfl, h.2.1 a (by simp)⟩
theorem FoI.pop {ns : List Nd} {q : Nat} {T : List Nat} (h : FoI ns q (q :: T)) (hq : q < ns.length) : FoI ns q T := by
  obtain ⟨h1, h2, h3, h4⟩ := h
  refine ⟨by rw [← h1, fo_pop], fun e he => h2 e (by simp [he]), ?_, by simp at h4; omega⟩
  cases T with
  | nil => simp at h3; omega
  | cons b T => rw [List.getLast?_cons_cons] at h3; exact h3
theorem FoI.no {ns : List Nd} {q a : Nat} {T : List Nat} (h : FoI ns q (a :: T)) (hq : q < ns.length) (ha : a ≠ q) (hk : ¬ (ns.getD q Nd.z).ok q a) : forestB ns = false := by
  rw [← h.1, nd_drop_cons hq, fo_no ha hk]
theorem FoI.list {ns : List Nd} {q a : Nat} {T : List Nat} (h : FoI ns q (a :: T)) (hq : q < ns.length) (ha : a ≠ q) (hk : (ns.getD q Nd.z).ok q a) (h1 : (ns.getD q Nd.z).kind = 1) :
    FoI ns (q + 1) ((q + (ns.getD q Nd.z).size.toNat) :: a :: T) := by
  obtain ⟨g1, g2, g3, g4⟩ := h
  have hs : 1 ≤ (ns.getD q Nd.z).size ∧ (ns.getD q Nd.z).size ≤ a - q := by
    rcases hk with ⟨_, _, h2, h3⟩ | ⟨h2, _⟩
    · exact ⟨h2, h3⟩
    · exact absurd h1 h2
  have ha2 := g2 a (by simp)
  refine ⟨by rw [← g1, nd_drop_cons hq, fo_open ha hk h1], ?_, by rw [List.getLast?_cons_cons]; exact g3, by simp only [List.length_cons] at g4 ⊢; omega⟩
  intro e he
  rcases List.mem_cons.1 he with rfl | he
  · omega
  · exact g2 e he
theorem FoI.atom {ns : List Nd} {q a : Nat} {T : List Nat} (h : FoI ns q (a :: T)) (hq : q < ns.length) (ha : a ≠ q) (hk : (ns.getD q Nd.z).ok q a) (h1 : (ns.getD q Nd.z).kind ≠ 1) :
    FoI ns (q + 1) (a :: T) := by
  obtain ⟨g1, g2, g3, g4⟩ := h
  exact ⟨by rw [← g1, nd_drop_cons hq, fo_atom ha hk h1], g2, g3, by omega⟩
theorem FoI.one {ns : List Nd} {q a : Nat} {T : List Nat} (h : FoI ns q (a :: T)) (hq : q < ns.length) (ha : a ≠ q) (hk : (ns.getD q Nd.z).ok q a) (h1 : (ns.getD q Nd.z).kind = 1) (h2 : (ns.getD q Nd.z).size = 1) :
    FoI ns (q + 1) (a :: T) := by
  have h3 := h.list hq ha hk h1
  obtain ⟨g1, g2, g3, g4⟩ := h
  obtain ⟨k1, k2, k3, k4⟩ := h3
  refine ⟨?_, g2, g3, by omega⟩
  rw [h2] at k1
  exact (fo_pop _ _ _).symm.trans k1
theorem ok_size {x : Nd} {q a : Nat} (h : x.ok q a) (ha : a ≠ q) : 1 ≤ x.size ∧ (x.kind = 1 → x.size ≤ (a : Int) - q) ∧ (x.kind ≠ 1 → x.size = 1) := by
  rcases h with ⟨h1, _, h2, h3⟩ | ⟨h1, _, _, h2⟩
  · exact ⟨h2, fun _ => h3, fun h => absurd h1 h⟩
  · exact ⟨by omega, fun h => absurd h h1, fun _ => h2⟩
end Go.Proofs.YtjbalgjdcdmjjaaDoor
