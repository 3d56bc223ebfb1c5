/- Laid together of: Nats, Pow, Tens, ParseWord, ParseHalves, WriteWord. -/
import Derived.Test.YtlepicdpelkmlaaGreatDoorAll5
import Derived.Laws.AppendOwn
import Derived.Lib.ItoaMem
import Derived.Test.YtlepicdpelkmlaaGreatDoorAllMath
import Derived.Deep.RegionWith
import Derived.Deep.DeepCutAuto
import Derived.Deep.RegionHeld3
import Derived.Test.YtlepicdpelkmlaaGreatDoorAll1
/- ==== Nats ==== -/
namespace Go.Proofs.YtlepicdpelkmlaaGreatDoor
open Go.RowKit
set_option linter.unusedVariables false
theorem infoNat : (Tryz.prog.info? 90).map (fun i => (i.zero, i.size, i.bytes)) = some (some (.agg #[.int .u64 0, .slice none 0 0]), 2, 32) := by kernel_rfl
theorem sliceNat : Tryz.prog.underlying 127 = some (.slice 90) := by kernel_rfl
/-- Word, list, word, list ... -/
def Alt (l : List Value) : Prop := ∀ j u, l[j]? = some u → (j % 2 = 0 ∧ ∃ x, u = .int .u64 x) ∨ (j % 2 = 1 ∧ ∃ a k c, u = .slice a k c)
theorem Alt.append {a b : List Value} (ha : Alt a) (he : a.length % 2 = 0) (hb : Alt b) : Alt (a ++ b) := by
  intro j u hu
  rw [List.getElem?_append] at hu
  split at hu
  · exact ha j u hu
  · rcases hb _ u hu with ⟨h, q⟩ | ⟨h, q⟩
    · exact .inl ⟨by omega, q⟩
    · exact .inr ⟨by omega, q⟩
theorem Alt.take {a : List Value} (ha : Alt a) (n : Nat) : Alt (a.take n) := by
  intro j u hu
  rw [List.getElem?_take] at hu
  split at hu
  · exact ha j u hu
  · cases hu
theorem Alt.drop {a : List Value} (ha : Alt a) (n : Nat) (hn : n % 2 = 0) : Alt (a.drop n) := by
  intro j u hu
  rw [List.getElem?_drop] at hu
  rcases ha _ u hu with ⟨h, q⟩ | ⟨h, q⟩
  · exact .inl ⟨by omega, q⟩
  · exact .inr ⟨by omega, q⟩
theorem Alt.two (x : Int) (a : Option Addr) (k c : Nat) : Alt [.int .u64 x, .slice a k c] := by
  intro j u hu
  match j, hu with
  | 0, hu => simp at hu; exact .inl ⟨rfl, x, hu.symm⟩
  | 1, hu => simp at hu; exact .inr ⟨rfl, a, k, c, hu.symm⟩
  | j + 2, hu => simp at hu
theorem Alt.zeros (n : Nat) : Alt (Builtin.zeroCells #[.int .u64 0, .slice none 0 0] n).toList := by
  intro j u hu
  simp only [Builtin.zeroCells, Array.toList_map, List.getElem?_map, Option.map_eq_some_iff] at hu
  obtain ⟨i, hi, rfl⟩ := hu
  have e : i = j := by
    rw [Array.toList_range, List.getElem?_eq_some_iff] at hi
    obtain ⟨h1, h2⟩ := hi
    simpa using h2.symm
  subst e
  rcases Nat.mod_two_eq_zero_or_one i with h | h
  · refine .inl ⟨h, 0, ?_⟩
    simp [h]
  · refine .inr ⟨h, none, 0, 0, ?_⟩
    simp [h]
theorem Alt.nopair {cs : Array Value} (h : Alt cs.toList) : NoPair cs := by
  intro j x y h1 h2
  rw [← Array.getElem?_toList] at h1 h2
  rcases h j _ h1 with ⟨a, _⟩ | ⟨_, a, k, c, e⟩
  · rcases h (j + 1) _ h2 with ⟨b, _⟩ | ⟨_, a, k, c, e⟩
    · omega
    · cases e
  · cases e
/-- A list of its own of n numbers, its cells xs. -/
def OwnN (w : World) (base : Nat) (v : Value) (n : Nat) (xs : List Value) : Prop :=
  w.ownsRow base 90 2 v n xs ∧ Alt xs ∧ ∀ g cur fr, v.ownBlock = some g → w.heap[g]? = some (.cells cur 90 fr) → Alt cur.toList
theorem OwnN.nil (w : World) (base : Nat) : OwnN w base (.slice none 0 0) 0 [] := ⟨World.ownsRow_nil _ _ _ _, fun j u h => by simp at h, fun g cur fr h => by simp [Value.ownBlock] at h⟩
theorem OwnN.below {w w' : World} {base n : Nat} {v : Value} {xs : List Value} (h : OwnN w base v n xs) (b : Below w.heap.size w w') : OwnN w' base v n xs := by
  refine ⟨h.1.kept (below_grown b) (by cases hv : v.ownBlock <;> simp), h.2.1, fun g cur fr hg hc => ?_⟩
  refine h.2.2 g cur fr hg ?_
  rw [← hc]
  exact (b.block g (h.1.lt g hg).2).symm
/-- One number more. -/
theorem wpList_append_nat (w : World) {ops : Array Oper} {rest : List Oper} {o : Oper} {a : Act} {Q : Exit → Act → World → Prop} (hgd : o.guard = none) (s x : Operand)
    (ho : o.op = .call { callee := .builtin .append, args := #[s, x], argTypes := #[127, 127] })
    (base : Nat) (v : Value) (n : Nat) (xs : List Value) (hs : a.eval s = v) (hown : OwnN w base v n xs)
    (g0 c : Nat) (y1 : Int) (y2 : Option Addr) (y3 y4 : Nat) (hx : a.eval x = .slice (some ⟨g0, 0, none⟩) 1 c)
    (hc0 : w.cell? ⟨g0, 0, none⟩ = some (.int .u64 y1)) (hc1 : w.cell? ⟨g0, 1, none⟩ = some (.slice y2 y3 y4)) (hn : n ≤ 1000000000000) (hbase : base ≤ w.heap.size)
    (h : ∀ v' w', OwnN w' base v' (n + 1) (xs ++ [.int .u64 y1, .slice y2 y3 y4]) → w.grownBy w' v.ownBlock → wpList Tryz.prog ops Q rest (a.put o.dst v') w') :
    wpList Tryz.prog ops Q (o :: rest) a w := by
  obtain ⟨i, hi, hz, hsz, hby⟩ := info_parts infoNat
  have hnews : ∀ j u, ([.int .u64 y1, .slice y2 y3 y4] : List Value)[j]? = some u → w.cell? ((⟨g0, 0, none⟩ : Addr).add j) = some u := by
    intro j u hu
    match j, hu with
    | 0, hu => simp at hu; subst hu; simpa [Addr.add] using hc0
    | 1, hu => simp at hu; subst hu; simpa [Addr.add] using hc1
    | j + 2, hu => simp at hu
  have h1 : ∀ u ∈ ([.int .u64 y1, .slice y2 y3 y4] : List Value), u.oneCell' = true := by
    intro u hu
    simp at hu
    rcases hu with rfl | rfl <;> rfl
  have key : ∃ v' w', (Builtin.append_ #[127, 127] o.type #[v, .slice (some ⟨g0, 0, none⟩) 1 c]).run Tryz.prog w = .ok v' w' ∧ OwnN w' base v' (n + 1) (xs ++ [.int .u64 y1, .slice y2 y3 y4]) ∧ w.grownBy w' v.ownBlock := by
    obtain ⟨⟨hxl, hown⟩, hax, hal⟩ := hown
    have hax' : Alt (xs ++ [.int .u64 y1, .slice y2 y3 y4]) := hax.append (by omega) (Alt.two _ _ _ _)
    have hlen : (xs ++ [.int .u64 y1, .slice y2 y3 y4] : List Value).length = (n + 1) * 2 := by simp; omega
    have fresh : ∀ (old : Nat) (row : Option Nat), OwnN (w.drew.alloc (.cells (xs.toArray ++ [.int .u64 y1, .slice y2 y3 y4].toArray ++ Builtin.zeroCells #[.int .u64 0, .slice none 0 0] (grownCap w (n + 1) old 90 - (n + 1))) 90)) base (.slice (some ⟨w.heap.size, 0, none⟩) (n + 1) (grownCap w (n + 1) old 90)) (n + 1) (xs ++ [.int .u64 y1, .slice y2 y3 y4]) ∧
        w.grownBy (w.drew.alloc (.cells (xs.toArray ++ [.int .u64 y1, .slice y2 y3 y4].toArray ++ Builtin.zeroCells #[.int .u64 0, .slice none 0 0] (grownCap w (n + 1) old 90 - (n + 1))) 90)) row := by
      intro old row
      have hge := grownCap_ge w (n + 1) old 90
      have hcm : grownCap w (n + 1) old 90 ≤ maxLen := grownCap_le_maxLen w (n + 1) old 90 (by unfold maxLen; omega)
      refine ⟨⟨⟨hlen, .inr ⟨w.heap.size, _, _, rfl, hbase, heap_alloc_new w.drew _, hge, hcm, ?_, ?_⟩⟩, hax', ?_⟩, ⟨rfl, rfl, rfl, by simp, fun k hk _ => heap_alloc_old w.drew _ hk⟩⟩
      · simp only [Array.size_append, List.size_toArray, size_zeroCells, hxl]
        simp
        omega
      · simp only [Array.toList_append, List.append_assoc]
        rw [← List.append_assoc, ← hlen]
        exact List.take_left
      · intro g cur fr hg hc
        simp only [Value.ownBlock, Option.some.injEq] at hg
        subst hg
        have e := (heap_alloc_new w.drew _).symm.trans hc
        simp only [Option.some.injEq, Obj.cells.injEq] at e
        rw [← e.1, Array.toList_append]
        refine Alt.append ?_ ?_ (Alt.zeros _)
        · simpa using hax'
        · simp [hxl]
    rcases hown with ⟨rfl, rfl⟩ | ⟨g, cap, cur, rfl, hbg, hg, hnc, hcm, hcs, htake⟩
    · have hx0 : xs = [] := List.eq_nil_of_length_eq_zero (by simpa using hxl)
      subst hx0
      have hr := run_append_nil (P := Tryz.prog) w 127 o.type 90 i _ sliceNat hi hz ⟨g0, 0, none⟩ 1 c _ (by rw [hsz]; rfl) hnews (by omega) (by omega) (by rw [hby]; omega)
      have hf := fresh 0 (Value.ownBlock (.slice none 0 0))
      simp only [Nat.zero_add, List.nil_append, Array.empty_append] at hf ⊢
      refine ⟨_, _, hr, ?_, ?_⟩
      · simpa [Value.cells] using hf.1
      · simpa [Value.cells] using hf.2
    · by_cases hroom : n + 1 ≤ cap
      · have hr := run_append_room (P := Tryz.prog) w 127 o.type 90 i sliceNat hi g n cap cur hg ⟨g0, 0, none⟩ 1 c _ (by rw [hsz]; rfl) hnews h1 hroom (by rw [hsz, hcs]; simp; omega)
        rw [hsz] at hr
        have hac := hal g cur (0, 0) rfl hg
        refine ⟨_, _, hr, ⟨⟨hlen, .inr ⟨g, cap, _, rfl, hbg, setRow_heap w g cur _ _ _ hg, hroom, hcm, ?_, ?_⟩⟩, hax', ?_⟩, ⟨rfl, rfl, rfl, by simp, fun k _ hk => setRow_other w g k _ (fun e => hk (by simp [Value.ownBlock, e]))⟩⟩
        · simp only [List.size_toArray, List.length_append, List.length_take, List.length_drop, Array.length_toList]
          simp
          omega
        · rw [htake, ← hlen]
          exact List.take_left
        · intro g' cur' fr hg' hc
          simp only [Value.ownBlock, Option.some.injEq] at hg'
          subst hg'
          have e := (setRow_heap w g cur _ _ _ hg).symm.trans hc
          simp only [Option.some.injEq, Obj.cells.injEq] at e
          rw [← e.1, htake]
          refine Alt.append hax' (by rw [hlen]; omega) (hac.drop _ (by simp))
      · have holds : ∀ j u, xs[j]? = some u → w.cell? ((⟨g, 0, none⟩ : Addr).add j) = some u := World.ownsRow.cells (v := .slice (some ⟨g, 0, none⟩) n cap) (n := n) (size := 2) (e := 90) (base := base) ⟨hxl, .inr ⟨g, cap, cur, rfl, hbg, hg, hnc, hcm, hcs, htake⟩⟩ (g := g) rfl
        have hr := run_append_grow (P := Tryz.prog) w 127 o.type 90 i _ sliceNat hi hz ⟨g, 0, none⟩ n cap xs (by rw [hsz]; exact hxl) holds ⟨g0, 0, none⟩ 1 c _ (by rw [hsz]; rfl) hnews (by omega) (by omega) (growslice_fits (by omega) (by rw [hby]; omega))
        have hf := fresh cap (Value.ownBlock (.slice (some ⟨g, 0, none⟩) n cap))
        refine ⟨_, _, hr, ?_, ?_⟩
        · simpa [Value.cells] using hf.1
        · simpa [Value.cells] using hf.2
  obtain ⟨v', w', hr, h2, h3⟩ := key
  refine wpList_plain hgd fun K hK => ?_
  unfold Oper.wp execOp
  simp only [ho, resolve, invoke, builtin, Sem.run_bind, Sem.run_pure, Result.andThen_ok, List.map_toArray, List.map_cons, List.map_nil, hs, hx, hr]
  exact hK _ _ (h v' w' h2 h3)
end Go.Proofs.YtlepicdpelkmlaaGreatDoor
/- ==== Pow ==== -/
namespace Go.Proofs.YtlepicdpelkmlaaGreatDoor
open Go.RowKit
set_option linter.unusedVariables false
/-- The block g is a box that holds the value of two cells. -/
theorem box_facts {w : World} {g : Nat} {x y : Value} {t : TypeId} (h : w.heap[g]? = some (.cells #[x, y] t (0, 0))) : w.cell? ⟨g, 0, none⟩ = some x ∧ w.cell? ⟨g, 1, none⟩ = some y ∧ w.frozen? ⟨g, 0, none⟩ = false ∧ w.frozen? ⟨g, 1, none⟩ = false := resBlock h (Below.refl _ _)
theorem box_store {w : World} {g : Nat} {x y : Value} {t : TypeId} (h : w.heap[g]? = some (.cells #[x, y] t (0, 0))) (a b : Value) : ((w.setCell ⟨g, 0, none⟩ a).setCell ⟨g, 1, none⟩ b).heap[g]? = some (.cells #[a, b] t (0, 0)) := by
  simp only [World.setCell, Array.getElem?_modify, if_pos, h, Option.map_some]
  simp
theorem box_grown (w : World) (g : Nat) (a b : Value) : w.grownBy ((w.setCell ⟨g, 0, none⟩ a).setCell ⟨g, 1, none⟩ b) (some g) := grown_trans (grown_set _ _ _ _) (grown_set _ _ _ _)
theorem grown_block {w w' : World} {g h : Nat} {o : Obj} (hh : w.heap[h]? = some o) (q : w.grownBy w' (some g)) (hne : h ≠ g) : w'.heap[h]? = some o := by
  rw [q.block _ (Array.getElem?_eq_some_iff.1 hh).1 (by simpa using hne)]; exact hh

theorem bitLen_lt (N : Nat) (h : N < 18446744073709551616) : N / 2 ^ Lib.bitLen N = 0 ∧ Lib.bitLen N ≤ 64 := by
  by_cases h0 : N = 0
  · subst h0; exact ⟨by simp, by decide⟩
  · obtain ⟨a, b, c⟩ := Lib.bitLenAux_bounds 64 N h h0
    exact ⟨Nat.div_eq_of_lt c, Lib.bitLen_le N 64 (Nat.le_refl _) h⟩
theorem half_pow (n N j : Nat) : n ^ (N / 2 ^ j) = n ^ (N / 2 ^ (j + 1)) * n ^ (N / 2 ^ (j + 1)) * (if N / 2 ^ j % 2 = 1 then n else 1) := by
  have e : N / 2 ^ (j + 1) = N / 2 ^ j / 2 := by rw [Nat.pow_succ, Nat.div_div_eq_div_mul]
  rw [e, ← Nat.pow_add]
  generalize N / 2 ^ j = x
  split
  · rename_i h
    rw [← Nat.pow_succ]
    congr 1
    omega
  · rw [Nat.mul_one]
    congr 1
    omega
theorem and_one (x : Nat) (h : x < 9223372036854775808) : bits .and .i64 (x : Int) 1 = ((x % 2 : Nat) : Int) := by
  have hx : x &&& 1 < 2 ^ 64 := Nat.and_lt_two_pow _ (by omega)
  have h1 : (BitVec.ofInt 64 (x : Int)).toNat = x := by
    rw [BitVec.ofInt_natCast, BitVec.toNat_ofNat]; exact Nat.mod_eq_of_lt (by omega)
  have h2 : (BitVec.ofInt 64 (1 : Int)).toNat = 1 := by decide
  show IntKind.i64.wrap ((BitVec.ofInt 64 (x : Int) &&& BitVec.ofInt 64 (1 : Int)).toNat : Int) = _
  rw [BitVec.toNat_and, h1, h2, Nat.and_one_is_mod, IntKind.wrap_i64]
  omega
theorem pow_mono {n a b : Nat} (hn : 1 ≤ n) (h : a ≤ b) : n ^ a ≤ n ^ b := Nat.pow_le_pow_right hn h
set_option maxRecDepth 100000 in
set_option maxHeartbeats 4000000 in
theorem pow_calls (w : World) (u : Value) (n N K : Nat) (hu : Den w u n) (hn1 : 1 ≤ n) (hN : N < 9223372036854775808) (hp : ((n ^ N : Nat) : Int) < M.BB ^ K) (hn : (n : Int) < M.BB ^ K) (hK : K ≤ 4398046511104) :
    Calls Tryz.prog 105 #[u, .int .i64 N] w fun e w' => (∃ r, e = .returned r ∧ Den w' r (n ^ N)) ∧ Below w.heap.size w w' := by
  obtain ⟨x1, x2, x3, x4, rfl⟩ := hu.shape2
  have hw1 := hide (fun W => word_calls W 1 (by decide))
  have B0 := hide (alloc2_below w (.cells #[.int .u64 x1, .slice x2 x3 x4] 90) (.cells #[.int .u64 0, .slice none 0 0] 90))
  have T0 := hide (two_new w (.cells #[.int .u64 x1, .slice x2 x3 x4] 90) (.cells #[.int .u64 0, .slice none 0 0] 90))
  go_enter Tryz.func105, Tryz.ntmps105
  go_wp2_with fail
  refine (hw1.out _).mono ?_
  rintro e w1 ⟨rfl, b1⟩
  obtain ⟨t1, t2, t3⟩ := T0.out
  have A1 := kept_block t1 b1
  have R1 := kept_block t2 b1
  have D1 := B0.out.then_below b1
  clear t1 t2 B0 hw1 T0
  have hs1 : w.heap.size + 1 < w1.heap.size := (Array.getElem?_eq_some_iff.1 R1).1
  have q1 := hide (fun W => Tryz.bits_Len (N : Int) W (by omega) (by omega))
  have ew : IntKind.u64.wrap (N : Int) = N := by rw [IntKind.wrap_u64]; omega
  go_wp2_with fail
  refine (q1.out _).mono ?_
  rintro e w2 ⟨rfl, hw2⟩
  rw [hw2]
  clear hw2 w2
  obtain ⟨l1, l2⟩ := bitLen_lt N (by omega)
  rw [show ((N : Int)).toNat = N from by simp]
  generalize Lib.bitLen N = L at *
  go_wp2
  have E1 := hide (alloc_below w1 (.cells #[.int .u64 1, .slice none 0 0] 90))
  have P1 : Hid ((w1.alloc (.cells #[.int .u64 1, .slice none 0 0] 90)).heap[w1.heap.size]? = some (.cells #[.int .u64 1, .slice none 0 0] 90 (0, 0))) := heap_alloc_new w1 _
  replace A1 := hide A1
  replace R1 := hide R1
  replace D1 := hide D1
  replace l1 := hide l1
  go_loopw [6] (fun b wr => ∃ (j : Nat) (p1 : Int) (p2 : Option Addr) (p3 p4 : Nat), b = .int .i64 ((j : Int) - 1) ∧ j ≤ L ∧ Hid (Den wr (.agg #[.int .u64 p1, .slice p2 p3 p4]) (n ^ (N / 2 ^ j))) ∧
      Hid (wr.heap[w1.heap.size]? = some (.cells #[.int .u64 p1, .slice p2 p3 p4] 90 (0, 0))) ∧ Hid (wr.heap[w.heap.size]? = some (.cells #[.int .u64 x1, .slice x2 x3 x4] 90 (0, 0))) ∧
      Hid (wr.heap[w.heap.size + 1]? = some (.cells #[.int .u64 0, .slice none 0 0] 90 (0, 0))) ∧ Hid (Below w.heap.size w wr)) (fun b _ => (intOf b + 1).toNat)
  case atStart =>
    refine ⟨L, 1, none, 0, 0, rfl, Nat.le_refl _, ?_, P1, hide (kept_block A1.out E1.out), hide (kept_block R1.out E1.out), hide (D1.out.then_below E1.out)⟩
    rw [l1.out, Nat.pow_zero]
    exact hide (den_word _ 1 (by decide))
  case round =>
    clear P1 A1 R1 D1 E1 l1
    obtain ⟨j, p1, p2, p3, p4, rfl, hj, hp1, P1, A1, R1, D1⟩ := hrel
    by_cases h0 : j = 0
    · subst h0
      obtain ⟨z0, z1, f0, f1⟩ := box_facts R1.out
      obtain ⟨c0, c1, -, -⟩ := box_facts P1.out
      rw [Nat.pow_zero, Nat.div_one] at hp1
      rw [show ((0 : Nat) : Int) - 1 = -1 from rfl]
      go_wp2
      refine bodyPost_ret (v := .agg #[.int .u64 p1, .slice p2 p3 p4]) (by simp [results, Tryz.results105, go_sem, z0, z1]) rfl ?_
      have q := box_grown wr (w.heap.size + 1) (.int .u64 p1) (.slice p2 p3 p4)
      exact ⟨⟨_, rfl, hp1.out.kept q (hp1.out.notin (nopair2 _ _ _ _) R1.out)⟩, D1.out.then_grown q (by rintro g ⟨⟩; omega)⟩
    · obtain ⟨i, rfl⟩ : ∃ i, j = i + 1 := ⟨j - 1, by omega⟩
      rw [show ((i + 1 : Nat) : Int) - 1 = i from by omega]
      obtain ⟨c0, c1, f0, f1⟩ := box_facts P1.out
      obtain ⟨a0, a1, -, -⟩ := box_facts A1.out
      have hle : n ^ (N / 2 ^ (i + 1)) ≤ n ^ N := pow_mono hn1 (Nat.div_le_self _ _)
      have hbd : ((n ^ (N / 2 ^ (i + 1)) : Nat) : Int) < M.BB ^ K := by refine Int.lt_of_le_of_lt ?_ hp; exact_mod_cast hle
      have q2 := hide (natMul_calls wr _ _ _ _ K hp1.out hp1.out hbd hbd hK)
      have hx := hide (half_pow n N i)
      have hlo : N / 2 ^ i < 9223372036854775808 := Nat.lt_of_le_of_lt (Nat.div_le_self _ _) hN
      have hle2 := hide (pow_mono hn1 (Nat.div_le_self N (2 ^ i)))
      have hi64 : i < 64 := by omega
      go_wp2_with fail
      refine q2.out.mono ?_
      rintro e w2 ⟨⟨r, rfl, hr⟩, b2⟩
      obtain ⟨r1, r2, r3, r4, rfl⟩ := hr.shape2
      have P2 := kept_block P1.out b2
      have A2 := kept_block A1.out b2
      have R2 := kept_block R1.out b2
      have D2 := D1.out.then_below b2
      clear c0 c1 f0 f1 a0 a1 P1 A1 R1 D1 hp1 q2 b2
      obtain ⟨c0, c1, f0, f1⟩ := box_facts P2
      have q3 := box_grown w2 w1.heap.size (.int .u64 r1) (.slice r2 r3 r4)
      have P3 := hide (box_store P2 (.int .u64 r1) (.slice r2 r3 r4))
      have A3 := hide (grown_block A2 q3 (by omega))
      have R3 := hide (grown_block R2 q3 (by omega))
      have D3 := hide (D2.then_grown q3 (by rintro g ⟨⟩; omega))
      have hr3 := hide (hr.kept q3 (hr.notin (nopair2 _ _ _ _) P2))
      obtain ⟨a0, a1, -, -⟩ := box_facts A2
      have ne1 : w.heap.size ≠ w1.heap.size := by omega
      clear q3 P2 A2 R2 D2 hr
      have eb' := and_one (N / 2 ^ i) hlo
      rw [Int.natCast_ediv, Int.natCast_pow] at eb'
      by_cases hpar : N / 2 ^ i % 2 = 1
      · have eb : bits BinOp.and IntKind.i64 ((N : Int) / 2 ^ i) 1 = 1 := by rw [hpar] at eb'; exact eb'
        rw [if_pos hpar] at hx
        clear eb'
        have hm : ((n ^ (N / 2 ^ (i + 1)) * n ^ (N / 2 ^ (i + 1)) : Nat) : Int) < M.BB ^ K := by
          refine Int.lt_of_le_of_lt ?_ hp
          have h1 := hx.out
          have h2 := hle2.out
          have h3 := Nat.le_mul_of_pos_right (n ^ (N / 2 ^ (i + 1)) * n ^ (N / 2 ^ (i + 1))) hn1
          exact_mod_cast (by omega)
        have q4 := hide (natMul_calls _ _ _ _ _ K hr3.out (hu.below D3.out) hm hn hK)
        rw [← hx.out] at q4
        have S3 : Hid (Below w.heap.size w ((w2.setCell ⟨w1.heap.size, 0, none⟩ (.int .u64 r1)).setCell ⟨w1.heap.size, 1, none⟩ (.slice r2 r3 r4))) := D3
        go_wp2_with fail
        refine q4.out.mono ?_
        rintro e w4 ⟨⟨t, rfl, ht⟩, b4⟩
        obtain ⟨t1, t2, t3, t4, rfl⟩ := ht.shape2
        have P4 := kept_block P3.out b4
        have A4 := kept_block A3.out b4
        have R4 := kept_block R3.out b4
        have D4 := D3.out.then_below b4
        clear c0 c1 f0 f1 a0 a1 P3 A3 R3 D3 hr3 q4 b4 S3
        obtain ⟨c0, c1, f0, f1⟩ := box_facts P4
        have q5 := box_grown w4 w1.heap.size (.int .u64 t1) (.slice t2 t3 t4)
        have P5 := hide (box_store P4 (.int .u64 t1) (.slice t2 t3 t4))
        have A5 := hide (grown_block A4 q5 (by omega))
        have R5 := hide (grown_block R4 q5 (by omega))
        have D5 := hide (D4.then_grown q5 (by rintro g ⟨⟩; omega))
        have hr5 := hide (ht.kept q5 (ht.notin (nopair2 _ _ _ _) P4))
        clear q5 P4 A4 R4 D4 ht
        go_wp2
        go_roundw
        case rel => exact ⟨i, t1, t2, t3, t4, rfl, by omega, hr5, P5, A5, R5, D5⟩
        case measure => simp [intOf]
      · have eb : bits BinOp.and IntKind.i64 ((N : Int) / 2 ^ i) 1 = 0 := by rw [show N / 2 ^ i % 2 = 0 from by omega] at eb'; exact eb'
        rw [if_neg hpar, Nat.mul_one] at hx
        rw [← hx.out] at hr3
        clear eb'
        go_wp2
        go_roundw
        case rel => exact ⟨i, r1, r2, r3, r4, rfl, by omega, hr3, P3, A3, R3, D3⟩
        case measure => simp [intOf]
end Go.Proofs.YtlepicdpelkmlaaGreatDoor
/- ==== Tens ==== -/
namespace Go.Proofs.YtlepicdpelkmlaaGreatDoor
open Go.RowKit
set_option linter.unusedVariables false
/-- An index within its bounds, of a slice of numbers. -/
theorem run_at_nat (b o len cap : Nat) (i : Int) (h0 : 0 ≤ i) (h1 : i < len) (w : World) : (Instr.indexAt 127 (.slice (some ⟨b, o, none⟩) len cap) (.int .i64 i)).run Tryz.prog w = .ok (.pointer (some ⟨b, o + i.toNat * 2, none⟩)) w := by
  have he : Tryz.prog.elem 127 = 90 := by kernel_rfl
  rw [run_indexAt_slice (h := by rw [he]; exact sliceNat), if_pos ⟨h0, h1⟩]
  simp [he, Addr.add]
namespace M
/-- The powers of ten that the halves are cut by. -/
def ten (i : Nat) : Nat := 10 ^ (19 * 2 ^ i)
theorem ten_succ (i : Nat) : ten (i + 1) = ten i * ten i := by
  unfold ten
  rw [← Nat.pow_add]
  congr 1
  rw [Nat.pow_succ]
  omega
theorem ten_pos (i : Nat) : 0 < ten i := Nat.pow_pos (by decide)
theorem ten_lt (i : Nat) : ((ten i : Nat) : Int) < BB ^ (2 ^ i) := by
  have h : ten i = (10 ^ 19) ^ (2 ^ i) := by unfold ten; rw [Nat.pow_mul]
  rw [h, Int.natCast_pow]
  have h1 : ((10 ^ 19 : Nat) : Int) < BB := by rw [BB_eq]; decide
  have h2 : (0 : Int) ≤ ((10 ^ 19 : Nat) : Int) := by omega
  have h3 : ∀ m : Nat, 0 < m → ((10 ^ 19 : Nat) : Int) ^ m < BB ^ m := by
    intro m hm
    generalize ((10 ^ 19 : Nat) : Int) = T at *
    clear h
    have hB := BB_pos
    generalize BB = B at *
    induction m with
    | zero => omega
    | succ m ih =>
      rcases Nat.eq_zero_or_pos m with rfl | h
      · rw [Int.pow_succ, Int.pow_succ, Int.pow_zero, Int.pow_zero, Int.one_mul, Int.one_mul]; exact h1
      · rw [Int.pow_succ, Int.pow_succ]
        exact Int.lt_of_le_of_lt (Int.mul_le_mul_of_nonneg_right (Int.le_of_lt (ih h)) h2) (Int.mul_lt_mul_of_pos_left h1 (Int.pow_pos hB))
  exact h3 _ (Nat.pow_pos (by decide))
end M
/-- What a list of numbers holds. -/
def Nats (w : World) (v : Value) (ns : List Nat) : Prop :=
  ∃ (ao : Option Addr) (c : Nat), v = .slice ao ns.length c ∧ ns.length ≤ c ∧ c ≤ maxLen ∧ ∀ j, j < ns.length → ∃ (b off : Nat) (x : Int) (s : Option Addr) (k q : Nat), ao = some ⟨b, off, none⟩ ∧
    w.cell? ⟨b, off + j * 2, none⟩ = some (.int .u64 x) ∧ w.cell? ⟨b, off + j * 2 + 1, none⟩ = some (.slice s k q) ∧ Den w (.agg #[.int .u64 x, .slice s k q]) (ns.getD j 0)
/-- The list of the first p powers, a list of its own. -/
def Pws (B : Nat) (W : World) (pv : Value) (p : Nat) : Prop :=
  ∃ xs, OwnN W B pv p xs ∧ ∀ i, i < p → ∃ x s k q, xs[i * 2]? = some (.int .u64 x) ∧ xs[i * 2 + 1]? = some (.slice s k q) ∧ Den W (.agg #[.int .u64 x, .slice s k q]) (M.ten i)
theorem Pws.below {B p : Nat} {W W' : World} {pv : Value} (h : Pws B W pv p) (b : Below W.heap.size W W') : Pws B W' pv p := by
  obtain ⟨xs, h1, h2⟩ := h
  refine ⟨xs, h1.below b, fun i hi => ?_⟩
  obtain ⟨x, s, k, q, e1, e2, d⟩ := h2 i hi
  exact ⟨x, s, k, q, e1, e2, d.below b⟩
theorem OwnN.block {w : World} {base n g c : Nat} {xs : List Value} {a : Addr} (h : OwnN w base (.slice (some a) n c) n xs) : a.block < w.heap.size ∧ ∃ cur, w.heap[a.block]? = some (.cells cur 90 (0, 0)) ∧ NoPair cur := by
  rcases h.1.2 with ⟨h0, _⟩ | ⟨g, cap, cur, e, hb, hg, _⟩
  · cases h0
  · simp at e
    obtain ⟨rfl, rfl⟩ := e
    exact ⟨(Array.getElem?_eq_some_iff.1 hg).1, cur, hg, (h.2.2 g cur _ rfl hg).nopair⟩
theorem Den.own {w w' : World} {base n m : Nat} {v u : Value} {xs : List Value} (h : OwnN w base v n xs) (d : Den w u m) (q : w.grownBy w' v.ownBlock) : Den w' u m := by
  rcases h.1.2 with ⟨rfl, _⟩ | ⟨g, cap, cur, rfl, hb, hg, _⟩
  · exact d.below (grown_below q)
  · exact d.kept q (d.notin (h.2.2 g cur _ rfl hg).nopair hg)
theorem Pws.push {B p : Nat} {W W' : World} {pv pv' : Value} {xs : List Value} {y1 : Int} {y2 : Option Addr} {y3 y4 : Nat} (h1 : OwnN W B pv p xs)
    (h2 : ∀ i, i < p → ∃ x s k q, xs[i * 2]? = some (.int .u64 x) ∧ xs[i * 2 + 1]? = some (.slice s k q) ∧ Den W (.agg #[.int .u64 x, .slice s k q]) (M.ten i))
    (d : Den W (.agg #[.int .u64 y1, .slice y2 y3 y4]) (M.ten p)) (h3 : OwnN W' B pv' (p + 1) (xs ++ [.int .u64 y1, .slice y2 y3 y4])) (q : W.grownBy W' pv.ownBlock) : Pws B W' pv' (p + 1) := by
  have hl := h1.1.1
  refine ⟨_, h3, fun i hi => ?_⟩
  rcases Nat.lt_or_ge i p with h | h
  · obtain ⟨x, s, k, c, e1, e2, dd⟩ := h2 i h
    exact ⟨x, s, k, c, by rw [List.getElem?_append_left (by omega)]; exact e1, by rw [List.getElem?_append_left (by omega)]; exact e2, Den.own h1 dd q⟩
  · obtain rfl : i = p := by omega
    refine ⟨y1, y2, y3, y4, ?_, ?_, Den.own h1 d q⟩
    · rw [List.getElem?_append_right (by omega), hl]; simp
    · rw [List.getElem?_append_right (by omega), hl]; simp
theorem Pws.nats {B p : Nat} {W : World} {pv : Value} (h : Pws B W pv p) : Nats W pv ((List.range p).map M.ten) := by
  obtain ⟨xs, h1, h2⟩ := h
  have hl : ((List.range p).map M.ten).length = p := by simp
  rcases h1.1.2 with ⟨rfl, rfl⟩ | ⟨g, cap, cur, rfl, hb, hg, hc, hm, hs, ht⟩
  · exact ⟨none, 0, rfl, by simp, by simp, fun j hj => by simp at hj⟩
  · refine ⟨some ⟨g, 0, none⟩, cap, by rw [hl], by rw [hl]; exact hc, hm, fun j hj => ?_⟩
    rw [hl] at hj
    obtain ⟨x, s, k, q, e1, e2, d⟩ := h2 j hj
    have e := h1.1.cells (g := g) rfl
    refine ⟨g, 0, x, s, k, q, rfl, ?_, ?_, ?_⟩
    · have := e _ _ e1; rwa [Lib.add_plain] at this
    · have := e _ _ e2; rwa [Lib.add_plain] at this
    · rw [List.getD_eq_getElem?_getD, List.getElem?_map, List.getElem?_range hj]; exact d
set_option maxRecDepth 100000 in
set_option maxHeartbeats 4000000 in
theorem tens_calls (w : World) (d : Nat) (hd : d ≤ 1099511627776) :
    Calls Tryz.prog 83 #[.int .i64 d] w fun e w' => (∃ v p, e = .returned v ∧ Pws w.heap.size w' v p ∧ d ≤ 19 * 2 ^ p ∧ ∀ i, i < p → 19 * 2 ^ i < d) ∧ Below w.heap.size w w' := by
  go_enter Tryz.func83, Tryz.ntmps83
  go_wp2
  go_loopw [3, 4] (fun pv sv wr => ∃ p : Nat, sv = .int .i64 (19 * 2 ^ p : Nat) ∧ Hid (p = 0 → pv = .slice none 0 0) ∧ Hid (Pws w.heap.size wr pv p) ∧ Hid (∀ i, i < p → 19 * 2 ^ i < d) ∧ Hid (Below w.heap.size w wr)) (fun _ sv _ => d - (intOf sv).toNat)
  case atStart => exact ⟨0, rfl, fun _ => rfl, ⟨[], OwnN.nil _ _, fun i hi => by omega⟩, fun i hi => by omega, Below.refl _ _⟩
  case round =>
    obtain ⟨p, rfl, h00, hP, hlt, hB⟩ := hrel
    by_cases hd2 : 19 * 2 ^ p < d
    · have hpp : 2 ^ p ≤ 1099511627776 := by omega
      have hS19 : 19 ≤ 19 * 2 ^ p := by have := Nat.one_le_two_pow (n := p); omega
      generalize hS : 19 * 2 ^ p = S at *
      have HS := hide hS
      clear hS
      have e2 : IntKind.i64.wrap ((S : Int) * 2) = ((2 * S : Nat) : Int) := by rw [IntKind.wrap_i64]; omega
      obtain ⟨xs, hX, hE⟩ := hP.out
      by_cases h0 : p = 0
      · subst h0
        obtain rfl := h00.out rfl
        · have q1 := hide (word_calls wr 10 (by decide))
          replace hX := hide hX
          replace hE := hide hE
          go_wp2_with fail
          refine q1.out.mono ?_
          rintro e w1 ⟨rfl, b1⟩
          have q2 := hide (pow_calls w1 _ 10 19 1 (den_word w1 10 (by decide)) (by decide) (by decide) (by rw [M.BB_eq]; decide) (by rw [M.BB_eq]; decide) (by decide))
          go_wp2_with fail
          refine q2.out.mono ?_
          rintro e w2 ⟨⟨r, rfl, hr⟩, b2⟩
          obtain ⟨r1, r2, r3, r4, rfl⟩ := hr.shape2
          have B3 := alloc_below w2 (.cells #[.int .u64 r1, .slice r2 r3 r4] 90)
          have X3 := hide (((hX.out.below b1).below b2).below B3)
          have D3 := hide (hr.below B3)
          have L3 := hide (((hB.out.then_below b1).then_below b2).then_below B3)
          have C3 := box_facts (heap_alloc_new w2 (.cells #[.int .u64 r1, .slice r2 r3 r4] 90))
          replace C3 := hide C3
          clear q1 q2 b1 b2 hr B3 hB hP
          go_wp2_with (at_builtin; refine wpList_append_nat _ rfl _ _ rfl w.heap.size _ _ _ rfl X3.out _ _ r1 r2 r3 r4 rfl C3.out.1 C3.out.2.1 (by decide) L3.out.size ?_)
          intro v' w' hv' hg'
          have P4 := hide (Pws.push X3.out (fun i hi => absurd hi (by omega)) D3.out hv' hg')
          have L4 := hide (L3.out.then_grown hg' (fun g hg => (X3.out.1.lt g hg).1))
          have hL : Hid (∀ i, i < 1 → 19 * 2 ^ i < d) := fun i hi => by
            obtain rfl : i = 0 := by omega
            rw [HS.out]
            exact hd2
          clear hv' hg' L3 D3 X3 C3
          go_wp2
          go_roundw
          case rel => exact ⟨1, by rw [← HS.out]; rfl, fun h => absurd h (by omega), P4, hL, L4⟩
          case measure => simp [intOf]; omega
      · obtain ⟨k, rfl⟩ : ∃ k, p = k + 1 := ⟨p - 1, by omega⟩
        rcases hX.1.2 with ⟨rfl, hz⟩ | ⟨g, cap, cur, rfl, hb, hg, hc, hm, hs, ht⟩
        · exact absurd hz (by omega)
        · obtain ⟨x, sa, sk, sc, e1, e2', dx⟩ := hE k (by omega)
          have ec := hX.1.cells (g := g) rfl
          have c0 := ec _ _ e1
          have c1 := ec _ _ e2'
          rw [Lib.add_plain] at c0 c1
          have ix := fun W => run_at_nat g 0 (k + 1) cap k (by omega) (by omega) W
          have hm2 : ((M.ten k : Nat) : Int) < M.BB ^ (2 ^ k) := M.ten_lt k
          have hk2 : 2 ^ k ≤ 4398046511104 := by rw [Nat.pow_succ] at hpp; omega
          have B1 := hide (alloc_below wr (.cells #[.int .u64 x, .slice sa sk sc] 90))
          have q2 := hide (natMul_calls _ _ _ _ _ (2 ^ k) (dx.below B1.out) (dx.below B1.out) hm2 hm2 hk2)
          rw [← M.ten_succ] at q2
          simp only [Int.toNat_natCast, Nat.zero_add] at ix c0 c1
          have hp : k ≤ 40 := by
            rcases Nat.lt_or_ge k 41 with h | h
            · omega
            · have := Nat.pow_le_pow_right (n := 2) (by decide) h
              omega
          replace hX := hide hX
          replace hE := hide hE
          clear hm2 hk2 ec e1 e2' dx ht hs hb hg hpp hP
          go_wp2_with fail
          refine q2.out.mono ?_
          rintro e w2 ⟨⟨r, rfl, hr⟩, b2⟩
          obtain ⟨r1, r2, r3, r4, rfl⟩ := hr.shape2
          have B3 := alloc_below w2 (.cells #[.int .u64 r1, .slice r2 r3 r4] 90)
          have X3 := hide (((hX.out.below B1.out).below b2).below B3)
          have D3 := hide (hr.below B3)
          have E3 : Hid (∀ i, i < k + 1 → ∃ x s c q, xs[i * 2]? = some (.int .u64 x) ∧ xs[i * 2 + 1]? = some (.slice s c q) ∧ Den (w2.alloc (.cells #[.int .u64 r1, .slice r2 r3 r4] 90)) (.agg #[.int .u64 x, .slice s c q]) (M.ten i)) := fun i hi => by
            obtain ⟨x, s, c, q, e1, e2, dd⟩ := hE.out i hi
            exact ⟨x, s, c, q, e1, e2, ((dd.below B1.out).below b2).below B3⟩
          have L3 := hide (((hB.out.then_below B1.out).then_below b2).then_below B3)
          have C3 := box_facts (heap_alloc_new w2 (.cells #[.int .u64 r1, .slice r2 r3 r4] 90))
          replace C3 := hide C3
          clear q2 b2 hr B3 hB B1 ix c0 c1
          go_wp2_with (at_builtin; refine wpList_append_nat _ rfl _ _ rfl w.heap.size _ _ _ rfl X3.out _ _ r1 r2 r3 r4 rfl C3.out.1 C3.out.2.1 (by omega) L3.out.size ?_)
          intro v' w' hv' hg'
          have P4 := hide (Pws.push X3.out E3.out D3.out hv' hg')
          have L4 := hide (L3.out.then_grown hg' (fun g hg => (X3.out.1.lt g hg).1))
          have hL : Hid (∀ i, i < k + 1 + 1 → 19 * 2 ^ i < d) := fun i hi => by
            rcases Nat.lt_or_ge i (k + 1) with h | h
            · exact hlt.out i h
            · obtain rfl : i = k + 1 := by omega
              rw [HS.out]
              exact hd2
          clear hv' hg' L3 D3 X3 C3 E3
          go_wp2
          go_roundw
          case rel => exact ⟨k + 1 + 1, by rw [← HS.out, Nat.pow_succ 2 (k + 1)]; congr 1; omega, fun h => absurd h (by omega), P4, hL, L4⟩
          case measure => simp [intOf]; omega
    · have hge : d ≤ 19 * 2 ^ p := by omega
      clear hd2
      have HG := hide hge
      generalize 19 * 2 ^ p = S at hge ⊢
      go_wp2
      go_ret
      exact ⟨⟨_, p, rfl, hP.out, HG.out, hlt.out⟩, hB.out⟩
end Go.Proofs.YtlepicdpelkmlaaGreatDoor
/- ==== ParseWord ==== -/
namespace Go.Proofs.YtlepicdpelkmlaaGreatDoor
open Go.RowKit
set_option linter.unusedVariables false
theorem byteAt (s : ByteArray) (l : List UInt8) (hs : s.data.toList = l) (k : Nat) (h : k < s.size) : s[k]'h = l.getD k 0 := by
  subst hs
  have h' : k < s.data.toList.length := by simpa using h
  rw [List.getD_eq_getElem?_getD, List.getElem?_eq_getElem h']
  simp
  rfl
theorem size_of (s : ByteArray) (l : List UInt8) (hs : s.data.toList = l) : s.size = l.length := by subst hs; simp

theorem digit_at {l : List UInt8} (h : M.Digs l) {k : Nat} (hk : k < l.length) : 48 ≤ (l.getD k 0).toNat ∧ (l.getD k 0).toNat ≤ 57 := by
  rw [List.getD_eq_getElem?_getD, List.getElem?_eq_getElem hk]
  exact h _ (List.getElem_mem hk)
theorem take_succ_getD {α : Type} (l : List α) (d : α) (k : Nat) (h : k < l.length) : l.take (k + 1) = l.take k ++ [l.getD k d] := by
  rw [List.take_add_one, List.getElem?_eq_getElem h, List.getD_eq_getElem?_getD, List.getElem?_eq_getElem h]
  rfl

set_option maxRecDepth 100000 in
set_option maxHeartbeats 1600000 in
theorem parseWord_calls (w : World) (s : ByteArray) (l : List UInt8) (hs : s.data.toList = l) (hd : M.Digs l) (hl : l.length ≤ 19) :
    Calls Tryz.prog 102 #[.string s] w fun e w' => (∃ r, e = .returned r ∧ Den w' r (M.dec l)) ∧ Below w.heap.size w w' := by
  have hsz := size_of s l hs
  go_enter Tryz.func102, Tryz.ntmps102
  go_wp2
  go_loopw [3, 7] (fun n i wr => ∃ k : Nat, k ≤ l.length ∧ i = .int .i64 k ∧ n = .int .u64 (M.dec (l.take k) : Nat) ∧ wr = w.alloc (.cells #[.int .u64 0, .slice none 0 0] 90)) (fun _ i _ => l.length - (intOf i).toNat)
  case atStart => exact ⟨0, Nat.zero_le _, rfl, rfl, rfl⟩
  case round =>
    obtain ⟨k, hk, rfl, rfl, rfl⟩ := hrel
    by_cases hlt : k < l.length
    · have hks : k < s.size := by omega
      have hb := byteAt s l hs k hks
      have hdg := digit_at hd hlt
      have hx : M.dec (l.take k) < 10 ^ 18 := Nat.lt_of_lt_of_le (M.dec_lt (hd.take k)) (Nat.pow_le_pow_right (by decide) (by rw [List.length_take]; omega))
      have e3 : M.dec (l.take (k + 1)) = 10 * M.dec (l.take k) + ((l.getD k 0).toNat - 48) := by rw [take_succ_getD l 0 k hlt, M.dec_snoc]
      generalize M.dec (l.take k) = D at *
      generalize l.getD k 0 = b at *
      have E3 := hide e3
      clear e3
      go_wp2
      go_roundw
      case rel => exact ⟨k + 1, by omega, by simp, by rw [E3.out]; congr 1; omega, trivial⟩
      case measure => simp [intOf]; omega
    · have hk' : k = l.length := by omega
      subst hk'
      rw [List.take_of_length_le (Nat.le_refl _)]
      have hx : M.dec l < 18446744073709551616 := Nat.lt_of_lt_of_le (M.dec_lt hd) (Nat.le_trans (Nat.pow_le_pow_right (by decide) hl) (by decide))
      have q1 := hide (word_calls (w.alloc (.cells #[.int .u64 0, .slice none 0 0] 90)) (M.dec l) hx)
      have R1 : (w.alloc (.cells #[.int .u64 0, .slice none 0 0] 90)).heap[w.heap.size]? = some (.cells #[.int .u64 0, .slice none 0 0] 90 (0, 0)) := heap_alloc_new w _
      have B0 := alloc_below w (.cells #[.int .u64 0, .slice none 0 0] 90)
      generalize (w.alloc (.cells #[.int .u64 0, .slice none 0 0] 90)) = w1 at *
      go_wp2_with fail
      refine q1.out.mono ?_
      rintro e w2 ⟨rfl, b2⟩
      have rz := resBlock R1 b2
      have z0 := rz.1
      have z1 := rz.2.1
      have f0 := rz.2.2.1
      have f1 := rz.2.2.2
      clear rz q1
      go_wp2
      refine bodyPost_ret (v := .agg #[.int .u64 (M.dec l : Nat), .slice none 0 0]) (by simp [results, Tryz.results102, go_sem, z0, z1]) rfl ?_
      have q : w2.grownBy ((w2.setCell ⟨w.heap.size, 0, none⟩ (.int .u64 (M.dec l : Nat))).setCell ⟨w.heap.size, 1, none⟩ (.slice none 0 0)) (some w.heap.size) := grown_trans (grown_set _ _ _ _) (grown_set _ _ _ _)
      exact ⟨⟨_, rfl, den_word _ _ hx⟩, (B0.then_below b2).then_grown q (by rintro g ⟨⟩; omega)⟩
end Go.Proofs.YtlepicdpelkmlaaGreatDoor
/- ==== ParseHalves ==== -/
namespace Go.Proofs.YtlepicdpelkmlaaGreatDoor
open Go.RowKit
set_option linter.unusedVariables false
def tensL (p : Nat) : List Nat := (List.range p).map M.ten
theorem tensL_len (p : Nat) : (tensL p).length = p := by simp [tensL]
theorem tensL_at {p j : Nat} (h : j < p) : (tensL p).getD j 0 = M.ten j := by
  unfold tensL
  rw [List.getD_eq_getElem?_getD, List.getElem?_map, List.getElem?_range h]; rfl
theorem Nats.below {w w' : World} {v : Value} {ns : List Nat} (h : Nats w v ns) (b : Below w.heap.size w w') : Nats w' v ns := by
  obtain ⟨ao, c, rfl, h1, h2, h3⟩ := h
  refine ⟨ao, c, rfl, h1, h2, fun j hj => ?_⟩
  obtain ⟨g, off, x, s, k, q, rfl, c0, c1, d⟩ := h3 j hj
  have hg := World.block_lt_of_cell? w _ c0
  exact ⟨g, off, x, s, k, q, rfl, by rw [b.cell hg]; exact c0, by rw [b.cell (p := ⟨g, off + j * 2 + 1, none⟩) hg]; exact c1, d.below b⟩
theorem Nats.shape {w : World} {v : Value} {p : Nat} (h : Nats w v (tensL p)) : ∃ ao c, v = .slice ao p c ∧ p ≤ c ∧ c ≤ maxLen := by
  obtain ⟨ao, c, rfl, h1, h2, h3⟩ := h
  rw [tensL_len] at h1 ⊢
  exact ⟨ao, c, rfl, h1, h2⟩
theorem Nats.init {w : World} {ao : Option Addr} {c p : Nat} (h : Nats w (.slice ao (p + 1) c) (tensL (p + 1))) : Nats w (.slice ao p c) (tensL p) := by
  obtain ⟨ao', c', e, h1, h2, h3⟩ := h
  rw [tensL_len] at e h1
  simp at e
  obtain ⟨rfl, rfl⟩ := e
  refine ⟨ao, c, by rw [tensL_len], by rw [tensL_len]; omega, h2, fun j hj => ?_⟩
  rw [tensL_len] at hj
  obtain ⟨g, off, x, s, k, q, e, c0, c1, d⟩ := h3 j (by rw [tensL_len]; omega)
  rw [tensL_at (by omega)] at d
  refine ⟨g, off, x, s, k, q, e, c0, c1, ?_⟩
  rw [tensL_at hj]
  exact d
theorem Nats.last {w : World} {ao : Option Addr} {c p : Nat} (h : Nats w (.slice ao (p + 1) c) (tensL (p + 1))) : ∃ (g off : Nat) (x : Int) (s : Option Addr) (k q : Nat), ao = some ⟨g, off, none⟩ ∧
    w.cell? ⟨g, off + p * 2, none⟩ = some (.int .u64 x) ∧ w.cell? ⟨g, off + p * 2 + 1, none⟩ = some (.slice s k q) ∧ Den w (.agg #[.int .u64 x, .slice s k q]) (M.ten p) := by
  obtain ⟨ao', c', e, h1, h2, h3⟩ := h
  rw [tensL_len] at e
  simp at e
  obtain ⟨rfl, rfl⟩ := e
  obtain ⟨g, off, x, s, k, q, e, c0, c1, d⟩ := h3 p (by rw [tensL_len]; omega)
  rw [tensL_at (by omega)] at d
  exact ⟨g, off, x, s, k, q, e, c0, c1, d⟩
theorem shl_19 (k : Nat) (hk : k ≤ 36) : IntKind.i64.wrap ((19 : Int) * 2 ^ k) = ((19 * 2 ^ k : Nat) : Int) := by
  have hp : 2 ^ k ≤ 2 ^ 36 := Nat.pow_le_pow_right (by decide) hk
  have e : (19 : Int) * 2 ^ k = ((19 * 2 ^ k : Nat) : Int) := by rw [Int.natCast_mul, Int.natCast_pow]; rfl
  rw [e, IntKind.wrap_i64]
  generalize 2 ^ k = x at *
  omega
/-- The parts of a text. -/
theorem extract_take {s : ByteArray} {l : List UInt8} (hs : s.data.toList = l) (n : Nat) : (s.extract 0 n).data.toList = l.take n := by
  subst hs
  simp [ByteArray.data_extract]
theorem extract_drop {s : ByteArray} {l : List UInt8} (hs : s.data.toList = l) (n : Nat) : (s.extract n s.size).data.toList = l.drop n := by
  subst hs
  simp [ByteArray.data_extract]
  rw [List.take_of_length_le]
  simp
theorem extract_drop' {s : ByteArray} {l : List UInt8} (hs : s.data.toList = l) (hz : s.size = l.length) (n : Nat) : (s.extract n l.length).data.toList = l.drop n := by
  rw [← hz]; exact extract_drop hs n
theorem dec_bb {l : List UInt8} (hd : M.Digs l) {K : Nat} (hK : l.length ≤ K) : ((M.dec l : Nat) : Int) < M.BB ^ K := by
  have h1 := M.dec_lt hd
  have h2 : 10 ^ l.length ≤ 18446744073709551616 ^ l.length := Nat.pow_le_pow_left (by decide) _
  have h3 : 18446744073709551616 ^ l.length ≤ 18446744073709551616 ^ K := Nat.pow_le_pow_right (by decide) hK
  have h4 : M.BB ^ K = ((18446744073709551616 ^ K : Nat) : Int) := by rw [Int.natCast_pow]; rfl
  rw [h4]
  exact_mod_cast (by omega : M.dec l < 18446744073709551616 ^ K)
theorem cells4_keep {w W W2 : World} {a1 a2 a3 a4 : Addr} {v1 v2 v3 v4 : Value} (h : W.cell? a1 = some v1 ∧ W.cell? a2 = some v2 ∧ W.cell? a3 = some v3 ∧ W.cell? a4 = some v4 ∧ Below w.heap.size w W) (b : Below W.heap.size W W2) :
    W2.cell? a1 = some v1 ∧ W2.cell? a2 = some v2 ∧ W2.cell? a3 = some v3 ∧ W2.cell? a4 = some v4 ∧ Below w.heap.size w W2 := by
  obtain ⟨h1, h2, h3, h4, h5⟩ := h
  exact ⟨by rw [b.cell (World.block_lt_of_cell? W _ h1)]; exact h1, by rw [b.cell (World.block_lt_of_cell? W _ h2)]; exact h2, by rw [b.cell (World.block_lt_of_cell? W _ h3)]; exact h3, by rw [b.cell (World.block_lt_of_cell? W _ h4)]; exact h4, h5.then_below b⟩
theorem cells4_set {w W : World} {a1 a2 a3 a4 : Addr} {v1 v2 v3 v4 x y : Value} {H : Nat} (h : W.cell? a1 = some v1 ∧ W.cell? a2 = some v2 ∧ W.cell? a3 = some v3 ∧ W.cell? a4 = some v4 ∧ Below w.heap.size w W) (n1 : a1.block ≠ H) (n2 : a2.block ≠ H) (n3 : a3.block ≠ H) (n4 : a4.block ≠ H) (hH : w.heap.size ≤ H) :
    ((W.setCell ⟨H, 0, none⟩ x).setCell ⟨H, 1, none⟩ y).cell? a1 = some v1 ∧ ((W.setCell ⟨H, 0, none⟩ x).setCell ⟨H, 1, none⟩ y).cell? a2 = some v2 ∧ ((W.setCell ⟨H, 0, none⟩ x).setCell ⟨H, 1, none⟩ y).cell? a3 = some v3 ∧ ((W.setCell ⟨H, 0, none⟩ x).setCell ⟨H, 1, none⟩ y).cell? a4 = some v4 ∧ Below w.heap.size w ((W.setCell ⟨H, 0, none⟩ x).setCell ⟨H, 1, none⟩ y) := by
  obtain ⟨h1, h2, h3, h4, h5⟩ := h
  have q := box_grown W H x y
  exact ⟨q.cell h1 (by simpa using n1), q.cell h2 (by simpa using n2), q.cell h3 (by simpa using n3), q.cell h4 (by simpa using n4), h5.then_grown q (by rintro g ⟨⟩; exact hH)⟩
theorem run_from (s : ByteArray) (m n : Nat) (i : Int) (hz : s.size = m) (h0 : 0 ≤ i) (h1 : i ≤ m) (hn : i.toNat = n) (W : World) : (Instr.sliceAt 9 (.string s) (some (.int .i64 i)) none none).run Tryz.prog W = .ok (.string (s.extract n m)) W := by
  have hu : Tryz.prog.underlying 9 = some .string := by kernel_rfl
  subst hn
  rw [run_sliceAt_string (h := hu)]
  go_simp
theorem box_late {w1 w2 : World} {n : Nat} {r1 : Int} {r2 : Option Addr} {r3 r4 : Nat} (hr : Den w2 (.agg #[.int .u64 r1, .slice r2 r3 r4]) n) (b2 : Below w1.drew.heap.size w1.drew w2) :
    ∃ (g8 : Nat) (s1 : Int) (s2 : Option Addr) (s3 s4 : Nat), Value.pointer (some ⟨w2.heap.size, 0, none⟩) = .pointer (some ⟨g8, 0, none⟩) ∧ Hid ((w2.alloc (.cells #[.int .u64 r1, .slice r2 r3 r4] 90)).heap[g8]? = some (.cells #[.int .u64 s1, .slice s2 s3 s4] 90 (0, 0))) ∧
      Hid (Den (w2.alloc (.cells #[.int .u64 r1, .slice r2 r3 r4] 90)) (.agg #[.int .u64 s1, .slice s2 s3 s4]) n) ∧ Hid (w1.heap.size ≤ g8) ∧ Hid (Below w1.heap.size w1 (w2.alloc (.cells #[.int .u64 r1, .slice r2 r3 r4] 90))) :=
  ⟨w2.heap.size, r1, r2, r3, r4, rfl, heap_alloc_new w2 _, hr.below (alloc_below w2 _), b2.size, ((Below.refl _ w1).drew.then_below b2).then_below (alloc_below w2 _)⟩
theorem box_early {w1 w2 : World} {n : Nat} {r1 : Int} {r2 : Option Addr} {r3 r4 : Nat} (hr : Den w2 (.agg #[.int .u64 r1, .slice r2 r3 r4]) n)
    (AZ : w2.heap[w1.heap.size]? = some (.cells #[.int .u64 0, .slice none 0 0] 90 (0, 0)))
    (b2 : Below (w1.drew.alloc (.cells #[.int .u64 0, .slice none 0 0] 90)).heap.size (w1.drew.alloc (.cells #[.int .u64 0, .slice none 0 0] 90)) w2) :
    ∃ (g8 : Nat) (s1 : Int) (s2 : Option Addr) (s3 s4 : Nat), Value.pointer (some ⟨w1.heap.size, 0, none⟩) = .pointer (some ⟨g8, 0, none⟩) ∧ Hid (((w2.setCell ⟨w1.heap.size, 0, none⟩ (.int .u64 r1)).setCell ⟨w1.heap.size, 1, none⟩ (.slice r2 r3 r4)).heap[g8]? = some (.cells #[.int .u64 s1, .slice s2 s3 s4] 90 (0, 0))) ∧
      Hid (Den ((w2.setCell ⟨w1.heap.size, 0, none⟩ (.int .u64 r1)).setCell ⟨w1.heap.size, 1, none⟩ (.slice r2 r3 r4)) (.agg #[.int .u64 s1, .slice s2 s3 s4]) n) ∧ Hid (w1.heap.size ≤ g8) ∧ Hid (Below w1.heap.size w1 ((w2.setCell ⟨w1.heap.size, 0, none⟩ (.int .u64 r1)).setCell ⟨w1.heap.size, 1, none⟩ (.slice r2 r3 r4))) := by
  have q := box_grown w2 w1.heap.size (.int .u64 r1) (.slice r2 r3 r4)
  refine ⟨w1.heap.size, r1, r2, r3, r4, rfl, box_store AZ _ _, hr.kept q (hr.notin (nopair2 _ _ _ _) AZ), Nat.le_refl _, ?_⟩
  exact (((Below.refl _ w1).drew.then_below (alloc_below w1.drew _)).then_below b2).then_grown q (by rintro g ⟨⟩; exact Nat.le_refl _)
set_option maxRecDepth 100000 in
set_option maxHeartbeats 4000000 in
theorem parseHalves_short (w : World) (s : ByteArray) (l : List UInt8) (pv : Value) (hs : s.data.toList = l) (hd : M.Digs l) (hl : l.length ≤ 19) :
    Calls Tryz.prog 103 #[.string s, pv] w fun e w' => (∃ r, e = .returned r ∧ Den w' r (M.dec l)) ∧ Below w.heap.size w w' := by
  have hsz := size_of s l hs
  have q := hide (fun W => parseWord_calls W s l hs hd hl)
  have B0 := hide (alloc_below w (.cells #[.int .u64 0, .slice none 0 0] 90))
  have R0 := hide (heap_alloc_new w (.cells #[.int .u64 0, .slice none 0 0] 90))
  go_enter Tryz.func103, Tryz.ntmps103
  go_wp2_with fail
  refine (q.out _).mono ?_
  rintro e w2 ⟨⟨r, rfl, hr⟩, b2⟩
  obtain ⟨r1, r2, r3, r4, rfl⟩ := hr.shape2
  have R1 := kept_block R0.out b2
  obtain ⟨z0, z1, f0, f1⟩ := box_facts R1
  have B1 := B0.out.then_below b2
  go_wp2
  refine bodyPost_ret (v := .agg #[.int .u64 r1, .slice r2 r3 r4]) (by simp [results, Tryz.results103, go_sem, z0, z1]) rfl ?_
  have q := box_grown w2 w.heap.size (.int .u64 r1) (.slice r2 r3 r4)
  exact ⟨⟨_, rfl, hr.kept q (hr.notin (nopair2 _ _ _ _) R1)⟩, B1.then_grown q (by rintro g ⟨⟩; omega)⟩
set_option maxRecDepth 100000 in
set_option maxHeartbeats 4000000 in
theorem parseHalves_low (w : World) (s : ByteArray) (l : List UInt8) (ao : Option Addr) (c k : Nat) (hs : s.data.toList = l) (hd : M.Digs l) (h19 : 19 < l.length) (hl : l.length ≤ 19 * 2 ^ k) (hk : k ≤ 36) (hc1 : k + 1 ≤ c) (hc2 : c ≤ maxLen)
    (ih : ∀ W, Below w.heap.size w W → Calls Tryz.prog 103 #[.string s, .slice ao k c] W fun e w' => (∃ r, e = .returned r ∧ Den w' r (M.dec l)) ∧ Below W.heap.size W w') :
    Calls Tryz.prog 103 #[.string s, .slice ao (k + 1) c] w fun e w' => (∃ r, e = .returned r ∧ Den w' r (M.dec l)) ∧ Below w.heap.size w w' := by
  have hsz := size_of s l hs
  have B0 := hide (alloc_below w (.cells #[.int .u64 0, .slice none 0 0] 90))
  have R0 := hide (heap_alloc_new w (.cells #[.int .u64 0, .slice none 0 0] 90))
  have q := hide (ih _ B0.out)
  have hp : 2 ^ k ≤ 2 ^ 36 := Nat.pow_le_pow_right (by decide) hk
  have ew := shl_19 k hk
  have HL := hide hl
  generalize 19 * 2 ^ k = LOW at *
  clear ih
  go_enter Tryz.func103, Tryz.ntmps103
  go_wp2_with fail
  refine q.out.mono ?_
  rintro e w2 ⟨⟨r, rfl, hr⟩, b2⟩
  obtain ⟨r1, r2, r3, r4, rfl⟩ := hr.shape2
  have R1 := kept_block R0.out b2
  obtain ⟨z0, z1, f0, f1⟩ := box_facts R1
  have B1 := B0.out.then_below b2
  go_wp2
  refine bodyPost_ret (v := .agg #[.int .u64 r1, .slice r2 r3 r4]) (by simp [results, Tryz.results103, go_sem, z0, z1]) rfl ?_
  have q := box_grown w2 w.heap.size (.int .u64 r1) (.slice r2 r3 r4)
  exact ⟨⟨_, rfl, hr.kept q (hr.notin (nopair2 _ _ _ _) R1)⟩, B1.then_grown q (by rintro g ⟨⟩; omega)⟩
set_option maxRecDepth 100000 in
set_option maxHeartbeats 4000000 in
theorem parseHalves_high (w : World) (s : ByteArray) (l : List UInt8) (g off c k : Nat) (hs : s.data.toList = l) (hd : M.Digs l) (h19 : 19 < l.length) (hlo : 19 * 2 ^ k < l.length) (hl : l.length ≤ 19 * 2 ^ (k + 1)) (hk : k ≤ 36) (hc1 : k + 1 ≤ c) (hc2 : c ≤ maxLen)
    (hP : Nats w (.slice (some ⟨g, off, none⟩) (k + 1) c) (tensL (k + 1)))
    (ih : ∀ W s l, s.data.toList = l → M.Digs l → l.length ≤ 19 * 2 ^ k → Nats W (.slice (some ⟨g, off, none⟩) k c) (tensL k) → Calls Tryz.prog 103 #[.string s, .slice (some ⟨g, off, none⟩) k c] W fun e w' => (∃ r, e = .returned r ∧ Den w' r (M.dec l)) ∧ Below W.heap.size W w') :
    Calls Tryz.prog 103 #[.string s, .slice (some ⟨g, off, none⟩) (k + 1) c] w fun e w' => (∃ r, e = .returned r ∧ Den w' r (M.dec l)) ∧ Below w.heap.size w w' := by
  have hsz := size_of s l hs
  have hp : 2 ^ k ≤ 2 ^ 36 := Nat.pow_le_pow_right (by decide) hk
  rw [Nat.pow_succ] at hl
  have ew := shl_19 k hk
  have lens : l.length ≤ 2 * (19 * 2 ^ k) := by omega
  have HP := hide hP
  have IH := hide ih
  have Hlo := hide hlo
  have Hhi := hide lens
  generalize hLOW : 19 * 2 ^ k = LOW at *
  have HLOW := hide hLOW
  have hL40 : LOW ≤ 1305670057984 := by rw [← hLOW]; omega
  clear ih hP hl hLOW hp
  go_enter Tryz.func103, Tryz.ntmps103
  go_upto_region 8 with fail
  have B0 := alloc_below w (.cells #[.int .u64 0, .slice none 0 0] 90)
  have R0 := heap_alloc_new w (.cells #[.int .u64 0, .slice none 0 0] 90)
  generalize (w.alloc (.cells #[.int .u64 0, .slice none 0 0] 90)) = w1 at *
  replace B0 := hide B0
  replace R0 := hide R0
  have N1 : Hid (∀ W, Below w1.heap.size w1 W → Nats W (.slice (some ⟨g, off, none⟩) k c) (tensL k)) := fun W h => (HP.out.below (B0.out.then_below h)).init
  have hcut : (l.take (l.length - LOW)).length ≤ LOW := by rw [List.length_take]; omega
  have Hcut := hide hcut
  clear hcut
  go_cut [8] (fun s8 wx => ∃ (g8 : Nat) (r1 : Int) (r2 : Option Addr) (r3 r4 : Nat), s8 = .pointer (some ⟨g8, 0, none⟩) ∧ Hid (wx.heap[g8]? = some (.cells #[.int .u64 r1, .slice r2 r3 r4] 90 (0, 0))) ∧
      Hid (Den wx (.agg #[.int .u64 r1, .slice r2 r3 r4]) (M.dec (l.take (l.length - LOW)))) ∧ Hid (w1.heap.size ≤ g8) ∧ Hid (Below w1.heap.size w1 wx))
  case first =>
    go_region_with (go_at_call 103; refine (IH.out _ _ (l.take (l.length - LOW)) (extract_take hs _) (hd.take _) Hcut.out (N1.out _ (by first | exact (Below.refl _ _).drew | exact (Below.refl _ _).drew.then_below (alloc_below w1.drew _)))).mono ?_; rintro e w2 ⟨⟨r, rfl, hr⟩, b2⟩; obtain ⟨r1, r2, r3, r4, rfl⟩ := hr.shape2; first | (have AZ : w2.heap[w1.heap.size]? = some (.cells #[.int .u64 0, .slice none 0 0] 90 (0, 0)) := kept_block (heap_alloc_new w1.drew (.cells #[.int .u64 0, .slice none 0 0] 90)) b2; obtain ⟨z0, z1, f0, f1⟩ := box_facts AZ) | skip)
    all_goals (go_wp2_with fail; go_meet)
    all_goals first
      | exact box_late hr b2
      | exact box_early hr AZ b2
  case rest =>
  obtain ⟨g8, r1, r2, r3, r4, rfl, P1, hr, hg8, B1⟩ := hcut
  have hw1 : w.heap.size < w1.heap.size := (Array.getElem?_eq_some_iff.1 R0.out).1
  have BW := B0.out.then_below B1.out
  obtain ⟨g', off', x, sa, sk, sc, e, c2, c3, dx⟩ := (HP.out.below BW).last
  simp only [Option.some.injEq, Addr.mk.injEq, and_true] at e
  obtain ⟨rfl, rfl⟩ := e
  have hgw : g < w.heap.size := by
    obtain ⟨_, _, _, _, _, _, e', q0, _, _⟩ := HP.out.last
    simp only [Option.some.injEq, Addr.mk.injEq, and_true] at e'
    obtain ⟨rfl, rfl⟩ := e'
    exact World.block_lt_of_cell? w _ q0
  have R1 := kept_block R0.out B1.out
  obtain ⟨z0, z1, f0, f1⟩ := box_facts R1
  obtain ⟨c0, c1, -, -⟩ := box_facts P1.out
  have ne8 : g8 ≠ w.heap.size := by have := hg8.out; omega
  have neg : g ≠ w.heap.size := by omega
  have ix := fun W => run_at_nat g off (k + 1) c k (by omega) (by omega) W
  simp only [Int.toNat_natCast] at ix
  have N2 : Hid (∀ W, Below wc.heap.size wc W → Nats W (.slice (some ⟨g, off, none⟩) k c) (tensL k)) := fun W h => N1.out W (B1.out.then_below h)
  have hdl : (l.drop (l.length - LOW)).length = LOW := by rw [List.length_drop]; omega
  have Hdl : Hid ((l.drop (l.length - LOW)).length ≤ LOW) := Nat.le_of_eq hdl
  have hsum : M.dec (l.take (l.length - LOW)) * M.ten k + M.dec (l.drop (l.length - LOW)) = M.dec l := by
    have e := M.dec_append (l.take (l.length - LOW)) (l.drop (l.length - LOW))
    rw [List.take_append_drop, hdl] at e
    rw [e]
    show _ * 10 ^ (19 * 2 ^ k) + _ = _
    rw [HLOW.out]
  have Hsum := hide hsum
  have hbd := dec_bb hd (Nat.le_refl l.length)
  have hK : l.length ≤ 4398046511104 := by omega
  have b1 : ((M.dec (l.take (l.length - LOW)) : Nat) : Int) < M.BB ^ l.length := dec_bb (hd.take _) (by rw [List.length_take]; omega)
  have b2 : ((M.ten k : Nat) : Int) < M.BB ^ l.length := Int.lt_of_lt_of_le (M.ten_lt k) (M.pow_le M.BB_pos (by have := HLOW.out; omega))
  have b3 : ((M.dec (l.take (l.length - LOW)) * M.ten k : Nat) : Int) < M.BB ^ l.length := by refine Int.lt_of_le_of_lt ?_ hbd; rw [← hsum]; exact_mod_cast Nat.le_add_right _ _
  have b4 : ((M.dec (l.drop (l.length - LOW)) : Nat) : Int) < M.BB ^ l.length := dec_bb (hd.drop _) (by rw [List.length_drop]; omega)
  have Hb := hide (And.intro b1 (And.intro b2 (And.intro b3 b4)))
  have S0 : Hid (wc.cell? ⟨g8, 0, none⟩ = some (.int .u64 r1) ∧ wc.cell? ⟨g8, 1, none⟩ = some (.slice r2 r3 r4) ∧ wc.cell? ⟨g, off + k * 2, none⟩ = some (.int .u64 x) ∧ wc.cell? ⟨g, off + k * 2 + 1, none⟩ = some (.slice sa sk sc) ∧ Below w.heap.size w wc) := ⟨c0, c1, c2, c3, BW⟩
  have DX := hide dx
  have D1 : Below wc.heap.size wc wc.drew := (Below.refl _ _).drew
  have i1 : (0 : Int) ≤ ↑l.length - ↑LOW := by omega
  have i2 : (↑l.length - ↑LOW : Int) ≤ ↑l.length := by omega
  have hst := fun W => run_from s l.length (l.length - LOW) (↑l.length - ↑LOW) hsz i1 i2 (by omega) W
  have i3 : (0 : Int) ≤ ↑k := by omega
  have i4 : (↑k : Int) ≤ ↑c := by omega
  clear b1 b2 b3 b4 hbd hsum hdl dx c0 c1 c2 c3 z0 z1 f0 f1 hw1 hgw
  go_wp2_with fail
  go_region_held3
    (fun w' => w'.cell? ⟨g8, 0, none⟩ = some (.int .u64 r1) ∧ w'.cell? ⟨g8, 1, none⟩ = some (.slice r2 r3 r4) ∧ w'.cell? ⟨g, off + k * 2, none⟩ = some (.int .u64 x) ∧ w'.cell? ⟨g, off + k * 2 + 1, none⟩ = some (.slice sa sk sc) ∧ Below w.heap.size w w')
    (first | exact S0.out | exact ⟨S0.out.1, S0.out.2.1, S0.out.2.2.1, S0.out.2.2.2.1, S0.out.2.2.2.2.drew⟩ | (refine cells4_keep (w := w) ?_ (by assumption); assumption) | (exact cells4_keep (w := w) ⟨by assumption, by assumption, by assumption, by assumption, by assumption⟩ (by assumption)) | (refine cells4_set (w := w) ?_ ne8 ne8 neg neg (Nat.le_refl _); assumption) | (exact cells4_set (w := w) ⟨by assumption, by assumption, by assumption, by assumption, by assumption⟩ ne8 ne8 neg neg (Nat.le_refl _)))
    (first
      | (go_at_call 75; refine (natMul_calls _ _ _ _ _ l.length (hr.out.below D1) (DX.out.below D1) Hb.out.1 Hb.out.2.1 hK).mono ?_; rintro e wa ⟨⟨m, rfl, hm⟩, ba⟩)
      | (go_at_call 103; refine (IH.out _ _ (l.drop (l.length - LOW)) (extract_drop' hs hsz _) (hd.drop _) Hdl.out (N2.out _ (D1.then_below ba))).mono ?_; rintro e wb ⟨⟨lo, rfl, hlo⟩, bb⟩)
      | (go_at_call 90; refine (natAdd_calls _ _ _ _ _ l.length (hm.below bb) hlo Hb.out.2.2.1 Hb.out.2.2.2 hK).mono ?_; rintro e wd ⟨⟨ud, rfl, rd⟩, bd⟩; rw [Hsum.out] at rd; obtain ⟨y1, y2, y3, y4, rfl⟩ := rd.shape2; have hw : Below wc.heap.size wc wd := ((D1.then_below ba).then_below bb).then_below bd; have R2 := kept_block R1 hw; obtain ⟨z0, z1, f0, f1⟩ := box_facts R2))
  go_wp2
  refine bodyPost_ret (v := .agg #[.int .u64 y1, .slice y2 y3 y4]) (by simp [results, Tryz.results103, go_sem, z0, z1]) rfl ?_
  have q := box_grown wd w.heap.size (.int .u64 y1) (.slice y2 y3 y4)
  exact ⟨⟨_, rfl, rd.kept q (rd.notin (nopair2 _ _ _ _) R2)⟩, (S0.out.2.2.2.2.then_below hw).then_grown q (by rintro g ⟨⟩; omega)⟩
theorem parseHalves_calls (p : Nat) : ∀ (w : World) (s : ByteArray) (l : List UInt8) (pv : Value), s.data.toList = l → M.Digs l → l.length ≤ 19 * 2 ^ p → p ≤ 37 → Nats w pv (tensL p) →
    Calls Tryz.prog 103 #[.string s, pv] w fun e w' => (∃ r, e = .returned r ∧ Den w' r (M.dec l)) ∧ Below w.heap.size w w' := by
  induction p with
  | zero => intro w s l pv hs hd hl hp hP; exact parseHalves_short w s l pv hs hd hl
  | succ k ih =>
    intro w s l pv hs hd hl hp hP
    by_cases h19 : l.length ≤ 19
    · exact parseHalves_short w s l pv hs hd h19
    · obtain ⟨ao, c, rfl, hc1, hc2⟩ := hP.shape
      obtain ⟨g, off, x, s', k', q', rfl, -, -, -⟩ := hP.last
      by_cases hlow : l.length ≤ 19 * 2 ^ k
      · exact parseHalves_low w s l _ c k hs hd (by omega) hlow (by omega) hc1 hc2 (fun W hW => ih W s l _ hs hd hlow (by omega) (hP.below hW).init)
      · exact parseHalves_high w s l g off c k hs hd (by omega) (by omega) hl (by omega) hc1 hc2 hP (fun W s l h1 h2 h3 h4 => ih W s l _ h1 h2 h3 (by omega) h4)
end Go.Proofs.YtlepicdpelkmlaaGreatDoor
/- ==== WriteWord ==== -/
namespace Go.Proofs.YtlepicdpelkmlaaGreatDoor
open Go.RowKit
set_option linter.unusedVariables false
namespace M
/-- The last m decimal digits of n. -/
def pad : Nat → Nat → List UInt8
  | 0, _ => []
  | m + 1, n => UInt8.ofNat (48 + n / 10 ^ m % 10) :: pad m n
theorem pad_len (m n : Nat) : (pad m n).length = m := by
  induction m with
  | zero => rfl
  | succ m ih => simp [pad, ih]
theorem pad_digs (m n : Nat) : Digs (pad m n) := by
  induction m with
  | zero => exact Digs.nil
  | succ m ih =>
    intro b hb
    rcases List.mem_cons.1 hb with rfl | h
    · rw [byte_of (Nat.mod_lt _ (by decide))]; omega
    · exact ih b h
theorem mod_pow_succ' (n m : Nat) : n % 10 ^ (m + 1) = n / 10 ^ m % 10 * 10 ^ m + n % 10 ^ m := by
  rw [Nat.pow_succ, Nat.mod_mul, Nat.mul_comm (10 ^ m), Nat.add_comm]
theorem pad_dec (m n : Nat) : dec (pad m n) = n % 10 ^ m := by
  induction m with
  | zero => simp [pad, dec_nil, Nat.mod_one]
  | succ m ih =>
    rw [pad, dec_cons, byte_of (Nat.mod_lt _ (by decide)), ih, pad_len, mod_pow_succ']
    congr 1
    congr 1
    omega
theorem pad_mod (m n : Nat) : pad m (n % 10 ^ m) = pad m n :=
  dec_inj (pad_digs _ _) (pad_digs _ _) (by rw [pad_len, pad_len]) (by rw [pad_dec, pad_dec, Nat.mod_mod])
theorem pad_append (a b n : Nat) : pad a (n / 10 ^ b) ++ pad b n = pad (a + b) n := by
  refine dec_inj ((pad_digs _ _).append (pad_digs _ _)) (pad_digs _ _) (by rw [List.length_append, pad_len, pad_len, pad_len]) ?_
  rw [dec_append, pad_dec, pad_dec, pad_dec, pad_len, Nat.add_comm a b, Nat.pow_add, Nat.mod_mul, Nat.mul_comm (10 ^ b), Nat.add_comm]
/-- The numbers of bytes. -/
def bs (l : List UInt8) : List Int := l.map (fun b => (b.toNat : Int))
theorem bs_len (l : List UInt8) : (bs l).length = l.length := by simp [bs]
theorem bs_append (a b : List UInt8) : bs (a ++ b) = bs a ++ bs b := by simp [bs]
theorem bs_pad (m n : Nat) : bs (pad (m + 1) n) = (48 + (n / 10 ^ m % 10 : Nat) : Int) :: bs (pad m n) := by
  show ((UInt8.ofNat _).toNat : Int) :: bs (pad m n) = _
  rw [byte_of (Nat.mod_lt _ (by decide))]
  rfl
end M
theorem set_at_end {z t : List Int} {p : Nat} (x : Int) (hp : p < z.length) : (z.take (p + 1) ++ t).set p x = z.take p ++ x :: t := by
  have h : (z.take p).length = p := by rw [List.length_take]; omega
  rw [List.take_add_one, List.getElem?_eq_getElem hp]
  simp only [Option.toList, List.append_assoc, List.cons_append, List.nil_append]
  rw [List.set_append_right _ _ (by omega), h]
  simp
set_option maxRecDepth 100000 in
set_option maxHeartbeats 1600000 in
theorem writeWord_calls (w : World) (g o k cap n : Nat) (z : List Int) (hz : Own .u8 5 w g z) (hk : o + k ≤ z.length) (hn : n < 18446744073709551616) (hl : z.length ≤ 140737488355328) :
    Calls Tryz.prog 108 #[.slice (some ⟨g, o, none⟩) k cap, .int .u64 n] w fun e w' => e = .returned (.tuple #[]) ∧ Own .u8 5 w' g (z.take o ++ (M.bs (M.pad k n) ++ z.drop (o + k))) ∧ w.grownBy w' (some g) := by
  go_enter Tryz.func108, Tryz.ntmps108
  go_wp2
  go_loopw [1, 4] (fun nv i wr => ∃ j : Nat, j ≤ k ∧ i = .int .i64 ((j : Int) - 1) ∧ nv = .int .u64 (n / 10 ^ (k - j) : Nat) ∧ Own .u8 5 wr g (z.take (o + j) ++ (M.bs (M.pad (k - j) n) ++ z.drop (o + k))) ∧ w.grownBy wr (some g)) (fun _ i _ => (intOf i + 1).toNat)
  case atStart => exact ⟨k, Nat.le_refl _, rfl, by simp, by rw [Nat.sub_self, M.pad, M.bs, List.map_nil, List.nil_append, List.take_append_drop]; exact hz, grown_refl _ _⟩
  case round =>
    obtain ⟨j, hj, rfl, rfl, hy, hg⟩ := hrel
    by_cases h0 : j = 0
    · subst h0
      go_wp2
      go_end0
      exact ⟨rfl, by simpa using hy, hg⟩
    · obtain ⟨i, rfl⟩ : ∃ i, j = i + 1 := ⟨j - 1, by omega⟩
      have hlen : (z.take (o + (i + 1)) ++ (M.bs (M.pad (k - (i + 1)) n) ++ z.drop (o + k))).length = z.length := by
        rw [List.length_append, List.length_append, M.bs_len, M.pad_len, List.length_take, List.length_drop]; omega
      have hcy := hy.cell (o + i) (by omega)
      have hfy := hy.frozen (o + i)
      have hset := hide (hy.set (o + i) (48 + (n / 10 ^ (k - (i + 1)) % 10 : Nat)))
      rw [show o + (i + 1) = o + i + 1 from rfl, set_at_end _ (by omega), ← List.cons_append, ← M.bs_pad, show k - (i + 1) + 1 = k - i from by omega] at hset
      have hd : n / 10 ^ (k - (i + 1)) / 10 = n / 10 ^ (k - i) := by rw [Nat.div_div_eq_div_mul, ← Nat.pow_succ]; congr 2; omega
      have hle : n / 10 ^ (k - (i + 1)) ≤ n := Nat.div_le_self _ _
      generalize n / 10 ^ (k - (i + 1)) = q at *
      have Hd := hide hd
      clear hd hy hlen
      have ei : ((i + 1 : Nat) : Int) - 1 = i := by omega
      rw [ei]
      clear ei
      have e8 : IntKind.u8.wrap (48 + (q : Int) % 10) = 48 + (q : Int) % 10 := by rw [IntKind.wrap_u8]; omega
      go_wp2
      go_roundw
      case rel => 
        refine ⟨i, by omega, rfl, by rw [← Hd.out]; simp, ?_, grown_trans hg (grown_set _ _ _ _)⟩
        simpa using hset.out
      case measure => simp [intOf]
end Go.Proofs.YtlepicdpelkmlaaGreatDoor
