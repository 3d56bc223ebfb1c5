/-
  Package rat: a factor is divided off as often as it goes, by squares of squares.
-/
import Derived.Test.YtebnjolkolobhaaGreatDoorAll6
import Derived.Test.YtebnjolkolobhaaGreatDoorAll7
import Derived.Test.YtebnjolkolobhaaGreatDoorAll5
import Derived.Test.YtebnjolkolobhaaGreatDoorStripM
/- ==== RatStrip ==== -/
namespace Go.Proofs.YtebnjolkolobhaaGreatDoor
open Go.RowKit
set_option linter.unusedVariables false
/-- The list of the first p powers of f, squared again and again, a list of its own. -/
def Sqs (f B : Nat) (W : World) (pv : Value) (p : Nat) : Prop :=
  ∃ xs, OwnN W B pv p xs ∧ ∀ i, i < p → ∃ x s k q, xs[i * 2]? = some (.int .u64 x) ∧ xs[i * 2 + 1]? = some (.slice s k q) ∧ Den W (.agg #[.int .u64 x, .slice s k q]) (f ^ 2 ^ i)
theorem Sqs.below {f B p : Nat} {W W' : World} {pv : Value} (h : Sqs f B W pv p) (b : Below W.heap.size W W') : Sqs f B W' pv p := by
  obtain ⟨xs, h1, h2⟩ := h
  refine ⟨xs, h1.below b, fun i hi => ?_⟩
  obtain ⟨x, s, k, q, e1, e2, d⟩ := h2 i hi
  exact ⟨x, s, k, q, e1, e2, d.below b⟩
theorem Sqs.push {f B p : Nat} {W W' : World} {pv pv' : Value} {xs : List Value} {y1 : Int} {y2 : Option Addr} {y3 y4 : Nat} (h1 : OwnN W B pv p xs)
    (h2 : ∀ i, i < p → ∃ x s k q, xs[i * 2]? = some (.int .u64 x) ∧ xs[i * 2 + 1]? = some (.slice s k q) ∧ Den W (.agg #[.int .u64 x, .slice s k q]) (f ^ 2 ^ i))
    (d : Den W (.agg #[.int .u64 y1, .slice y2 y3 y4]) (f ^ 2 ^ p)) (h3 : OwnN W' B pv' (p + 1) (xs ++ [.int .u64 y1, .slice y2 y3 y4])) (q : W.grownBy W' pv.ownBlock) : Sqs f B W' pv' (p + 1) := by
  have hl := h1.1.1
  refine ⟨_, h3, fun i hi => ?_⟩
  rcases Nat.lt_or_ge i p with h | h
  · obtain ⟨x, s, k, c, e1, e2, dd⟩ := h2 i h
    exact ⟨x, s, k, c, by rw [List.getElem?_append_left (by omega)]; exact e1, by rw [List.getElem?_append_left (by omega)]; exact e2, Den.own h1 dd q⟩
  · obtain rfl : i = p := by omega
    refine ⟨y1, y2, y3, y4, ?_, ?_, Den.own h1 d q⟩
    · rw [List.getElem?_append_right (by omega), hl]; simp
    · rw [List.getElem?_append_right (by omega), hl]; simp
theorem Sqs.shape {f B p : Nat} {W : World} {pv : Value} (h : Sqs f B W pv p) : ∃ a c, pv = .slice a p c := by
  obtain ⟨xs, h1, -⟩ := h
  rcases h1.1.2 with ⟨rfl, rfl⟩ | ⟨g, cap, cur, rfl, -⟩
  · exact ⟨none, 0, rfl⟩
  · exact ⟨_, _, rfl⟩
theorem Sqs.at_ {f B p i c : Nat} {W : World} {a : Option Addr} (h : Sqs f B W (.slice a p c) p) (hi : i < p) : ∃ (b : Nat) (x : Int) (s : Option Addr) (k q : Nat), a = some ⟨b, 0, none⟩ ∧
    W.cell? ⟨b, i * 2, none⟩ = some (.int .u64 x) ∧ W.cell? ⟨b, i * 2 + 1, none⟩ = some (.slice s k q) ∧ Den W (.agg #[.int .u64 x, .slice s k q]) (f ^ 2 ^ i) ∧ B ≤ b ∧ b < W.heap.size ∧ c ≤ maxLen ∧ p ≤ c := by
  obtain ⟨xs, h1, h2⟩ := h
  rcases h1.1.2 with ⟨h0, h00⟩ | ⟨g, cap, cur, e, hb, hg, hc, hm, hs, ht⟩
  · exact absurd h00 (by omega)
  · cases e
    obtain ⟨x, s, k, q, e1, e2, d⟩ := h2 i hi
    have e := h1.1.cells (g := g) rfl
    refine ⟨g, x, s, k, q, rfl, ?_, ?_, d, hb, (Array.getElem?_eq_some_iff.1 hg).1, hm, hc⟩
    · have := e _ _ e1; rw [Lib.add_plain, Nat.zero_add] at this; exact this
    · have := e _ _ e2; rw [Lib.add_plain, Nat.zero_add] at this; exact this
/-- A box beside the list is written. -/
theorem OwnN.past {w w' : World} {base n g : Nat} {v : Value} {xs : List Value} (h : OwnN w base v n xs) (q : w.grownBy w' (some g)) (hne : v.ownBlock ≠ some g) : OwnN w' base v n xs := by
  refine ⟨h.1.kept q (by cases hv : v.ownBlock with | none => exact .inl rfl | some k => exact .inr (fun e => hne (by rw [hv]; exact e))), h.2.1, fun k cur fr hk hc => ?_⟩
  refine h.2.2 k cur fr hk ?_
  rw [← hc]
  exact (q.block k (h.1.lt k hk).2 (fun e => hne (by rw [hk, e]))).symm
theorem Sqs.past {f B p g : Nat} {W : World} {pv : Value} {x y : Value} (h : Sqs f B W pv p) (hg : W.heap[g]? = some (.cells #[x, y] 43 (0, 0))) (hp : NoPair #[x, y]) (hne : pv.ownBlock ≠ some g) (a b : Value) : Sqs f B ((W.setCell ⟨g, 0, none⟩ a).setCell ⟨g, 1, none⟩ b) pv p := by
  obtain ⟨xs, h1, h2⟩ := h
  have q := box_grown W g a b
  refine ⟨xs, h1.past q hne, fun i hi => ?_⟩
  obtain ⟨x, s, k, c, e1, e2, d⟩ := h2 i hi
  exact ⟨x, s, k, c, e1, e2, d.kept q (d.notin hp hg)⟩
theorem two_pow_lt (k : Nat) : k < 2 ^ k := Nat.lt_two_pow_self
/-- The squares of squares are few. -/
theorem sqs_few {f a K p : Nat} (hf : 2 ≤ f) (h : f ^ 2 ^ p ≤ a) (ha : (a : Int) < M.BB ^ K) (hK : K ≤ 4398046511104) : p < 49 := by
  have h1 : 2 ^ 2 ^ p ≤ a := Nat.le_trans (Nat.pow_le_pow_left hf _) h
  have h2 : a < 2 ^ (64 * K) := by
    have e : ((2 ^ (64 * K) : Nat) : Int) = M.BB ^ K := by
      rw [Nat.pow_mul, Int.natCast_pow]
      rfl
    rw [← e] at ha
    exact_mod_cast ha
  have h3 : 2 ^ 2 ^ p < 2 ^ (64 * K) := Nat.lt_of_le_of_lt h1 h2
  have h4 : 2 ^ p < 64 * K := (Nat.pow_lt_pow_iff_right (by decide)).1 h3
  rcases Nat.lt_or_ge p 49 with c | c
  · exact c
  · have := Nat.pow_le_pow_right (n := 2) (by decide) c
    have e : (2 : Nat) ^ 49 = 562949953421312 := by decide
    omega
theorem shl_one (k : Nat) (hk : k < 49) : IntKind.i64.wrap ((1 : Int) * 2 ^ k) = ((2 ^ k : Nat) : Int) := by
  have hp : 2 ^ k ≤ 2 ^ 48 := Nat.pow_le_pow_right (by decide) (by omega)
  have e : (1 : Int) * 2 ^ k = ((2 ^ k : Nat) : Int) := by rw [Int.one_mul, Int.natCast_pow]; rfl
  rw [e, IntKind.wrap_i64]
  generalize 2 ^ k = x at *
  omega
/-- How far the dividing has come: the squares from k on are looked at. -/
structure Sd (f a p k c b : Nat) : Prop where
  eq : a = f ^ c * b
  pos : 0 < b
  no : ¬ f ^ 2 ^ k ∣ b
  cnt : c + 2 ^ k ≤ 2 ^ p
theorem Sd.begin {f a p : Nat} (ha : 0 < a) (h : a < f ^ 2 ^ p) : Sd f a p p 0 a := ⟨by simp, ha, M.strip_top ha h, by omega⟩
theorem Sd.yes {f a p k c b : Nat} (hf : 2 ≤ f) (h : Sd f a p (k + 1) c b) (hd : b % f ^ 2 ^ k = 0) : Sd f a p k (c + 2 ^ k) (b / f ^ 2 ^ k) := by
  obtain ⟨e1, e2⟩ := M.strip_yes (by omega) h.no hd
  refine ⟨?_, ?_, e2, ?_⟩
  · rw [Nat.pow_add, Nat.mul_assoc, ← e1]
    exact h.eq
  · rcases Nat.eq_zero_or_pos (b / f ^ 2 ^ k) with z | z
    · rw [z] at e1
      have := h.pos
      omega
    · exact z
  · have := h.cnt
    rw [Nat.pow_succ] at this
    omega
theorem Sd.nope {f a p k c b : Nat} (h : Sd f a p (k + 1) c b) (hd : b % f ^ 2 ^ k ≠ 0) : Sd f a p k c b := by
  refine ⟨h.eq, h.pos, M.strip_no hd, ?_⟩
  have := h.cnt
  rw [Nat.pow_succ] at this
  omega
theorem Sd.le {f a p k c b : Nat} (hf : 2 ≤ f) (h : Sd f a p k c b) : b ≤ a := by
  rw [h.eq]
  exact Nat.le_mul_of_pos_left _ (Nat.pow_pos (by omega))
theorem Sd.done {f a p c b : Nat} (h : Sd f a p 0 c b) : M.IsStrip f a c b := ⟨h.eq, by have := h.no; simpa using this⟩
theorem cells3_new (w : World) (o1 o2 o3 : Obj) : (((w.alloc o1).alloc o2).alloc o3).heap[w.heap.size]? = some o1 ∧ (((w.alloc o1).alloc o2).alloc o3).heap[w.heap.size + 1]? = some o2 ∧ (((w.alloc o1).alloc o2).alloc o3).heap[w.heap.size + 2]? = some o3 ∧ Below w.heap.size w (((w.alloc o1).alloc o2).alloc o3) := by
  obtain ⟨h1, h2, h3⟩ := two_new w o1 o2
  have b := alloc_below ((w.alloc o1).alloc o2) o3
  refine ⟨kept_block h1 b, kept_block h2 b, ?_, (alloc2_below w o1 o2).then_below b⟩
  have := heap_alloc_new ((w.alloc o1).alloc o2) o3
  rw [h3] at this
  exact this
set_option maxRecDepth 100000 in
set_option maxHeartbeats 8000000 in
theorem natStrip_calls (w : World) (u v : Value) (a f K : Nat) (hu : Den w u a) (hv : Den w v f) (ha0 : 0 < a) (hf : 2 ≤ f) (ha : (a : Int) < M.BB ^ K) (hK : K ≤ 4398046511104) :
    Calls Tryz.prog 52 #[u, v] w fun e w' => (∃ (r : Value) (b c : Nat), e = .returned (.tuple #[r, .int .i64 (c : Int)]) ∧ Den w' r b ∧ M.IsStrip f a c b ∧ 0 < b ∧ b ≤ a ∧ c < 562949953421312) ∧ Below w.heap.size w w' := by
  obtain ⟨x1, x2, x3, x4, rfl⟩ := hu.shape2
  obtain ⟨y1, y2, y3, y4, rfl⟩ := hv.shape2
  obtain ⟨A0, F0, R0, B0⟩ := cells3_new w (.cells #[.int .u64 x1, .slice x2 x3 x4] 43) (.cells #[.int .u64 y1, .slice y2 y3 y4] 43) (.cells #[.int .u64 0, .slice none 0 0] 43)
  have HU := hide (hu.below B0)
  have HV := hide (hv.below B0)
  have few := hide (fun p (h : f ^ 2 ^ p ≤ a) => sqs_few hf h ha hK)
  have big := hide (fun p (h : f ^ 2 ^ p ≤ a) => (Int.lt_of_le_of_lt (by exact_mod_cast h) ha : ((f ^ 2 ^ p : Nat) : Int) < M.BB ^ K))
  have more : Hid (∀ p, f ^ 2 ^ p ≤ a → p < a) := fun p h => Nat.lt_of_lt_of_le (Nat.lt_of_lt_of_le (Nat.lt_trans (two_pow_lt p) (two_pow_lt _)) (Nat.pow_le_pow_left hf _)) h
  have aH := hide ha
  have a0H := hide ha0
  have fH := hide hf
  clear hu hv ha ha0 hf
  go_enter Tryz.func52, Tryz.ntmps52
  go_upto_region 2 with fail
  generalize (((w.alloc (.cells #[.int .u64 x1, .slice x2 x3 x4] 43)).alloc (.cells #[.int .u64 y1, .slice y2 y3 y4] 43)).alloc (.cells #[.int .u64 0, .slice none 0 0] 43)) = w1 at *
  obtain ⟨f0, f1, -, -⟩ := box_facts F0
  have B1 := alloc_below w1 (.cells #[.int .u64 y1, .slice y2 y3 y4] 43)
  have P1 := hide (heap_alloc_new w1 (.cells #[.int .u64 y1, .slice y2 y3 y4] 43))
  have A1 := hide (kept_block A0 B1)
  have R1 := hide (kept_block R0 B1)
  have D1 := hide (B0.then_below B1)
  have U1 := hide (HU.out.below B1)
  have Q1 : Hid (Den (w1.alloc (.cells #[.int .u64 y1, .slice y2 y3 y4] 43)) (.agg #[.int .u64 y1, .slice y2 y3 y4]) (f ^ 2 ^ 0)) := by
    show Den _ _ _
    rw [Nat.pow_zero, Nat.pow_one]
    exact HV.out.below B1
  have S1 : Hid (Sqs f w1.heap.size (w1.alloc (.cells #[.int .u64 y1, .slice y2 y3 y4] 43)) (.slice none 0 0) 0) := ⟨[], OwnN.nil _ _, fun i hi => by omega⟩
  have G1 : Hid (∀ i, i < 0 → f ^ 2 ^ i ≤ a) := fun i hi => by omega
  have L1 : Hid (w.heap.size + 2 < w1.heap.size) := (Array.getElem?_eq_some_iff.1 R0).1
  have N1 : Hid ((Value.slice none 0 0).ownBlock ≠ some w1.heap.size) := by simp [Hid, Value.ownBlock]
  clear A0 F0 R0 B0 B1 HU HV
  go_wp2_with fail
  go_loopw [6, 7] (fun pv qv wr => ∃ (p gp : Nat) (q1 : Int) (q2 : Option Addr) (q3 q4 : Nat), qv = .pointer (some ⟨gp, 0, none⟩) ∧ Hid (Sqs f w1.heap.size wr pv p) ∧ Hid (∀ i, i < p → f ^ 2 ^ i ≤ a) ∧ Hid (Den wr (.agg #[.int .u64 q1, .slice q2 q3 q4]) (f ^ 2 ^ p)) ∧
      Hid (wr.heap[gp]? = some (.cells #[.int .u64 q1, .slice q2 q3 q4] 43 (0, 0))) ∧ Hid (wr.heap[w.heap.size]? = some (.cells #[.int .u64 x1, .slice x2 x3 x4] 43 (0, 0))) ∧
      Hid (wr.heap[w.heap.size + 2]? = some (.cells #[.int .u64 0, .slice none 0 0] 43 (0, 0))) ∧ Hid (Den wr (.agg #[.int .u64 x1, .slice x2 x3 x4]) a) ∧ Hid (Below w.heap.size w wr) ∧ Hid (w1.heap.size ≤ gp) ∧ Hid (pv.ownBlock ≠ some gp)) (fun pv _ _ => a - lenOf pv)
  case atStart => exact ⟨0, w1.heap.size, y1, y2, y3, y4, rfl, S1, G1, Q1, P1, A1, R1, U1, D1, hide (Nat.le_refl _), N1⟩
  case round =>
    clear S1 G1 Q1 P1 A1 R1 U1 D1 N1 f0 f1
    obtain ⟨p, gp, q1, q2, q3, q4, rfl, SS, GG, QQ, PP, AA, RR, UU, DD, LL, NN⟩ := hrel
    obtain ⟨sa, sc, rfl⟩ := SS.out.shape
    obtain ⟨p0, p1, z0, z1⟩ := box_facts PP.out
    obtain ⟨a0, a1, -, -⟩ := box_facts AA.out
    have C1 := hide (natCmp_calls wr _ _ (f ^ 2 ^ p) a QQ.out UU.out)
    by_cases hle : f ^ 2 ^ p ≤ a
    · have hc : M.cmp ((f ^ 2 ^ p : Nat) : Int) (a : Int) ≤ 0 := by
        rcases Nat.lt_or_ge (f ^ 2 ^ p) a with c | c
        · rw [M.cmp_lt (by exact_mod_cast c)]; decide
        · rw [M.cmp_eq (by exact_mod_cast Nat.le_antisymm hle c)]; decide
      generalize M.cmp ((f ^ 2 ^ p : Nat) : Int) (a : Int) = cv at hc C1
      have hp49 := few.out p hle
      have hpa := more.out p hle
      have hbig := hide (big.out p hle)
      have G2 : Hid (∀ i, i < p + 1 → f ^ 2 ^ i ≤ a) := fun i hi => by
        rcases Nat.lt_or_ge i p with c | c
        · exact GG.out i c
        · obtain rfl : i = p := by omega
          exact hle
      have esq : f ^ 2 ^ p * f ^ 2 ^ p = f ^ 2 ^ (p + 1) := by rw [← Nat.pow_add, Nat.pow_succ]; congr 1; omega
      replace esq := hide esq
      clear GG hle
      go_wp2_with fail
      refine C1.out.mono ?_
      rintro e w2 ⟨rfl, b2⟩
      obtain ⟨xs, hX, hE⟩ := SS.out
      have P2 := kept_block PP.out b2
      have A2 := kept_block AA.out b2
      have R2 := kept_block RR.out b2
      have D2 := DD.out.then_below b2
      have B3 := alloc_below w2 (.cells #[.int .u64 q1, .slice q2 q3 q4] 43)
      have X3 := hide ((hX.below b2).below B3)
      have Q3 := hide ((QQ.out.below b2).below B3)
      have U3 := hide ((UU.out.below b2).below B3)
      have P3 := hide (kept_block P2 B3)
      have A3 := hide (kept_block A2 B3)
      have R3 := hide (kept_block R2 B3)
      have L3 := hide (D2.then_below B3)
      have E3 : Hid (∀ i, i < p → ∃ x s c q, xs[i * 2]? = some (.int .u64 x) ∧ xs[i * 2 + 1]? = some (.slice s c q) ∧ Den (w2.alloc (.cells #[.int .u64 q1, .slice q2 q3 q4] 43)) (.agg #[.int .u64 x, .slice s c q]) (f ^ 2 ^ i)) := fun i hi => by
        obtain ⟨x, s, c, q, e1, e2, dd⟩ := hE i hi
        exact ⟨x, s, c, q, e1, e2, (dd.below b2).below B3⟩
      have C3 := hide (box_facts (heap_alloc_new w2 (.cells #[.int .u64 q1, .slice q2 q3 q4] 43)))
      clear p0 p1 z0 z1 a0 a1
      obtain ⟨p0, p1, z0, z1⟩ := box_facts P2
      have hl1 := L1.out
      have W1 : Hid (w1.heap.size ≤ (w2.alloc (.cells #[.int .u64 q1, .slice q2 q3 q4] 43)).heap.size) := by
        have h1 := (Array.getElem?_eq_some_iff.1 P3.out).1
        have h2 := LL.out
        show _ ≤ _
        omega
      clear P2 A2 R2 D2 B3 C1 hX hE SS QQ PP AA RR UU DD b2 z0 z1
      go_wp2_with (at_builtin; refine wpList_append_nat _ rfl _ _ rfl w1.heap.size _ _ _ rfl X3.out _ _ q1 q2 q3 q4 rfl C3.out.1 C3.out.2.1 (by omega) W1.out ?_)
      intro v' w' hv' hg'
      have S4 := Sqs.push X3.out E3.out Q3.out hv' hg'
      have ng : ∀ g, (Value.slice sa p sc).ownBlock = some g → w1.heap.size ≤ g := fun g hg => (X3.out.1.lt g hg).1
      have L4 := L3.out.then_grown hg' (fun g hg => by have := ng g hg; omega)
      have nb : ∀ {g : Nat} {o : Obj}, (w2.alloc (.cells #[.int .u64 q1, .slice q2 q3 q4] 43)).heap[g]? = some o → (Value.slice sa p sc).ownBlock ≠ some g → w'.heap[g]? = some o := fun {g o} h hne => (hg'.block g (Array.getElem?_eq_some_iff.1 h).1 (fun e => hne e.symm)).trans h
      have P4 := nb P3.out NN.out
      have A4 := nb A3.out (fun e => by have := ng _ e; omega)
      have R4 := nb R3.out (fun e => by have := ng _ e; omega)
      have Q4 := Den.own X3.out Q3.out hg'
      have U4 := Den.own X3.out U3.out hg'
      have B5 := alloc_below w' (.cells #[.int .u64 q1, .slice q2 q3 q4] 43)
      have P5 := hide (heap_alloc_new w' (.cells #[.int .u64 q1, .slice q2 q3 q4] 43))
      have A5 := hide (kept_block A4 B5)
      have R5 := hide (kept_block R4 B5)
      have D5 := hide (L4.then_below B5)
      have Q5 := hide (Q4.below B5)
      have U5 := hide (U4.below B5)
      have S5 := hide (S4.below B5)
      have vb : Hid (∀ g, v'.ownBlock = some g → g < w'.heap.size) := fun g hg => (hv'.1.lt g hg).2
      have lw : Hid (w1.heap.size ≤ w'.heap.size) := Nat.le_trans W1.out hg'.size
      have q5 := hide (natMul_calls _ _ _ _ _ K Q5.out Q5.out hbig.out hbig.out hK)
      rw [esq.out] at q5
      obtain ⟨m0, m1, -, -⟩ := box_facts P4
      clear p0 p1
      obtain ⟨p0, p1, -, -⟩ := box_facts P5.out
      clear P4 A4 R4 Q4 U4 B5 S4 L4 nb ng hv' hg' L3 R3 A3 P3 U3 Q3 X3 E3 C3 W1
      go_wp2_with fail
      refine q5.out.mono ?_
      rintro e w6 ⟨⟨r, rfl, hr⟩, b6⟩
      obtain ⟨r1, r2, r3, r4, rfl⟩ := hr.shape2
      have P6 := kept_block P5.out b6
      have A6 := kept_block A5.out b6
      have R6 := kept_block R5.out b6
      have D6 := D5.out.then_below b6
      have U6 := U5.out.below b6
      have S6 := S5.out.below b6
      have q7 := box_grown w6 w'.heap.size (.int .u64 r1) (.slice r2 r3 r4)
      have hlw := lw.out
      have P7 := hide (box_store P6 (.int .u64 r1) (.slice r2 r3 r4))
      have A7 := hide (grown_block A6 q7 (by omega))
      have R7 := hide (grown_block R6 q7 (by omega))
      have D7 := hide (D6.then_grown q7 (by rintro g ⟨⟩; omega))
      have Q7 := hide (hr.kept q7 (hr.notin (nopair2 _ _ _ _) P6))
      have U7 := hide (U6.kept q7 (U6.notin (nopair2 _ _ _ _) P6))
      have nv : v'.ownBlock ≠ some w'.heap.size := fun e => by have := vb.out _ e; omega
      have S7 := hide (S6.past P6 (nopair2 _ _ _ _) nv (.int .u64 r1) (.slice r2 r3 r4))
      have N7 := hide nv
      clear m0 m1 p0 p1 nv
      obtain ⟨p0, p1, z0, z1⟩ := box_facts P6
      obtain ⟨va, vc, rfl⟩ := S7.out.shape
      clear P6 A6 R6 D6 U6 S6 q7 hr b6 q5 P5 A5 R5 D5 U5 S5 Q5
      go_wp2_with fail
      go_roundw
      case rel => exact ⟨p + 1, w'.heap.size, r1, r2, r3, r4, rfl, S7, G2, Q7, P7, A7, R7, U7, D7, lw, N7⟩
      case measure => simp [lenOf]; omega
    · have hc : 0 < M.cmp ((f ^ 2 ^ p : Nat) : Int) (a : Int) := by rw [M.cmp_gt (by exact_mod_cast (by omega : a < f ^ 2 ^ p))]; decide
      generalize M.cmp ((f ^ 2 ^ p : Nat) : Int) (a : Int) = cv at hc C1
      have hc' : ¬ cv ≤ 0 := by omega
      have lt := Nat.lt_of_not_le hle
      have SD := hide (Sd.begin a0H.out lt)
      have hp50 : Hid (p ≤ 49) := by
        show p ≤ 49
        rcases Nat.eq_zero_or_pos p with c | c
        · omega
        · have := few.out (p - 1) (GG.out (p - 1) (by omega))
          omega
      clear hc hle lt GG PP QQ z0 z1 LL NN
      go_wp2_with fail
      refine C1.out.mono ?_
      rintro e w2 ⟨rfl, b2⟩
      have A2 := hide (kept_block AA.out b2)
      have R2 := hide (kept_block RR.out b2)
      have D2 := hide (DD.out.then_below b2)
      have U2 := hide (UU.out.below b2)
      have S2 := hide (SS.out.below b2)
      clear C1 b2 SS AA RR UU DD a0 a1 p0 p1
      have hp5 := hp50.out
      go_wp2_with fail
      go_loopw [8, 9] (fun cv iv wr => ∃ (k c b : Nat) (n1 : Int) (n2 : Option Addr) (n3 n4 : Nat), iv = .int .i64 ((k : Int) - 1) ∧ cv = .int .i64 (c : Int) ∧ k ≤ p ∧ Hid (Sd f a p k c b) ∧ Hid (Den wr (.agg #[.int .u64 n1, .slice n2 n3 n4]) b) ∧ Hid (Sqs f w1.heap.size wr (.slice sa p sc) p) ∧
          Hid (wr.heap[w.heap.size]? = some (.cells #[.int .u64 n1, .slice n2 n3 n4] 43 (0, 0))) ∧ Hid (wr.heap[w.heap.size + 2]? = some (.cells #[.int .u64 0, .slice none 0 0] 43 (0, 0))) ∧ Hid (Below w.heap.size w wr)) (fun _ iv _ => (intOf iv + 1).toNat)
      case atStart => exact ⟨p, 0, a, x1, x2, x3, x4, by go_num, rfl, Nat.le_refl _, SD, U2, S2, A2, R2, D2⟩
      case round =>
        clear SD U2 S2 A2 R2 D2
        obtain ⟨k, c, b, n1, n2, n3, n4, rfl, rfl, hk, SD, UU, SS, AA, RR, DD⟩ := hrel
        by_cases h0 : k = 0
        · subst h0
          obtain ⟨z0, z1, y0, y1'⟩ := box_facts RR.out
          obtain ⟨a0, a1, -, -⟩ := box_facts AA.out
          rw [show ((0 : Nat) : Int) - 1 = -1 from rfl]
          go_wp2_with fail
          refine bodyPost_ret (v := .tuple #[.agg #[.int .u64 n1, .slice n2 n3 n4], .int .i64 (c : Int)]) (by simp [results, Tryz.results52, go_sem, z0, z1]) rfl ?_
          have q := box_grown wr (w.heap.size + 2) (.int .u64 n1) (.slice n2 n3 n4)
          have hcn := SD.out.cnt
          have hpp : 2 ^ p ≤ 2 ^ 49 := Nat.pow_le_pow_right (by decide) hp5
          have e49 : (2 : Nat) ^ 49 = 562949953421312 := by decide
          exact ⟨⟨_, b, c, rfl, UU.out.kept q (UU.out.notin (nopair2 _ _ _ _) RR.out), SD.out.done, SD.out.pos, SD.out.le fH.out, by omega⟩, DD.out.then_grown q (by rintro g ⟨⟩; omega)⟩
        · obtain ⟨k, rfl⟩ : ∃ i, k = i + 1 := ⟨k - 1, by omega⟩
          rw [show ((k + 1 : Nat) : Int) - 1 = k from by omega]
          obtain ⟨pb, t1, t2, t3, t4, rfl, c2, c3, dt, hB, hlb, hcm, hpc⟩ := SS.out.at_ (i := k) (by omega)
          have ix := fun W => run_at_nat pb 0 p sc k (by omega) (by omega) W
          simp only [Int.toNat_natCast, Nat.zero_add] at ix
          have F0 : f ^ 2 ^ k ≠ 0 := Nat.ne_of_gt (Nat.pow_pos (by have := fH.out; omega))
          have bb : ((b : Nat) : Int) < M.BB ^ K := Int.lt_of_le_of_lt (by exact_mod_cast SD.out.le fH.out) aH.out
          have hdiv := hide (fun W (hu : Den W (.agg #[.int .u64 n1, .slice n2 n3 n4]) b) (hv : Den W (.agg #[.int .u64 t1, .slice t2 t3 t4]) (f ^ 2 ^ k)) => divMod_calls W _ _ b (f ^ 2 ^ k) K hu hv bb F0 hK)
          have DY := hide dt
          obtain ⟨a0, a1, -, -⟩ := box_facts AA.out
          have S0 : Hid (wr.cell? ⟨w.heap.size, 0, none⟩ = some (.int .u64 n1) ∧ wr.cell? ⟨w.heap.size, 1, none⟩ = some (.slice n2 n3 n4) ∧ wr.cell? ⟨pb, k * 2, none⟩ = some (.int .u64 t1) ∧ wr.cell? ⟨pb, k * 2 + 1, none⟩ = some (.slice t2 t3 t4) ∧ Below wr.heap.size wr wr) := ⟨a0, a1, c2, c3, Below.refl _ _⟩
          have hwb : w.heap.size < wr.heap.size ∧ pb < wr.heap.size := ⟨(Array.getElem?_eq_some_iff.1 AA.out).1, hlb⟩
          generalize hF : f ^ 2 ^ k = F at *
          have HF := hide hF
          clear hF a0 a1 c2 c3 dt F0 bb
          go_upto_region 12 with fail
          go_cut [10, 11] (fun s7 s8 wx => ∃ (g7 g8 : Nat) (q1 : Int) (q2 : Option Addr) (q3 q4 : Nat) (r1 : Int) (r2 : Option Addr) (r3 r4 : Nat), s7 = .pointer (some ⟨g7, 0, none⟩) ∧ s8 = .pointer (some ⟨g8, 0, none⟩) ∧ Hid (TwoB wr wx g7 g8 q1 q2 q3 q4 r1 r2 r3 r4 (b / F) (b % F)))
          case first =>
            have D1 : Below wr.heap.size wr wr.drew := (Below.refl _ _).drew
            go_region_held3
              (fun w' => w'.cell? ⟨w.heap.size, 0, none⟩ = some (.int .u64 n1) ∧ w'.cell? ⟨w.heap.size, 1, none⟩ = some (.slice n2 n3 n4) ∧ w'.cell? ⟨pb, k * 2, none⟩ = some (.int .u64 t1) ∧ w'.cell? ⟨pb, k * 2 + 1, none⟩ = some (.slice t2 t3 t4) ∧ Below wr.heap.size wr w')
              ((refine cells4_keep (w := wr) S0.out ?_; repeat (first | exact D1 | exact Below.refl _ _ | exact D1.then_below b2 | (refine Below.drew ?_) | (refine Below.then_below ?_ (alloc_below _ _)) | (refine Below.then_below ?_ b2) | (refine Below.then_grown ?_ (box_grown _ _ _ _) (by rintro g ⟨⟩; first | exact Nat.le_refl _ | omega | (have := b2.size; simp at this; omega))))))
              (first
                | (go_at_call 83; refine (hdiv.out _ (UU.out.below (by repeat (first | exact D1 | exact Below.refl _ _ | (refine Below.drew ?_) | (refine Below.then_below ?_ (alloc_below _ _))))) (DY.out.below (by repeat (first | exact D1 | exact Below.refl _ _ | (refine Below.drew ?_) | (refine Below.then_below ?_ (alloc_below _ _)))))).mono ?_; rintro e w2 ⟨⟨q, r, rfl, hq, hr⟩, b2⟩; obtain ⟨q1, q2, q3, q4, rfl⟩ := hq.shape2; obtain ⟨r1, r2, r3, r4, rfl⟩ := hr.shape2; (first | (have AZ : w2.heap[wr.heap.size]? = some (.cells #[.int .u64 0, .slice none 0 0] 43 (0, 0)) := kept_block (by first | exact heap_alloc_new wr (.cells #[.int .u64 0, .slice none 0 0] 43) | exact (two_new wr (.cells #[.int .u64 0, .slice none 0 0] 43) (.cells #[.int .u64 0, .slice none 0 0] 43)).1) b2; obtain ⟨z0, z1, f0, f1⟩ := box_facts AZ; have lz : wr.heap.size < w2.heap.size := (Array.getElem?_eq_some_iff.1 AZ).1; have nz : wr.heap.size ≠ w2.heap.size := Nat.ne_of_lt lz; have nz' : w2.heap.size ≠ wr.heap.size := Nat.ne_of_gt lz) | skip); (first | (have AY : w2.heap[wr.heap.size + 1]? = some (.cells #[.int .u64 0, .slice none 0 0] 43 (0, 0)) := kept_block (by exact (two_new wr (.cells #[.int .u64 0, .slice none 0 0] 43) (.cells #[.int .u64 0, .slice none 0 0] 43)).2.1) b2; obtain ⟨y0', y1', g0', g1'⟩ := box_facts AY) | skip)))
            all_goals (go_wp2_with fail; go_meet)
            all_goals (have bw : Below wr.heap.size wr w2 := (by repeat (first | exact D1 | exact Below.refl _ _ | (refine Below.drew ?_) | (refine Below.then_below ?_ b2) | (refine Below.then_below ?_ (alloc_below _ _)))))
            · exact ⟨_, _, q1, q2, q3, q4, r1, r2, r3, r4, rfl, rfl, tb_alloc bw hq hr⟩
            · exact ⟨_, _, q1, q2, q3, q4, r1, r2, r3, r4, rfl, rfl, (tb_alloc bw hr hq).swap⟩
            · exact ⟨_, _, q1, q2, q3, q4, r1, r2, r3, r4, rfl, rfl, tb_set_alloc bw hq hr AZ (Nat.le_refl _)⟩
            · exact ⟨_, _, q1, q2, q3, q4, r1, r2, r3, r4, rfl, rfl, tb_set_set bw hq hr AZ AY (Nat.le_refl _) (Nat.le_succ _) (by omega)⟩
            · exact ⟨_, _, q1, q2, q3, q4, r1, r2, r3, r4, rfl, rfl, (tb_set_alloc bw hr hq AZ (Nat.le_refl _)).swap⟩
            · exact ⟨_, _, q1, q2, q3, q4, r1, r2, r3, r4, rfl, rfl, tb_set_set bw hq hr AY AZ (Nat.le_succ _) (Nat.le_refl _) (by omega)⟩
          case rest =>
          obtain ⟨g7, g8, q1, q2, q3, q4, r1, r2, r3, r4, rfl, rfl, T⟩ := hcut
          obtain ⟨p7, p8, hq, hr, h7, h8, B1⟩ := T.out
          clear T S0 hdiv DY ix
          obtain ⟨c0, c1, -, -⟩ := box_facts p8
          have C1 := hide (isZero_calls wc _ _ hr)
          have P7 := hide p7
          have HQ := hide hq
          have A1 := hide (kept_block AA.out B1)
          have R1 := hide (kept_block RR.out B1)
          have U1 := hide (UU.out.below B1)
          have S1 := hide (SS.out.below B1)
          have D1 := hide (DD.out.then_below B1)
          clear p7 p8 hq hr h7 h8 B1 AA RR UU SS DD
          by_cases hz : b % F = 0
          · rw [decide_eq_true hz] at C1
            have SD2 : Hid (Sd f a p k (c + 2 ^ k) (b / F)) := by
              have := SD.out.yes fH.out (by rw [HF.out]; exact hz)
              rw [HF.out] at this
              exact this
            have hcn := SD2.out.cnt
            have hpp : 2 ^ p ≤ 2 ^ 49 := Nat.pow_le_pow_right (by decide) hp5
            have e49 : (2 : Nat) ^ 49 = 562949953421312 := by decide
            have sh := shl_one k (by omega)
            obtain ⟨T, hT⟩ : ∃ T, 2 ^ k = T := ⟨_, rfl⟩
            rw [hT] at SD2 hcn sh
            have hT' : (2 : Int) ^ k = (T : Int) := by rw [← hT, Int.natCast_pow]; rfl
            rw [hT'] at sh
            have k0 : (0 : Int) ≤ (k : Int) := by omega
            have hcT : c + T ≤ 562949953421312 := by omega
            have kw : k < 64 := by omega
            replace hT := hide hT
            clear SD hz hpp e49 hcn
            go_wp2_with fail
            refine C1.out.mono ?_
            rintro e w3 ⟨rfl, b3⟩
            have P8 := kept_block P7.out b3
            have A8 := kept_block A1.out b3
            have R8 := kept_block R1.out b3
            have Q8 := HQ.out.below b3
            have S8 := S1.out.below b3
            have D8 := D1.out.then_below b3
            have q := box_grown w3 w.heap.size (.int .u64 q1) (.slice q2 q3 q4)
            have nv : (Value.slice (some ⟨pb, 0, none⟩) p sc).ownBlock ≠ some w.heap.size := fun e => by have e' : pb = w.heap.size := (by simpa [Value.ownBlock] using e); have := L1.out; omega
            have A9 := hide (box_store A8 (.int .u64 q1) (.slice q2 q3 q4))
            have R9 := hide (grown_block R8 q (by omega))
            have Q9 := hide (Q8.kept q (Q8.notin (nopair2 _ _ _ _) A8))
            have S9 := hide (S8.past A8 (nopair2 _ _ _ _) nv (.int .u64 q1) (.slice q2 q3 q4))
            have D9 := hide (D8.then_grown q (by rintro g ⟨⟩; exact Nat.le_refl _))
            clear c0 c1
            obtain ⟨c0, c1, -, -⟩ := box_facts P8
            obtain ⟨a0, a1, y0, y1'⟩ := box_facts A8
            clear P8 A8 R8 Q8 S8 D8 q nv C1 b3
            go_wp2_with fail
            go_roundw
            case rel => exact ⟨k, c + T, b / F, q1, q2, q3, q4, by go_num, by go_num, by omega, SD2, Q9, S9, A9, R9, D9⟩
            case measure => simp [intOf]
          · rw [decide_eq_false hz] at C1
            have SD2 := hide (SD.out.nope (by rw [HF.out]; exact hz))
            clear SD hz
            go_wp2_with fail
            refine C1.out.mono ?_
            rintro e w3 ⟨rfl, b3⟩
            have A9 := hide (kept_block A1.out b3)
            have R9 := hide (kept_block R1.out b3)
            have U9 := hide (U1.out.below b3)
            have S9 := hide (S1.out.below b3)
            have D9 := hide (D1.out.then_below b3)
            clear c0 c1 C1 b3
            go_wp2_with fail
            go_roundw
            case rel => exact ⟨k, c, b, n1, n2, n3, n4, by go_num, rfl, by omega, SD2, U9, S9, A9, R9, D9⟩
            case measure => simp [intOf]
end Go.Proofs.YtebnjolkolobhaaGreatDoor
