/- Laid together of: RoundHeld, Show1, ShowStand, ShowMem, Show2. -/
import Derived.Deep.RegionHeld3
import Derived.RangeFuncCalls
import Derived.OrdersIn
import Derived.Test.YtjbalgjdcdmjjaaDoorNodeKidsC
import Derived.Test.YtjbalgjdcdmjjaaDoorJoinAll
import Derived.Test.YtjbalgjdcdmjjaaDoorSexpRead
import Derived.Stop.RegionWithIn
import Derived.Lib.OthersKept
/- ==== RoundHeld ==== -/
namespace Go.Proofs.YtjbalgjdcdmjjaaDoor
open Go.RowKit Go
set_option linter.unusedVariables false

theorem rows_round {n l : Nat} {P : Program} {row : String} {args : Array Value} {w : World} {R : Value → World → Prop} (h : Rows P row args w R) : RowsIn (Fence.wide.inRound l) n P row args w R :=
  fun c cs _ => let ⟨v, w', r, s⟩ := h c cs; ⟨v, w', r, stepsIn_wide.2 s⟩

theorem wpOps_round {l n : Nat} {P : Program} {ops : Array Oper} {Q : Exit → Act → World → Prop} (hd : ∀ (j : Nat) (o : Oper), ops[j]? = some o → ∀ c, o.op ≠ .defer c) (hL : ¬ LetsOut Q) :
    ∀ (is : List Nat) (a : Act) (w : World), wpOps P ops Q is a w → wpOpsIn (Fence.wide.inRound l) n P ops Q is a w
  | [], a, w, h => h
  | i :: rest, a, w, h => by
    have ih := wpOps_round (l := l) (n := n) (P := P) hd hL rest
    simp only [wpOps, wpOpsIn] at h ⊢
    cases ho : ops[i]? with
    | none => simp only [ho] at h ⊢; exact ih a w h
    | some o =>
      simp only [ho] at h ⊢
      by_cases hw : Region.wanted o (yielded ops a.tmps) = true
      · simp only [hw, if_true] at h ⊢
        rcases h with h | ⟨_, h⟩
        · unfold Oper.wp at h
          unfold Oper.wpIn
          refine ⟨fun _ _ => trivial, ?_⟩
          rw [Fence.inRound_round, Oper.semAt_eq _ _ _ (hd i o ho)]
          generalize (execOp a.eval o).run P w = r at *
          cases r with
          | ok x w' =>
            cases x <;> simp only [Oper.upon, Oper.uponIn] at h ⊢
            case value v => exact ih _ _ h
            case skip => exact ih _ _ h
            case defer d => exact ih _ _ h
            case enter f args =>
              refine ⟨fun c => (by cases c), CallsIn.inRound l (callsIn_wide.2 (Calls.mono h fun e w'' he => ?_))⟩
              cases e with
              | returned v => exact ih _ _ he
              | panicked c => exact he
              | outgrown => exact he
            case row row args => exact ⟨fun c => (by cases c), rows_round (Rows.mono h fun v w'' he => ih _ _ he)⟩
          | halt x w' => cases x <;> simp only [Oper.upon, Oper.uponIn] at h ⊢ <;> exact h
        · exact absurd h hL
      · simp only [hw] at h ⊢
        exact ⟨fun _ _ => trivial, ih _ _ h⟩

def noDefer (ops : Array Oper) : Bool := ops.all fun o => match o.op with | .defer _ => false | _ => true
theorem noDefer_spec {ops : Array Oper} (h : noDefer ops = true) : ∀ (j : Nat) (o : Oper), ops[j]? = some o → ∀ c, o.op ≠ .defer c := by
  intro j o ho c e
  unfold noDefer at h
  rw [Array.all_eq_true] at h
  obtain ⟨hj, rfl⟩ := Array.getElem?_eq_some_iff.1 ho
  have := h j hj
  rw [e] at this
  cases this

/-- The beginning of a region that draws its order, in a round: S is shown of the world behind the draw, once, and handed on. -/
theorem wpIn_region_held {l n : Nat} {P : Program} {id : Nat} {ops : Array Oper} {Q : Exit → Act → World → Prop} {S : World → Prop} {a : Act} {w : World} (hm : P.follows .mixedOrders = true) (hd : noDefer ops = true) (hL : ¬ LetsOut Q) (hS : S w.drew)
    (h : S w.drew → wpAnyH P .any ops Q S ops.size (Array.replicate ops.size false) a w.drew) : (Code.region id ops true).wpIn (Fence.wide.inRound l) n P Q a w :=
  wpIn_region_draw fun t => by
    simp only [Region.schedule, hm, Bool.true_or, if_true]
    exact wpOps_round (noDefer_spec hd) hL _ _ _ (wpAny_sound ops.size t _ a _ (wpAny_of_held _ _ _ _ (h hS)))

/-- Behind a region of a round: nothing but what comes behind it in order. -/
def Only (Q : Act → World → Prop) : Exit → Act → World → Prop
  | .normal, a, w => Q a w
  | _, _, _ => False
theorem Only.not_out (Q : Act → World → Prop) : ¬ LetsOut (Only Q) := fun ⟨_, _, h⟩ => h
theorem wpIn_only {l n : Nat} {P : Program} {c : Code} {Q : Exit → Act → World → Prop} {a : Act} {w : World} (h : c.wpIn (Fence.wide.inRound l) n P (Only (Q .normal)) a w) : c.wpIn (Fence.wide.inRound l) n P Q a w :=
  wpIn_mono h fun e a' w' q => by cases e <;> first | exact q | exact q.elim
end Go.Proofs.YtjbalgjdcdmjjaaDoor
/- ==== Show1 ==== -/
namespace Go.Proofs.YtjbalgjdcdmjjaaDoor
open Go.RowKit
set_option linter.unusedVariables false
theorem jCells_append (a b : List J) : jCells (a ++ b) = jCells a ++ jCells b := by
  induction a with
  | nil => rfl
  | cons t r ih => simp [jCells, ih]
def OwnJ (B : Nat) (w : World) (v : Value) (ts : List J) : Prop := w.ownsRow B 66 4 v ts.length (jCells ts)
theorem OwnJ.snoc {B : Nat} {w : World} {v : Value} {ts : List J} {x : J} {L : Nat} (hL : ts.length = L) (h : w.ownsRow B 66 4 v (L + 1) (jCells ts ++ jCell x)) : OwnJ B w v (ts ++ [x]) := by
  unfold OwnJ
  rw [List.length_append, List.length_singleton, hL, jCells_append]
  have : jCells [x] = jCell x := by simp [jCells]
  rw [this]
  exact h
theorem oj_apart {B B' : Nat} {w : World} {v u : Value} {ts : List J} {st : List Nat} (h : OwnJ B w v ts) (k : OwnK B' w u st) : v.ownBlock = none ∨ v.ownBlock ≠ u.ownBlock := by
  rcases h.2 with ⟨rfl, _⟩ | ⟨b, cap, cur, rfl, _, hb, _⟩
  · exact .inl rfl
  · right
    intro e
    rcases k.2 with ⟨rfl, _⟩ | ⟨b2, cap2, cur2, rfl, _, hb2, _⟩
    · simp [Value.ownBlock] at e
    · simp [Value.ownBlock] at e
      subst e
      have := hb.symm.trans hb2
      simp at this
theorem oj_apart' {B B' : Nat} {w : World} {v u : Value} {ts : List J} {st : List Nat} (h : OwnJ B w v ts) (k : OwnK B' w u st) : u.ownBlock = none ∨ u.ownBlock ≠ v.ownBlock := by
  rcases oj_apart h k with e | e
  · cases hu : u.ownBlock with
    | none => exact .inl rfl
    | some g => rw [e]; exact .inr (by simp)
  · exact .inr (fun h => e h.symm)
/-- A node's token. -/
def tokOf (x : Nd) : J := if x.kind = 1 then ⟨1, 0, 0, [40]⟩ else ⟨x.kind, 0, 0, x.text.data.toList⟩
abbrev clo : J := ⟨2, 0, 0, [41]⟩
/-- The lists that end at i. -/
def pops (i : Nat) : List Nat → List J × List Nat
  | [] => ([], [])
  | a :: st => if a = i then (clo :: (pops i st).1, (pops i st).2) else ([], a :: st)
def tks : List Nd → Nat → List Nat → List J
  | [], _, _ => []
  | x :: r, i, st => tokOf x :: ((pops (i + 1) (if x.kind = 1 then (i + x.size.toNat) :: st else st)).1 ++ tks r (i + 1) (pops (i + 1) (if x.kind = 1 then (i + x.size.toNat) :: st else st)).2)
theorem tks_drop {ns : List Nd} {k : Nat} (h : k < ns.length) (st : List Nat) : tks (ns.drop k) k st = tokOf (ns.getD k Nd.z) :: ((pops (k + 1) (if (ns.getD k Nd.z).kind = 1 then (k + (ns.getD k Nd.z).size.toNat) :: st else st)).1 ++ tks (ns.drop (k + 1)) (k + 1) (pops (k + 1) (if (ns.getD k Nd.z).kind = 1 then (k + (ns.getD k Nd.z).size.toNat) :: st else st)).2) := by
  rw [nd_drop_cons h, tks]
theorem four_new (w : World) (a b c d : Value) (t : TypeId) : ∀ (j : Nat) u, [a, b, c, d][j]? = some u → (w.alloc (.cells #[a, b, c, d] t)).cell? ((⟨w.heap.size, 0, none⟩ : Addr).add j) = some u := new_cells w #[a, b, c, d] t
theorem OwnJ.jrow {B : Nat} {w : World} {v : Value} {ts : List J} (h : OwnJ B w v ts) : JRow w v ts := by
  have h' := h
  unfold OwnJ at h'
  rcases h.2 with ⟨rfl, h0⟩ | ⟨b, cap, cur, rfl, _, hb, h3, h4, _⟩
  · exact ⟨none, 0, by rw [h0], by omega, by decide, fun hne => absurd (List.length_eq_zero_iff.1 h0) hne⟩
  · have h2 := h'
    rw [← List.append_nil (jCells ts)] at h2
    exact ownsRow.jrow h2 (Nat.le_refl _)
set_option maxRecDepth 100000 in
set_option maxHeartbeats 8000000 in
theorem ntoks_calls (w : World) (B : Nat) (v : Value) (ns : List Nd) (h : Nds B w v ns) (hB : B ≤ w.heap.size) (hsz : ∀ j, j < ns.length → 0 ≤ (ns.getD j Nd.z).size ∧ (ns.getD j Nd.z).size ≤ 1099511627776) (hlen : ns.length ≤ 1073741824) :
    Calls Tryd.prog 34 #[v] w fun e w' => ∃ u, e = .returned u ∧ JRow w' u (tks ns 0 []) ∧ Below w.heap.size w w' := by
  obtain ⟨i0, hi, hz0, hz1, hz2⟩ := info_parts infoTok
  obtain ⟨i1', hj, hy0, hy1, hy2⟩ := info_parts ndInfoInt
  have hN := hide h
  obtain ⟨a, cap, rfl, h1, h2, h3, h4⟩ := h
  clear h3 h4
  obtain ⟨n, hn⟩ : ∃ n, ns.length = n := ⟨_, rfl⟩
  obtain ⟨R, hR⟩ : ∃ R, tks ns 0 [] = R := ⟨_, rfl⟩
  rw [hR]
  have R0 : Hid ([] ++ tks (ns.drop 0) 0 [] = R) := hR
  rw [hn] at hN h1 h2 hlen hsz ⊢
  have hszH := hide hsz
  have hnH := hide hn
  clear hn hR hsz
  go_enter Tryd.func34, Tryd.ntmps34
  go_wp2_with (at_make; refine wpList_make_own _ rfl _ _ 26 rfl w.heap.size 66 i0 _ 4 sliceTok hi hz0 hz1 .i64 .i64 _ n rfl rfl rfl (by rw [hz2]; omega) (by unfold maxLen; omega) (Nat.le_refl _) ?_; intro w2 hown0 hgrow0; have B2 : Hid (Below w.heap.size w w2) := (Below.refl _ w).grown hgrow0 (Nat.le_refl _) (by simp); have O2 : Hid (OwnJ w.heap.size w2 _ []) := hown0; clear hown0 hgrow0)
  have K2 : Hid (OwnK w.heap.size w2 (.slice none 0 0) []) := World.ownsRow_nil _ _ _ _
  go_loopw [3, 4, 12] (fun v u j wr => ∃ (k : Nat) (acc : List J) (st : List Nat), k ≤ n ∧ j = .int .i64 k ∧ Hid (acc ++ tks (ns.drop k) k st = R) ∧ Hid (acc.length + st.length ≤ 2 * k) ∧ Hid (OwnJ w.heap.size wr v acc) ∧ Hid (OwnK w.heap.size wr u st) ∧ Hid (Below w.heap.size w wr)) (fun _ _ j _ => n - (intOf j).toNat)
  case atStart => exact ⟨0, [], [], Nat.zero_le _, rfl, R0, Nat.le_refl _, O2, K2, B2⟩
  case round =>
    clear R0 O2 K2 B2
    obtain ⟨k, acc, st, hk, rfl, hRk, hal, hJ, hK, hB'⟩ := hrel
    have hwz : w.heap.size ≤ wr.heap.size := hB'.out.size
    obtain ⟨va, vc, hv⟩ := own_shape (ownsRow_zero hJ.out)
    subst hv
    obtain ⟨ua, uc, hu⟩ := own_shape (ownsRow_zero hK.out)
    subst hu
    have hal' := hal.out
    obtain ⟨L, hL⟩ : ∃ L, acc.length = L := ⟨_, rfl⟩
    obtain ⟨M, hM⟩ : ∃ M, st.length = M := ⟨_, rfl⟩
    rw [hL, hM] at hal'
    have hJ2 := hJ.out
    unfold OwnJ at hJ2
    rw [hL] at hJ2 hJ ⊢
    replace hJ2 := hide hJ2
    have hK2 := hK.out
    unfold OwnK at hK2
    rw [hM] at hK2 hK ⊢
    replace hK2 := hide hK2
    have hLh := hide hL
    have hMh := hide hM
    clear hL hM
    by_cases hlt : k < n
    · have hkl : k < ns.length := by rw [hnH.out]; exact hlt
      have hNw := hN.out.below (hB'.out.mono hB)
      obtain ⟨b, off, rfl, hb, c0, c1, c2, c3, c4⟩ := hNw.at_ hkl
      clear hNw
      have hR1 := hRk.out
      rw [tks_drop hkl] at hR1
      have hsz1 := hszH.out k hlt
      obtain ⟨x, hx⟩ : ∃ x, ns.getD k Nd.z = x := ⟨_, rfl⟩
      rw [hx] at c0 c1 c2 c3 c4 hR1 hsz1
      obtain ⟨kd, xp, xf, sz, tx⟩ := x
      simp only at c0 c1 c2 c3 c4 hR1 hsz1
      obtain ⟨z, rfl⟩ : ∃ z : Nat, sz = z := ⟨sz.toNat, by omega⟩
      obtain ⟨W1, hW1⟩ : ∃ W, wr.alloc (.cells #[.int .i64 kd, .int .i64 xp, .int .i64 xf, .int .i64 z, .string tx] 47) = W := ⟨_, rfl⟩
      have b1 : Below wr.heap.size wr W1 := by rw [← hW1]; exact (Below.refl _ wr).alloc (Nat.le_refl _) _
      have A1 : W1.heap[wr.heap.size]? = some (.cells #[.int .i64 kd, .int .i64 xp, .int .i64 xf, .int .i64 z, .string tx] 47 (0, 0)) := by rw [← hW1]; exact heap_alloc_new wr _
      have d0 : W1.cell? ⟨wr.heap.size, 0, none⟩ = some (.int .i64 kd) := cell_of_row _ _ 0 _ _ (0, 0) A1
      have d3 : W1.cell? ⟨wr.heap.size, 3, none⟩ = some (.int .i64 z) := cell_of_row _ _ 3 _ _ (0, 0) A1
      have d4 : W1.cell? ⟨wr.heap.size, 4, none⟩ = some (.string tx) := cell_of_row _ _ 4 _ _ (0, 0) A1
      have hg1 : wr.heap.size < W1.heap.size := (Array.getElem?_eq_some_iff.1 A1).1
      have J1 : Hid (W1.ownsRow w.heap.size 66 4 (.slice va L vc) L (jCells acc)) := by rw [← hW1]; exact hJ2.out.alloc _
      have K1 : Hid (W1.ownsRow w.heap.size 3 1 (.slice ua M uc) M (st.reverse.map fun n : Nat => .int .i64 (n : Int))) := by rw [← hW1]; exact hK2.out.alloc _
      have B1 := hide (hB'.out.then_below b1)
      have hz1' : w.heap.size ≤ W1.heap.size := by omega
      have i1 : (k : Int) < n := by omega
      have hap := hide (oj_apart hJ.out hK.out)
      have hap' := hide (oj_apart' hJ.out hK.out)
      clear b1 A1 hRk hx
      by_cases hk1 : kd = 1
      · subst hk1
        rw [if_pos rfl] at hR1
        have hR1' : Hid ((acc ++ [⟨1, 0, 0, [40]⟩]) ++ ((pops (k + 1) ((k + z) :: st)).1 ++ tks (ns.drop (k + 1)) (k + 1) (pops (k + 1) ((k + z) :: st)).2) = R) := by
          show _ = _
          rw [← hR1]
          simp [tokOf]
        have ew : IntKind.i64.wrap ((k : Int) + z) = (k : Int) + z := by rw [IntKind.wrap_i64]; omega
        have QA : Hid True := trivial
        clear hR1
        go_wp2_with (first
          | (at_builtin; have y := QA; clear y; (refine wpList_append_own _ rfl _ _ 53 rfl w.heap.size 3 i1' (.int .i64 0) 1 8 ndSliceInt hj hy0 hy1 hy2 rfl (by decide) _ M _ rfl (K1.out.alloc _) ⟨W1.heap.size, 0, none⟩ 1 1 [.int .i64 ((k : Int) + z)] rfl rfl (cell_one_new _ _ _) (by simp [Value.oneCell']) (by unfold maxLen; omega) (by omega) (by simp; omega) ?_; intro u3 w3 o3 g3 _; have N3 := hide ((J1.out.alloc _).kept g3 hap.out); have z3 := g3.size; simp at z3; have B3 := hide ((B1.out.alloc hz1' _).grown g3 (by simp; omega) (fun g hg => (K1.out.lt g hg).1)); replace o3 := hide o3; clear g3 QA))
          | (at_builtin; (refine wpList_append_own _ rfl _ _ 26 rfl w.heap.size 66 i0 (.agg #[.int .i64 0, .int .i64 0, .int .i64 0, .string ⟨#[]⟩]) 4 40 sliceTok hi hz0 hz1 hz2 rfl (by decide) _ L _ rfl (N3.out.alloc _) ⟨w3.heap.size, 0, none⟩ 1 1 [.int .i64 1, .int .i64 0, .int .i64 0, .string ⟨#[40]⟩] rfl rfl (four_new _ _ _ _ _ _) (by simp [Value.oneCell']) (by unfold maxLen; omega) (by omega) (by simp; omega) ?_; intro v4 w4 o4 g4 _; replace o4 := hide o4; replace g4 := hide g4)))
        have o3' : w3.ownsRow w.heap.size 3 1 u3 (M + 1) ((st.reverse.map fun n : Nat => .int .i64 (n : Int)) ++ [.int .i64 ((k + z : Nat) : Int)]) := by
          rw [Int.natCast_add]
          exact o3.out
        have K3 : OwnK w.heap.size w3 u3 ((k + z) :: st) := OwnK.push hMh.out o3'
        have N3' : OwnJ w.heap.size w3 (.slice va L vc) acc := by unfold OwnJ; rw [hLh.out]; exact N3.out
        have J4 := hide (OwnJ.snoc (x := ⟨1, 0, 0, [40]⟩) hLh.out o4.out)
        have K4 : Hid (OwnK w.heap.size w4 u3 ((k + z) :: st)) := (World.ownsRow.alloc K3 _).kept g4.out (oj_apart' N3' K3)
        have B4 := hide ((B3.out.alloc (by omega) _).grown g4.out (by simp; omega) (fun g hg => (N3.out.lt g hg).1))
        have hl4 : Hid ((acc ++ [(⟨1, 0, 0, [40]⟩ : J)]).length + ((k + z) :: st).length ≤ 2 * (k + 1)) := by
          show _ ≤ _
          have h1 := hLh.out
          have h2 := hMh.out
          simp only [List.length_append, List.length_cons, List.length_nil]
          omega
        clear K3 N3' o3' o3 o4 g4 N3
        generalize (acc ++ [(⟨1, 0, 0, [40]⟩ : J)]) = acc' at *
        generalize ((k + z) :: st) = st' at *
        go_loopw [3, 4] (fun v u wx => ∃ (acc : List J) (st : List Nat), Hid (acc ++ ((pops (k + 1) st).1 ++ tks (ns.drop (k + 1)) (k + 1) (pops (k + 1) st).2) = R) ∧ Hid (acc.length + st.length ≤ 2 * (k + 1)) ∧ Hid (OwnJ w.heap.size wx v acc) ∧ Hid (OwnK w.heap.size wx u st) ∧ Hid (Below w.heap.size w wx)) (fun _ u _ => lenOf u)
        case atStart => exact ⟨acc', st', hR1', hl4, J4, K4, B4⟩
        case round =>
          obtain ⟨acc2, st2, hR2, hal2, hJx, hKx, hBx⟩ := hrel
          have hwx : w.heap.size ≤ wr.heap.size := hBx.out.size
          obtain ⟨va2, vc2, hv2⟩ := own_shape (ownsRow_zero hJx.out)
          subst hv2
          have hal3 := hal2.out
          obtain ⟨L2, hL2⟩ : ∃ L, acc2.length = L := ⟨_, rfl⟩
          rw [hL2] at hal3
          have hJ3 := hJx.out
          unfold OwnJ at hJ3
          rw [hL2] at hJ3 hJx ⊢
          replace hJ3 := hide hJ3
          have hL2h := hide hL2
          clear hL2
          cases st2 with
          | nil =>
            obtain ⟨ua2, uc2, hu2⟩ := own_shape (ownsRow_zero hKx.out)
            subst hu2
            go_wp2
            go_roundw
            case rel => exact ⟨k + 1, acc2, [], by omega, by go_num, hR2, (by have := hal2.out; exact this), hJx, hKx, hBx⟩
            case measure => simp [intOf]; omega
          | cons top T =>
            obtain ⟨gk, kc, ek, q1, q2, q3, q4, ctop, kpop, clast⟩ := hKx.out.top
            subst ek
            obtain ⟨Q, hQ⟩ : ∃ Q, T.length = Q := ⟨_, rfl⟩
            have hal4 := hal3
            rw [List.length_cons, hQ] at hal4
            rw [hQ] at q1 ctop kpop ⊢
            have hwr2 : IntKind.i64.wrap ((Q : Int) + 1 - 1) = (Q : Int) := by rw [IntKind.wrap_i64]; omega
            have hwr5 : (0 : Int) < (Q : Int) + 1 := by omega
            have hwr6 : (Q : Int) < (Q : Int) + 1 := by omega
            have hQh := hide hQ
            clear hQ clast
            by_cases htk : top = k + 1
            · subst htk
              have hR3 : Hid ((acc2 ++ [clo]) ++ ((pops (k + 1) T).1 ++ tks (ns.drop (k + 1)) (k + 1) (pops (k + 1) T).2) = R) := by
                have := hR2.out
                rw [pops, if_pos rfl] at this
                show _ = _
                rw [← this]
                simp
              have hap2 : (Value.slice va2 L2 vc2).ownBlock = none ∨ (Value.slice va2 L2 vc2).ownBlock ≠ some gk := oj_apart hJx.out hKx.out
              have hap3 : (Value.slice (some ⟨gk, 0, none⟩) Q kc).ownBlock = none ∨ (Value.slice (some ⟨gk, 0, none⟩) Q kc).ownBlock ≠ (Value.slice va2 L2 vc2).ownBlock := by
                right
                rcases hap2 with e | e
                · rw [e]
                  simp [Value.ownBlock]
                · exact fun h => e h.symm
              have kpopH := hide kpop
              have hap3h := hide hap3
              have hq1 : (Q : Int) ≤ kc := by omega
              clear kpop hap2 hap3
              go_wp2_with (at_builtin; (refine wpList_append_own _ rfl _ _ 26 rfl w.heap.size 66 i0 (.agg #[.int .i64 0, .int .i64 0, .int .i64 0, .string ⟨#[]⟩]) 4 40 sliceTok hi hz0 hz1 hz2 rfl (by decide) _ L2 _ rfl (hJ3.out.alloc _) ⟨wr.heap.size, 0, none⟩ 1 1 [.int .i64 2, .int .i64 0, .int .i64 0, .string ⟨#[41]⟩] rfl rfl (four_new _ _ _ _ _ _) (by simp [Value.oneCell']) (by unfold maxLen; omega) (by omega) (by simp; omega) ?_; intro v4 w4 o4 g4 _; replace o4 := hide o4; replace g4 := hide g4))
              go_roundw
              case rel => exact ⟨acc2 ++ [clo], T, hR3, (by show _ ≤ _; have h1 := hL2h.out; have h2 := hQh.out; simp only [List.length_append, List.length_cons, List.length_nil]; omega), OwnJ.snoc (x := clo) hL2h.out o4.out, (World.ownsRow.alloc kpopH.out _).kept g4.out hap3h.out, (hBx.out.alloc hwx _).grown g4.out (by simp; omega) (fun g hg => (hJ3.out.lt g hg).1)⟩
              case measure => simp [lenOf]
            · have hR3 : Hid (acc2 ++ tks (ns.drop (k + 1)) (k + 1) (top :: T) = R) := by
                have := hR2.out
                rw [pops, if_neg htk] at this
                exact this
              have htk1 : ¬ (top : Int) = (k : Int) + 1 := by omega
              clear kpop
              go_wp2
              go_roundw
              case rel => exact ⟨k + 1, acc2, top :: T, by omega, by go_num, hR3, (by have := hal2.out; exact this), hJx, (by have := hKx; rw [hQh.out] at this; exact this), hBx⟩
              case measure => simp [intOf]; omega
      · have hR1' : Hid ((acc ++ [⟨kd, 0, 0, tx.data.toList⟩]) ++ ((pops (k + 1) st).1 ++ tks (ns.drop (k + 1)) (k + 1) (pops (k + 1) st).2) = R) := by
          show _ = _
          rw [if_neg hk1] at hR1
          rw [← hR1]
          simp [tokOf, hk1]
        have hk1' : ¬ kd = 1 := hk1
        clear hR1
        go_wp2_with (at_builtin; (refine wpList_append_own _ rfl _ _ 26 rfl w.heap.size 66 i0 (.agg #[.int .i64 0, .int .i64 0, .int .i64 0, .string ⟨#[]⟩]) 4 40 sliceTok hi hz0 hz1 hz2 rfl (by decide) _ L _ rfl (J1.out.alloc _) ⟨W1.heap.size, 0, none⟩ 1 1 [.int .i64 kd, .int .i64 0, .int .i64 0, .string tx] rfl rfl (four_new _ _ _ _ _ _) (by simp [Value.oneCell']) (by unfold maxLen; omega) (by omega) (by simp; omega) ?_; intro v4 w4 o4 g4 _; replace o4 := hide o4; replace g4 := hide g4))
        have J4 : Hid (OwnJ w.heap.size w4 v4 (acc ++ [⟨kd, 0, 0, tx.data.toList⟩])) := OwnJ.snoc (x := ⟨kd, 0, 0, tx.data.toList⟩) hLh.out (by
          have e : jCell ⟨kd, 0, 0, tx.data.toList⟩ = [.int .i64 kd, .int .i64 0, .int .i64 0, .string tx] := by simp [jCell]
          rw [e]
          exact o4.out)
        have K4 : Hid (OwnK w.heap.size w4 (.slice ua M uc) st) := by
          have := (K1.out.alloc _).kept g4.out hap'.out
          unfold OwnK
          rw [hMh.out]
          exact this
        have B4 := hide ((B1.out.alloc hz1' _).grown g4.out (by simp; omega) (fun g hg => (J1.out.lt g hg).1))
        have hl4 : Hid ((acc ++ [(⟨kd, 0, 0, tx.data.toList⟩ : J)]).length + st.length ≤ 2 * (k + 1)) := by
          show _ ≤ _
          have h1 := hLh.out
          have h2 := hMh.out
          simp only [List.length_append, List.length_cons, List.length_nil]
          omega
        clear o4 g4
        generalize (acc ++ [(⟨kd, 0, 0, tx.data.toList⟩ : J)]) = acc' at *
        go_loopw [3, 4] (fun v u wx => ∃ (acc : List J) (st : List Nat), Hid (acc ++ ((pops (k + 1) st).1 ++ tks (ns.drop (k + 1)) (k + 1) (pops (k + 1) st).2) = R) ∧ Hid (acc.length + st.length ≤ 2 * (k + 1)) ∧ Hid (OwnJ w.heap.size wx v acc) ∧ Hid (OwnK w.heap.size wx u st) ∧ Hid (Below w.heap.size w wx)) (fun _ u _ => lenOf u)
        case atStart => exact ⟨acc', st, hR1', hl4, J4, K4, B4⟩
        case round =>
          obtain ⟨acc2, st2, hR2, hal2, hJx, hKx, hBx⟩ := hrel
          have hwx : w.heap.size ≤ wr.heap.size := hBx.out.size
          obtain ⟨va2, vc2, hv2⟩ := own_shape (ownsRow_zero hJx.out)
          subst hv2
          have hal3 := hal2.out
          obtain ⟨L2, hL2⟩ : ∃ L, acc2.length = L := ⟨_, rfl⟩
          rw [hL2] at hal3
          have hJ3 := hJx.out
          unfold OwnJ at hJ3
          rw [hL2] at hJ3 hJx ⊢
          replace hJ3 := hide hJ3
          have hL2h := hide hL2
          clear hL2
          cases st2 with
          | nil =>
            obtain ⟨ua2, uc2, hu2⟩ := own_shape (ownsRow_zero hKx.out)
            subst hu2
            go_wp2
            go_roundw
            case rel => exact ⟨k + 1, acc2, [], by omega, by go_num, hR2, (by have := hal2.out; exact this), hJx, hKx, hBx⟩
            case measure => simp [intOf]; omega
          | cons top T =>
            obtain ⟨gk, kc, ek, q1, q2, q3, q4, ctop, kpop, clast⟩ := hKx.out.top
            subst ek
            obtain ⟨Q, hQ⟩ : ∃ Q, T.length = Q := ⟨_, rfl⟩
            have hal4 := hal3
            rw [List.length_cons, hQ] at hal4
            rw [hQ] at q1 ctop kpop ⊢
            have hwr2 : IntKind.i64.wrap ((Q : Int) + 1 - 1) = (Q : Int) := by rw [IntKind.wrap_i64]; omega
            have hwr5 : (0 : Int) < (Q : Int) + 1 := by omega
            have hwr6 : (Q : Int) < (Q : Int) + 1 := by omega
            have hQh := hide hQ
            clear hQ clast
            by_cases htk : top = k + 1
            · subst htk
              have hR3 : Hid ((acc2 ++ [clo]) ++ ((pops (k + 1) T).1 ++ tks (ns.drop (k + 1)) (k + 1) (pops (k + 1) T).2) = R) := by
                have := hR2.out
                rw [pops, if_pos rfl] at this
                show _ = _
                rw [← this]
                simp
              have hap2 : (Value.slice va2 L2 vc2).ownBlock = none ∨ (Value.slice va2 L2 vc2).ownBlock ≠ some gk := oj_apart hJx.out hKx.out
              have hap3 : (Value.slice (some ⟨gk, 0, none⟩) Q kc).ownBlock = none ∨ (Value.slice (some ⟨gk, 0, none⟩) Q kc).ownBlock ≠ (Value.slice va2 L2 vc2).ownBlock := by
                right
                rcases hap2 with e | e
                · rw [e]
                  simp [Value.ownBlock]
                · exact fun h => e h.symm
              have kpopH := hide kpop
              have hap3h := hide hap3
              have hq1 : (Q : Int) ≤ kc := by omega
              clear kpop hap2 hap3
              go_wp2_with (at_builtin; (refine wpList_append_own _ rfl _ _ 26 rfl w.heap.size 66 i0 (.agg #[.int .i64 0, .int .i64 0, .int .i64 0, .string ⟨#[]⟩]) 4 40 sliceTok hi hz0 hz1 hz2 rfl (by decide) _ L2 _ rfl (hJ3.out.alloc _) ⟨wr.heap.size, 0, none⟩ 1 1 [.int .i64 2, .int .i64 0, .int .i64 0, .string ⟨#[41]⟩] rfl rfl (four_new _ _ _ _ _ _) (by simp [Value.oneCell']) (by unfold maxLen; omega) (by omega) (by simp; omega) ?_; intro v4 w4 o4 g4 _; replace o4 := hide o4; replace g4 := hide g4))
              go_roundw
              case rel => exact ⟨acc2 ++ [clo], T, hR3, (by show _ ≤ _; have h1 := hL2h.out; have h2 := hQh.out; simp only [List.length_append, List.length_cons, List.length_nil]; omega), OwnJ.snoc (x := clo) hL2h.out o4.out, (World.ownsRow.alloc kpopH.out _).kept g4.out hap3h.out, (hBx.out.alloc hwx _).grown g4.out (by simp; omega) (fun g hg => (hJ3.out.lt g hg).1)⟩
              case measure => simp [lenOf]
            · have hR3 : Hid (acc2 ++ tks (ns.drop (k + 1)) (k + 1) (top :: T) = R) := by
                have := hR2.out
                rw [pops, if_neg htk] at this
                exact this
              have htk1 : ¬ (top : Int) = (k : Int) + 1 := by omega
              clear kpop
              go_wp2
              go_roundw
              case rel => exact ⟨k + 1, acc2, top :: T, by omega, by go_num, hR3, (by have := hal2.out; exact this), hJx, (by have := hKx; rw [hQh.out] at this; exact this), hBx⟩
              case measure => simp [intOf]; omega

    · have hkn : k = ns.length := by rw [hnH.out]; omega
      have hacc : acc = R := by
        have := hRk.out
        rw [hkn, List.drop_length, tks, List.append_nil] at this
        exact this
      have hJr : Hid (JRow wr (.slice va L vc) R) := by
        rw [← hacc]
        exact hJ.out.jrow
      have i1 : ¬ (k : Int) < n := by omega
      go_wp2
      go_ret
      exact ⟨_, rfl, hJr.out, hB'.out⟩
end Go.Proofs.YtjbalgjdcdmjjaaDoor
/- ==== ShowStand ==== -/
namespace Go.Proofs.YtjbalgjdcdmjjaaDoor
open Go.RowKit Go.Shelf
set_option linter.unusedVariables false
attribute [local go_sem] Oper.semAt_some
set_option maxRecDepth 100000 in
set_option maxHeartbeats 2000000 in
/-- The iterator, for every loop body that keeps what lay below n₀ and the iterator's boxes. -/
theorem stand1_at (F : Fence) (n : Nat) (h7 : F.fn 53) (hro : F.round = none) (hn : 1 ≤ n) (l lo n₀ : Nat) (a : Option Addr) (len cap : Nat) (ns : List Nd) (hS : Szs ns) (p0 E : Nat) (hE : E ≤ ns.length) (J Jx : List Nat → World → Prop)
    (hY : ∀ pre x W, J pre W → pre.length < ns.length → x < ns.length → YieldAt F (n - 1) Tryd.prog l #[.int .i64 ((x : Nat) : Int)] W fun e W' =>
      (e = .returned (.bool true) ∧ J (pre ++ [x]) W' ∧ KpS n₀ lo W W') ∨ (e = .returned (.bool false) ∧ Jx (pre ++ [x]) W'))
    (W : World) (hb0 : W.cell? ⟨lo, 0, none⟩ = some (.slice a len cap)) (hb1 : W.cell? ⟨lo + 1, 0, none⟩ = some (.int .i64 p0)) (hb2 : W.cell? ⟨lo + 2, 0, none⟩ = some (.int .i64 E)) (hN : Nds n₀ W (.slice a len cap) ns) (h0 : J [] W) :
    CallsIn F n Tryd.prog 53 #[.func (.yield l) #[] #[], .pointer (some ⟨lo + 1, 0, none⟩), .pointer (some ⟨lo + 2, 0, none⟩), .pointer (some ⟨lo, 0, none⟩)] W fun e W' => (∃ v, e = .returned v) ∧
      ((∃ ys, ys = kl ns E ns.length p0 ∧ J ys W') ∨ (∃ pre, pre <+: kl ns E ns.length p0 ∧ Jx pre W')) := by
  have hN' := hide hN
  obtain ⟨a', cap', e1, h1, ⟨h2, h2'⟩, h3, h4⟩ := hN
  cases e1
  clear h3 h4
  refine callsIn_of_wp Tryd.func53 rfl h7 ?_ hro
  simp only [Tryd.ntmps53, List.size_toArray, List.length_cons, List.length_nil, Nat.reduceAdd, Nat.reduceSub, Array.replicate_succ, Array.replicate_zero, List.push_toArray, List.append_toArray, List.nil_append, List.cons_append]
  gi_wp2
  gi_loopw [5] (fun j wr => ∃ (pre : List Nat) (k p : Nat), j = .int .i64 p ∧ Hid (kl ns E ns.length p0 = pre ++ kl ns E k p) ∧ Hid (E - p ≤ k) ∧ Hid (J pre wr) ∧ Hid (KpS n₀ lo W wr)) (fun j _ => E - (intOf j).toNat)
  case atStart => exact ⟨[], ns.length, p0, rfl, rfl, by simp only [Hid]; omega, h0, KpS_refl _ _ _⟩
  case round =>
    obtain ⟨pre, k, p, rfl, hpre, hk, hJ, hKp⟩ := hrel
    have hb2' : wr.cell? ⟨lo + 2, 0, none⟩ = some (.int .i64 E) := (hKp.out.cell (by omega) (by omega) 0).trans hb2
    by_cases hlt : p < E
    · have hpn : p < ns.length := by omega
      obtain ⟨k, rfl⟩ : ∃ k', k = k' + 1 := ⟨k - 1, by have := hk.out; omega⟩
      have hgo := hide (kl_go ns E k p hlt)
      have hlen : pre.length < ns.length := by
        have h5 := kl_length ns E ns.length p0
        have h6 := congrArg List.length hpre.out
        rw [hgo.out] at h6
        simp at h6
        omega
      have hs := hS p hpn
      obtain ⟨b, off, rfl, hb, -, -, -, c3, -⟩ := (hN'.out.below hKp.out.1).at_ hpn
      generalize (ns.getD p Nd.z).size = sz at *
      obtain ⟨z, rfl⟩ : ∃ z : Nat, sz = z := ⟨sz.toNat, by omega⟩
      obtain ⟨fn, tmps, assign, body, hy, hR⟩ := hY pre p wr hJ.out hlen hpn
      replace hR := hide hR
      gi_wp2
      refine hR.out.mono ?_
      rintro e W3 (⟨rfl, hJ3, hk3⟩ | ⟨rfl, hJx3⟩)
      · have d0 : W3.cell? ⟨lo, 0, none⟩ = some (.slice (some ⟨b, off, none⟩) ns.length cap) := (hk3.cell (by omega) (by omega) 0).trans ((hKp.out.cell (by omega) (by omega) 0).trans hb0)
        have d3 : W3.cell? ⟨b, off + p * 5 + 3, none⟩ = some (.int .i64 z) := (hk3.1.cell (p := ⟨b, off + p * 5 + 3, none⟩) hb).trans c3
        replace hk3 := hide hk3
        replace hJ3 := hide hJ3
        gi_wp2
        go_roundw
        case rel => exact ⟨pre ++ [p], k, p + z, by simp, by rw [hpre.out, hgo.out]; simp [Hid], by have := hk.out; simp only [Hid]; omega, hJ3, KpS_t hKp.out hk3.out⟩
        case measure => simp [intOf]; omega
      · replace hJx3 := hide hJx3
        gi_wp2
        refine bodyPost_ret (results_none rfl _ _ _) rfl ?_
        exact ⟨⟨_, rfl⟩, .inr ⟨pre ++ [p], ⟨kl ns E k (p + z), by rw [hpre.out, hgo.out]; simp⟩, hJx3.out⟩⟩
    · have e1 := hide (kl_end ns E k p (by omega))
      have hfin : Hid (pre = kl ns E ns.length p0) := by rw [hpre.out, e1.out]; simp [Hid]
      gi_wp2
      go_end0
      exact ⟨⟨_, rfl⟩, .inl ⟨pre, hfin.out, hJ.out⟩⟩
abbrev Inn (ns : List Nd) := {x : Nat // x < ns.length}
theorem stand_within (F : Fence) (n : Nat) (h7 : F.fn 53) (hro : F.round = none) (hn : 1 ≤ n) (lo n₀ : Nat) (a : Option Addr) (len cap : Nat) (ns : List Nd) (hS : Szs ns) (p0 E : Nat) (hE : E ≤ ns.length)
    (w : World) (hlo : lo + 3 ≤ w.heap.size) (hn0 : n₀ ≤ w.heap.size) (hb0 : w.cell? ⟨lo, 0, none⟩ = some (.slice a len cap)) (hb1 : w.cell? ⟨lo + 1, 0, none⟩ = some (.int .i64 p0)) (hb2 : w.cell? ⟨lo + 2, 0, none⟩ = some (.int .i64 E)) (hN : Nds n₀ w (.slice a len cap) ns) :
    SeqStopsK F n Tryd.prog 53 #[.pointer (some ⟨lo + 1, 0, none⟩), .pointer (some ⟨lo + 2, 0, none⟩), .pointer (some ⟨lo, 0, none⟩)] (fun x : Inn ns => #[Value.int .i64 (x.1 : Int)]) (KpS n₀ lo) (fun ys => ys.map Subtype.val = kl ns E ns.length p0) (fun pre => pre.map Subtype.val <+: kl ns E ns.length p0) ns.length w := by
  intro l J Jx W hW _ _ hY h0
  refine (stand1_at F n h7 hro hn l lo n₀ a len cap ns hS p0 E hE (fun pre W => ∃ q : List (Inn ns), q.map Subtype.val = pre ∧ J q W) (fun pre W => ∃ q : List (Inn ns), q.map Subtype.val = pre ∧ Jx q W) ?_ W ((hW.cell (p := ⟨lo, 0, none⟩) (by simp; omega)).trans hb0) ((hW.cell (p := ⟨lo + 1, 0, none⟩) (by simp; omega)).trans hb1) ((hW.cell (p := ⟨lo + 2, 0, none⟩) (by simp; omega)).trans hb2) (hN.below (hW.mono hn0)) ⟨[], rfl, h0⟩).mono ?_
  · rintro pre x W1 ⟨q, rfl, hq⟩ hl hx
    obtain ⟨fn, tmps, assign, body, hy, hR⟩ := hY q ⟨x, hx⟩ W1 hq (by simpa using hl)
    refine ⟨fn, tmps, assign, body, hy, hR.mono ?_⟩
    rintro e W' (⟨h1, h2, h3⟩ | ⟨h1, h2⟩)
    · exact .inl ⟨h1, ⟨_, by simp, h2⟩, h3⟩
    · exact .inr ⟨h1, ⟨_, by simp, h2⟩⟩
  · rintro e W' ⟨hv, h | h⟩
    · obtain ⟨ys, rfl, q, hq, hj⟩ := h
      exact ⟨hv, .inl ⟨q, hq, hj⟩⟩
    · obtain ⟨pre, hp, q, rfl, hj⟩ := h
      exact ⟨hv, .inr ⟨q, hp, hj⟩⟩
end Go.Proofs.YtjbalgjdcdmjjaaDoor
/- ==== ShowMem ==== -/
namespace Go.Proofs.YtjbalgjdcdmjjaaDoor
open Go.RowKit
set_option linter.unusedVariables false
def piece (ns : List Nd) (k : Nat) : List Nd := (ns.drop k).take (ns.getD k Nd.z).size.toNat
def lnt (ns : List Nd) (k : Nat) : List J := tks (piece ns k) 0 []
def shw (ns : List Nd) : List Nat → List UInt8 → Option (List UInt8)
  | [], acc => some acc
  | k :: r, acc => match S.jn resv none (jk (lnt ns k)) with
    | none => none
    | some l => shw ns r (acc ++ l ++ [10])
theorem shw_append (ns : List Nd) : ∀ (a b : List Nat) (acc : List UInt8), shw ns (a ++ b) acc = (shw ns a acc).bind (shw ns b)
  | [], b, acc => rfl
  | k :: r, b, acc => by
    rw [List.cons_append, shw, shw]
    cases S.jn resv none (jk (lnt ns k)) with
    | none => rfl
    | some l => exact shw_append ns r b _
def showA (ns : List Nd) : Option (List UInt8) := shw ns (kl ns ns.length ns.length 0) []
def showV (ns : List Nd) : List UInt8 := if forestB ns = true then (showA ns).getD [] else []
def showE (ns : List Nd) : Int := if forestB ns = true then qe (showA ns) else 22
theorem piece_length {ns : List Nd} (hS : Szs ns) {k : Nat} (hk : k < ns.length) : (piece ns k).length = (ns.getD k Nd.z).size.toNat := by
  have := hS k hk
  unfold piece
  rw [List.length_take, List.length_drop]
  omega
theorem piece_at {ns : List Nd} {k j : Nat} (hj : j < (ns.getD k Nd.z).size.toNat) : (piece ns k).getD j Nd.z = ns.getD (k + j) Nd.z := by
  unfold piece
  rw [List.getD_eq_getElem?_getD, List.getElem?_take, if_pos hj, List.getElem?_drop, ← List.getD_eq_getElem?_getD]
theorem Nds.piece {B : Nat} {w : World} {b off len cap : Nat} {ns : List Nd} (h : Nds B w (.slice (some ⟨b, off, none⟩) len cap) ns) (hS : Szs ns) {k : Nat} (hk : k < ns.length) :
    Nds B w (.slice (some ⟨b, off + k * 5, none⟩) (ns.getD k Nd.z).size.toNat (cap - k)) (piece ns k) := by
  have hs := hS k hk
  have hl := piece_length hS hk
  obtain ⟨a', cap', e1, h1, ⟨h2, h2'⟩, h3, h4⟩ := h
  cases e1
  obtain ⟨b', off', e2, h5, h6⟩ := h4 (by intro e; rw [e] at hk; simp at hk)
  cases e2
  refine ⟨_, _, by rw [hl], by rw [hl]; omega, ⟨by omega, by rw [hl]; omega⟩, fun e => (by cases e), fun _ => ⟨b, off + k * 5, rfl, h5, fun j hj => ?_⟩⟩
  rw [hl] at hj
  rw [piece_at hj]
  have := h6 (k + j) (by omega)
  rw [show off + (k + j) * 5 = off + k * 5 + j * 5 by omega] at this
  exact this
theorem piece_sizes {ns : List Nd} (hS : Szs ns) {k : Nat} (hk : k < ns.length) (hl : ns.length ≤ 1099511627776) : ∀ j, j < (piece ns k).length → 0 ≤ ((piece ns k).getD j Nd.z).size ∧ ((piece ns k).getD j Nd.z).size ≤ 1099511627776 := by
  intro j hj
  rw [piece_length hS hk] at hj
  rw [piece_at hj]
  have := hS k hk
  have := hS (k + j) (by omega)
  omega
theorem jn_le : ∀ (ts : List J) (p : Option Int) (s : List UInt8), S.jn resv p (jk ts) = some s → s.length ≤ jtot ts
  | [], p, s, h => by
    have : s = [] := by
      have h : some [] = some s := h
      exact (Option.some.inj h).symm
    subst this
    exact Nat.zero_le _
  | t :: r, p, s, h => by
    have h : S.jn resv p ((t.kind, t.text) :: jk r) = some s := h
    rw [S.jn] at h
    have hsl := spl_len t.kind t.text
    cases hs : S.spl resv t.kind t.text with
    | none => rw [hs] at h; cases h
    | some a =>
      rw [hs] at h hsl
      simp only at h
      cases hj : S.jn resv (some t.kind) (jk r) with
      | none => rw [hj] at h; cases h
      | some u =>
        rw [hj] at h
        have h := (Option.some.inj h).symm
        have ih := jn_le r _ u hj
        have hsep : (S.sep p t.kind).length ≤ 1 := by
          unfold S.sep
          cases p with
          | none => simp
          | some q => simp only; split <;> simp
        have hsl : a.length ≤ 2 * t.text.length + 2 := hsl
        rw [h]
        simp only [List.length_append, jtot]
        omega
theorem sl_nd (g off N cap a b : Nat) (h1 : a ≤ b) (h2 : b ≤ cap) (h3 : a < cap) (W : World) : (Instr.sliceAt 43 (.slice (some ⟨g, off, none⟩) N cap) (some (.int .i64 a)) (some (.int .i64 b)) none).run Tryd.prog W = .ok (.slice (some ⟨g, off + a * 5, none⟩) (b - a) (cap - a)) W := by
  have he : Tryd.prog.elem 43 = 47 := by kernel_rfl
  have hu : Tryd.prog.underlying 43 = some (.slice (Tryd.prog.elem 43)) := by rw [he]; exact Tryd.underlying43
  have e1 : (0 : Int) ≤ a := by omega
  have e2 : (a : Int) ≤ b := by omega
  have e3 : (b : Int) ≤ cap := by omega
  rw [run_sliceAt_slice (h := hu), run_slice_lh (ht := hu) (h0 := e1) (h1 := e2) (h2 := e3), he]
  clear hu he
  go_simp
  omega
theorem builder_other {T e : TypeId} {B b : Nat} {bs : List Value} {W W' : World} {row : Option Nat} (h : Lib.IsBuilderF T e B b bs W) (hg : W.grownBy W' row) (hr : ∀ r, row = some r → ∃ o : Obj, W.heap[r]? = some o ∧ o.isCells = false) : Lib.IsBuilderF T e B b bs W' := by
  have one : ∀ p, Lib.BuilderAtF T e B b p bs W → Lib.BuilderAtF T e B b p bs W' := by
    rintro p ⟨hB, v, hb, hown, hne⟩
    refine ⟨hB, v, ?_, ?_, hne⟩
    · rw [hg.block b (Array.getElem?_eq_some_iff.1 hb).1 (fun e1 => ?_)]
      · exact hb
      · obtain ⟨o, h1, h2⟩ := hr b e1.symm
        rw [hb] at h1
        cases h1
        cases h2
    · refine hown.kept hg ?_
      cases hv : v.ownBlock with
      | none => exact .inl rfl
      | some g =>
        right
        intro e1
        obtain ⟨c, fz, h3⟩ := Lib.ownsRowF_kind hown g hv
        obtain ⟨o, h1, h2⟩ := hr g e1.symm
        rw [h3] at h1
        cases h1
        cases h2
  rcases h with h | h
  · exact .inl (one _ h)
  · exact .inr (one _ h)
theorem builder_block {T e : TypeId} {B b : Nat} {bs : List Value} {W : World} (h : Lib.IsBuilderF T e B b bs W) : ∃ c, W.heap[b]? = some (.cells c T (0, 0)) := by
  rcases h with ⟨_, v, hb, _⟩ | ⟨_, v, hb, _⟩ <;> exact ⟨_, hb⟩
theorem keeps_call {W W' : World} (q : Below W.heap.size W W') : KeepsOthers W W' := ⟨q.size, fun k o hk _ => (q.block k (Array.getElem?_eq_some_iff.1 hk).1).trans hk⟩
theorem keeps_write {T e : TypeId} {B b : Nat} {bs : List Value} {W W' : World} (h : Lib.IsBuilderF T e B b bs W) (q : Below B W W') (k : Lib.OthersKept e (some b) W W') : KeepsOthers W W' := by
  refine ⟨q.size, fun j o hj ho => k j o hj ?_ (fun c fz e1 => by rw [e1] at ho; cases ho)⟩
  intro e1
  cases e1
  obtain ⟨c, hb⟩ := builder_block h
  rw [hb] at hj
  cases hj
  cases ho
theorem KpS.call {n₀ lo : Nat} {W W' : World} (q : Below W.heap.size W W') (h1 : n₀ ≤ W.heap.size) (h2 : lo + 3 ≤ W.heap.size) : KpS n₀ lo W W' := ⟨q.mono h1, fun j _ hj => q.block j (by omega)⟩
theorem KpS.write {n₀ : Nat} {W W' : World} {e : TypeId} (q : Below n₀ W W') (k : Lib.OthersKept e (some n₀) W W') (hb : ∀ j, n₀ + 1 ≤ j → j < n₀ + 1 + 3 → ∃ v t, W.heap[j]? = some (.cells #[v] t (0, 0)) ∧ t ≠ e) : KpS n₀ (n₀ + 1) W W' := by
  refine ⟨q, fun j h1 h2 => ?_⟩
  obtain ⟨v, t, h3, h4⟩ := hb j h1 h2
  rw [h3]
  exact k j _ h3 (fun e1 => by cases e1; omega) (fun c fz e1 => by cases e1; exact h4 rfl)
theorem KpS.own {β : Type} {n₀ lo B : Nat} {X : World} (h1 : n₀ ≤ B) (h2 : lo + 3 ≤ B) (h3 : B ≤ X.heap.size) : OwnFrom B (fun (_ : β) W => KpS n₀ lo X W) := by
  intro s W W' row h hg hr
  have hz := h.1.size
  refine ⟨ownFrom_below (β := Unit) (w₀ := X) (by omega) h1 () W W' row h.1 hg hr, fun j h4 h5 => ?_⟩
  rw [hg.block j (by omega) (fun e1 => by have := (hr j e1.symm).1; omega)]
  exact h.2 j h4 h5
end Go.Proofs.YtjbalgjdcdmjjaaDoor
/- ==== Show2 ==== -/
namespace Go.Proofs.YtjbalgjdcdmjjaaDoor
open Go.RowKit Go.Shelf
set_option linter.unusedVariables false
attribute [local go_sem] Oper.semAt_some
theorem two_stores {W : World} {p1 p2 : Nat} {t1 t2 : TypeId} {u1 u2 : Value} (z1 : Boxed W p1 t1 u1) (z2 : Boxed W p2 t2 u2) (hne : p1 ≠ p2) (s e : Value) :
    W.cell? ⟨p1, 0, none⟩ = some u1 ∧ W.frozen? ⟨p1, 0, none⟩ = false ∧ (W.setCell ⟨p1, 0, none⟩ s).cell? ⟨p2, 0, none⟩ = some u2 ∧ (W.setCell ⟨p1, 0, none⟩ s).frozen? ⟨p2, 0, none⟩ = false ∧
    ((W.setCell ⟨p1, 0, none⟩ s).setCell ⟨p2, 0, none⟩ e).cell? ⟨p1, 0, none⟩ = some s ∧ ((W.setCell ⟨p1, 0, none⟩ s).setCell ⟨p2, 0, none⟩ e).cell? ⟨p2, 0, none⟩ = some e ∧
    Boxed ((W.setCell ⟨p1, 0, none⟩ s).setCell ⟨p2, 0, none⟩ e) p1 t1 s ∧ Boxed ((W.setCell ⟨p1, 0, none⟩ s).setCell ⟨p2, 0, none⟩ e) p2 t2 e := by
  have a1 := z1.set s
  have a2 := z2.other (Ne.symm hne) s
  have a3 := a1.other hne e
  have a4 := a2.set e
  exact ⟨z1.cell, z1.frozen, a2.cell, a2.frozen, a3.cell, a4.cell, a3, a4⟩
theorem boxed_put {W : World} {D p : Nat} {t : TypeId} {v : Value} (o : Obj) (h : Boxed W p t v) (hne : p ≠ D) : (W.putObj D o).cell? ⟨p, 0, none⟩ = some v :=
  Boxed.cell (W := W.putObj D o) ((World.putObj_heap_other hne).trans h)
set_option maxRecDepth 100000 in
set_option maxHeartbeats 8000000 in
theorem show_calls (w : World) (hc : Cls w) (hm : Mx w) (B : Nat) (v : Value) (ns : List Nd) (h : Nds B w v ns) (hB : B ≤ w.heap.size) (hlen : ns.length ≤ 1048576) (hT : ∀ k, k < ns.length → jtot (lnt ns k) ≤ 33554432) :
    Calls Tryd.prog 14 #[v] w fun e w' => e = .returned (.tuple #[.string ⟨(showV ns).toArray⟩, .int .i64 (showE ns)]) ∧ Below w.heap.size w w' := by
  have hN := hide h
  obtain ⟨a, cap, rfl, h1, ⟨h2, h2'⟩, h3, h4⟩ := h
  clear h3 h4
  obtain ⟨w3, hw3⟩ : ∃ W, ((w.alloc (.cells #[.slice a ns.length cap] 43)).alloc (.cells #[.string ⟨#[]⟩] 9)).alloc (.cells #[.int .i64 0] 48) = W := ⟨_, rfl⟩
  have hs3 : w3.heap.size = w.heap.size + 3 := by rw [← hw3]; simp
  have b3 : Below w.heap.size w w3 := by rw [← hw3]; exact (((Below.refl _ w).alloc (Nat.le_refl _) _).alloc (by simp) _).alloc (by simp; omega) _
  have x0 : Boxed w3 w.heap.size 43 (.slice a ns.length cap) := by
    rw [← hw3]; exact ((Boxed.new w 43 _).alloc _).alloc _
  have x1 : Boxed w3 (w.heap.size + 1) 9 (.string ⟨#[]⟩) := by
    rw [← hw3]
    have := (Boxed.new (w.alloc (.cells #[.slice a ns.length cap] 43)) 9 (.string ⟨#[]⟩)).alloc (.cells #[.int .i64 0] 48)
    rw [World.size_alloc] at this
    exact this
  have x2 : Boxed w3 (w.heap.size + 1 + 1) 48 (.int .i64 0) := by
    rw [← hw3]
    have := Boxed.new ((w.alloc (.cells #[.slice a ns.length cap] 43)).alloc (.cells #[.string ⟨#[]⟩] 9)) 48 (.int .i64 0)
    rw [World.size_alloc, World.size_alloc] at this
    exact this
  have hN3 := hide (hN.out.below (b3.mono hB))
  have hFo := hide (forest_calls w3 B _ ns hN3.out (by omega))
  have c0 := x0.cell
  cases hf : forestB ns
  · have e1 : Hid (showE ns = 22) := by unfold Hid showE; rw [hf]; rfl
    have e2 : Hid (showV ns = []) := by unfold Hid showV; rw [hf]; simp
    rw [hf] at hFo
    go_enter Tryd.func14, Tryd.ntmps14
    go_wp2_with (go_at_call 31; refine hFo.out.mono ?_; rintro e w5 ⟨rfl, b5⟩; have z1 : Boxed w5 (w.heap.size + 1) 9 (.string ⟨#[]⟩) := (b5.block _ (by omega)).trans x1; have z2 : Boxed w5 (w.heap.size + 1 + 1) 48 (.int .i64 0) := (b5.block _ (by omega)).trans x2; have hs5 := b5.size; replace b5 := hide (b3.then_below b5); obtain ⟨k1, k2, k3, k4, k5, k6, -, -⟩ := two_stores z1 z2 (by omega) (.string ⟨#[]⟩) (.int .i64 22); clear z1 z2)
    refine bodyPost_ret (v := .tuple #[.string ⟨#[]⟩, .int .i64 22]) (by simp [results, Tryd.results14, go_sem, k5, k6]) rfl ?_
    exact ⟨by rw [e1.out, e2.out], (b5.out.setCell (p := ⟨w.heap.size + 1, 0, none⟩) (by simp) _).setCell (p := ⟨w.heap.size + 1 + 1, 0, none⟩) (by simp; omega) _⟩
  rw [hf] at hFo
  have hS := hide (forest_sizes hf)
  refine (callsIn_wide (n := 4)).1 ?_
  refine callsIn_of_wp_marks Tryd.func14 rfl trivial ?_ rfl
  simp only [Tryd.ntmps14, List.size_toArray, List.length_cons, List.length_nil, Nat.reduceAdd, Nat.reduceSub, Array.replicate_succ, Array.replicate_zero, List.push_toArray, List.append_toArray, List.nil_append, List.cons_append]
  gi_wp2_with (first
      | (refine ⟨trivial, ?_⟩; gi_at_call 31; refine (callsIn_wide.2 hFo.out).mono ?_; rintro e w5 ⟨rfl, b5⟩; have hs5 := b5.size; obtain ⟨w6, hw6⟩ : ∃ W, w5.alloc (.cells #[.pointer none, .slice none 0 0] 84) = W := ⟨_, rfl⟩; have b6 : Below w5.heap.size w5 w6 := (by rw [← hw6]; exact (Below.refl _ w5).alloc (Nat.le_refl _) _); have I0 : Hid (Lib.IsBuilderF 84 5 w5.heap.size w5.heap.size (Lib.byteCells []) w6) := (by rw [← hw6]; exact Lib.IsBuilderF.of (Lib.fresh_isBuilder 84 5 w5)); have hs6 : w6.heap.size = w5.heap.size + 1 := (by rw [← hw6]; simp); have d0 : w6.cell? ⟨w.heap.size, 0, none⟩ = some (.slice a ns.length cap) := (b6.cell (p := ⟨w.heap.size, 0, none⟩) (by simp; omega)).trans ((b5.cell (p := ⟨w.heap.size, 0, none⟩) (by simp; omega)).trans c0); replace b5 := hide b5; replace b6 := hide b6)
      | (refine ⟨trivial, ?_⟩; gi_at_call 32; refine (standing_in Fence.wide _ trivial rfl _ _ _ _ _ _).mono ?_; rintro e w' ⟨rfl, rfl⟩))
  have hb5 := b5.out
  have hb6 := b6.out
  have y1 := ((Boxed.new w6 43 (.slice a ns.length cap)).alloc (.cells #[.int .i64 0] 3)).alloc (.cells #[.int .i64 ns.length] 3)
  have y2 := (Boxed.new (w6.alloc (.cells #[.slice a ns.length cap] 43)) 3 (.int .i64 0)).alloc (.cells #[.int .i64 ns.length] 3)
  have y3 := Boxed.new ((w6.alloc (.cells #[.slice a ns.length cap] 43)).alloc (.cells #[.int .i64 0] 3)) 3 (.int .i64 ns.length)
  have hB0 : Below w6.heap.size w6 (((w6.alloc (.cells #[.slice a ns.length cap] 43)).alloc (.cells #[.int .i64 0] 3)).alloc (.cells #[.int .i64 ns.length] 3)) := (((Below.refl _ w6).alloc (Nat.le_refl _) _).alloc (by simp) _).alloc (by simp; omega) _
  have hW0 : (((w6.alloc (.cells #[.slice a ns.length cap] 43)).alloc (.cells #[.int .i64 0] 3)).alloc (.cells #[.int .i64 ns.length] 3)).heap.size = w5.heap.size + 4 := by simp; omega
  simp only [World.size_alloc, hs6] at y1 y2 y3
  generalize hX : ((w6.alloc (.cells #[.slice a ns.length cap] 43)).alloc (.cells #[.int .i64 0] 3)).alloc (.cells #[.int .i64 ns.length] 3) = X at *
  clear hX hw6
  have bX : Below w.heap.size w X := ((b3.then_below hb5).then_below hb6).then_below hB0
  have b5X : Below w5.heap.size w5 X := hb6.then_below hB0
  have b3X : Below w3.heap.size w3 X := (hb5.then_below hb6).then_below hB0
  have I1 := hide (builder_below I0.out hB0)
  have hNX := hide (hN.out.below (bX.mono hB))
  have X1 : Boxed X (w.heap.size + 1) 9 (.string ⟨#[]⟩) := (b3X.block _ (by omega)).trans x1
  have X2 : Boxed X (w.heap.size + 1 + 1) 48 (.int .i64 0) := (b3X.block _ (by omega)).trans x2
  have X0 : Boxed X w.heap.size 43 (.slice a ns.length cap) := (b3X.block _ (by omega)).trans x0
  have hsz5 : w.heap.size + 3 ≤ w5.heap.size := by omega
  refine wpIn_rangeFunc_ownG rfl (by omega) (gf := 53) (lb := #[.pointer (some ⟨w5.heap.size + 1 + 1, 0, none⟩), .pointer (some ⟨w5.heap.size + 1 + 2, 0, none⟩), .pointer (some ⟨w5.heap.size + 1, 0, none⟩)]) rfl trivial (enters_of Tryd.func53 (by kernel_rfl) rfl)
      (stand_within Fence.wide _ trivial rfl (by omega) (w5.heap.size + 1) w5.heap.size _ _ _ ns hS.out 0 ns.length (Nat.le_refl _) X (by omega) (by omega) y1.cell (by exact y2.cell) (by exact y3.cell) (hNX.out.mono (by omega))) KpS_t (KpS_b (by omega) (by omega)) (Below.refl _ _) (fun _ => rfl)
      (fun pre W => (∃ acc : List UInt8, shw ns (pre.map Subtype.val) [] = some acc ∧ acc.length ≤ pre.length * 33554433 ∧ Lib.IsBuilderF 84 5 w5.heap.size w5.heap.size (Lib.byteCells acc) W) ∧ KpS w5.heap.size (w5.heap.size + 1) X W)
      (fun c pre W => c = .ret ∧ shw ns (pre.map Subtype.val) [] = none ∧ Boxed W (w.heap.size + 1) 9 (.string ⟨#[]⟩) ∧ Boxed W (w.heap.size + 1 + 1) 48 (.int .i64 17) ∧ Below w.heap.size w W)
      (OwnFrom.and (fun s W W' row ⟨acc, q1, q2, q3⟩ hg hr => ⟨acc, q1, q2, builder_other q3 hg (fun r e => (hr r e).2)⟩) (KpS.own (by omega) (by omega) (Nat.le_refl _)))
      (fun c s W W' row ⟨q1, q2, q3, q4, q5⟩ hg hr => ⟨q1, q2, (hg.block _ q3.lt (fun e => by have := (hr _ e.symm).1; omega)).trans q3, (hg.block _ q4.lt (fun e => by have := (hr _ e.symm).1; omega)).trans q4, ownFrom_below (β := Unit) (n₀ := w.heap.size) (w₀ := w) (Nat.le_refl _) (by omega) () W W' row q5 hg hr⟩)
      ⟨⟨[], rfl, Nat.zero_le _, I1.out⟩, KpS_refl _ _ _⟩
      (fun x => { tmps := #[.slice a ns.length cap, .pointer (some ⟨w.heap.size, 0, none⟩), .pointer (some ⟨w.heap.size + 1, 0, none⟩), .pointer (some ⟨w.heap.size + 1 + 1, 0, none⟩), .pointer (some ⟨w5.heap.size, 0, none⟩), .int .i64 (x.1 : Int), undef, undef, .slice a ns.length cap, .bool true, .bool false, .slice a ns.length cap, .slice a ns.length cap, .int .i64 ns.length, .func (.func 53) #[] #[.pointer (some ⟨w5.heap.size + 1 + 1, 0, none⟩), .pointer (some ⟨w5.heap.size + 1 + 2, 0, none⟩), .pointer (some ⟨w5.heap.size + 1, 0, none⟩)], .int .i64 (x.1 : Int), undef, undef, undef, undef, undef, undef, undef, undef, undef, undef, undef, undef, undef, undef, undef, undef, undef, undef, undef, undef, undef, undef], defers := [] }) ?assign ?body ?done ?stop
  case assign =>
    intro l x W K hK
    gi_wp2
    exact hK
  case body =>
    rintro l pre ⟨x, hx⟩ W ⟨⟨acc, ha, hal, hI⟩, hKp⟩ hlt
    have hWz : w5.heap.size + 4 ≤ W.heap.size := by have := hKp.1.size; omega
    have hWB : Below w.heap.size w W := bX.trans (hKp.1.mono (by omega))
    have kx0 : W.cell? ⟨w.heap.size, 0, none⟩ = some (.slice a ns.length cap) := (hKp.1.cell (p := ⟨w.heap.size, 0, none⟩) (by simp; omega)).trans X0.cell
    have hNW := hN.out.below (hWB.mono hB)
    obtain ⟨b, off, rfl, hb, -, -, -, c3, -⟩ := hNW.at_ hx
    have hsx := hS.out x hx
    have hpc := hide (hNW.piece hS.out hx)
    have hps := hide (piece_sizes hS.out hx (by omega))
    have hpl := piece_length hS.out hx
    have hTx := hT x hx
    obtain ⟨z, hz⟩ : ∃ z : Nat, (ns.getD x Nd.z).size = z := ⟨_, (Int.toNat_of_nonneg (by omega)).symm⟩
    rw [hz] at c3 hsx hpc hpl
    rw [Int.toNat_natCast] at hpc hpl
    have sl : ∀ W, (Instr.sliceAt 43 (.slice (some ⟨b, off, none⟩) ns.length cap) (some (.int .i64 (x : Int))) (some (.int .i64 ((x : Int) + z))) none).run Tryd.prog W = .ok (.slice (some ⟨b, off + x * 5, none⟩) z (cap - x)) W := by
      intro W
      have := sl_nd b off ns.length cap x (x + z) (by omega) (by omega) (by omega) W
      rw [Nat.add_sub_cancel_left, Int.natCast_add] at this
      exact this
    have hx' : (x : Int) < ns.length := by omega
    have ew : IntKind.i64.wrap ((x : Int) + z) = (x : Int) + z := by rw [IntKind.wrap_i64]; omega
    have qt := hide (fun W' (q : Below W.heap.size W W') => ntoks_calls W' B _ (piece ns x) (hpc.out.below (q.mono (by omega))) (by have := q.size; omega) hps.out (by omega))
    have qj := hide (fun (W' : World) u (q : Below w.heap.size w W') (ju : JRow W' u (lnt ns x)) => join_calls W' (cls_below hc q) (hm.below q) u _ ju (by omega))
    have hk0 : w.heap.size < W.heap.size := by omega
    have hk3 : b < W.heap.size := by omega
    replace hk0 := hide hk0
    replace hk3 := hide hk3
    have hZ1 : Hid (Boxed W (w.heap.size + 1) 9 (.string ⟨#[]⟩)) := (hKp.1.block _ (by omega)).trans X1
    have hZ2 : Hid (Boxed W (w.heap.size + 1 + 1) 48 (.int .i64 0)) := (hKp.1.block _ (by omega)).trans X2
    have hBx : Hid (∀ W', Below W.heap.size W W' → ∀ j, w5.heap.size + 1 ≤ j → j < w5.heap.size + 1 + 3 → ∃ v t, W'.heap[j]? = some (.cells #[v] t (0, 0)) ∧ t ≠ 5) := by
      intro W' q j h1 h2
      have e0 : W'.heap[j]? = X.heap[j]? := (q.block j (by omega)).trans (hKp.2 j h1 h2)
      rcases (by omega : j = w5.heap.size + 1 ∨ j = w5.heap.size + 1 + 1 ∨ j = w5.heap.size + 1 + 2) with rfl | rfl | rfl
      · exact ⟨_, _, e0.trans y1, by decide⟩
      · exact ⟨_, _, e0.trans y2, by decide⟩
      · exact ⟨_, _, e0.trans y3, by decide⟩
    have hXz : Hid (X.heap.size = w5.heap.size + 4) := hW0
    have hWzH := hide hWz
    have hs5H := hide hsz5
    have hlenH := hide hlen
    have hltH := hide hlt
    have halH := hide hal
    have hTH := hide hTx
    replace ha := hide ha
    replace hI := hide hI
    replace hKp := hide hKp
    replace hWB := hide hWB
    clear x1 x2 X1 X2 X0 hpl hTx hWz hW0 hsz5
    cases hR : S.jn resv none (jk (lnt ns x)) with
    | none =>
      rw [hR] at qj
      have qj2 := hide (fun (W' : World) u (q : Below w.heap.size w W') (ju : JRow W' u (lnt ns x)) => (show Calls Tryd.prog 33 #[u] W' fun e w' => e = .returned (.tuple #[.string ⟨#[]⟩, .int .i64 17]) ∧ Below W'.heap.size W' w' from qj.out W' u q ju))
      replace hR := hide hR
      gi_wp2
      rename_i Q1 K1 hK1 Q2 K0 hK0
      have hK2 := hide hK0
      clear hK0 hK1 K1 Q1 qj
      clear hc hm hT hlen h1 h2 h2' b3 hf hS hs5 hs6 hs3 I0 I1 hNX hlt hb hsx hz hpc hps hNW bX b5X b3X hB0 y1 y2 y3 b5 b6 hb5 hb6 hal
      refine wpIn_only ?_
      refine wpIn_region_held (S := fun W' => W'.cell? ⟨w.heap.size, 0, none⟩ = some (.slice (some ⟨b, off, none⟩) ns.length cap) ∧ W'.cell? ⟨b, off + x * 5 + 3, none⟩ = some (.int .i64 z) ∧ Below W.heap.size W W') (by kernel_rfl) (by kernel_rfl) (Only.not_out _) ⟨kx0, c3, by exact ⟨rfl, rfl, rfl, Nat.le_refl _, fun _ _ => rfl⟩⟩ (fun hHeld => ?_)
      refine wpAnyH_take (i := 0) (oi := ?oi0a) (v := ?v0a) ?hi0a (by kernel_rfl) (by kernel_rfl) (by kernel_rfl) (fun _ _ _ h => h) (Or.inl ⟨?wanted0a, ?hy0a⟩) (by assumption) ?rest0a
      case hi0a => simp only [List.getElem?_toArray, List.getElem?_cons_zero]; rfl
      case wanted0a => rfl
      case hy0a =>
        intro wS hSw
        obtain ⟨hS1, hS2, -⟩ := hSw
        go_simp
        first | done | with_reducible rfl
      simp only [Act.put, List.setIfInBounds_toArray, List.set_cons_zero, List.set_cons_succ]
      refine wpAnyH_take (i := 1) (oi := ?oi1a) (v := ?v1a) ?hi1a (by kernel_rfl) (by kernel_rfl) (by kernel_rfl) (fun _ _ _ h => h) (Or.inl ⟨?wanted1a, ?hy1a⟩) (by assumption) ?rest1a
      case hi1a => simp only [List.getElem?_toArray, List.getElem?_cons_succ, List.getElem?_cons_zero]; rfl
      case wanted1a => rfl
      case hy1a =>
        intro wS hSw
        obtain ⟨hS1, hS2, -⟩ := hSw
        go_simp
        first | done | with_reducible rfl
      simp only [Act.put, List.setIfInBounds_toArray, List.set_cons_zero, List.set_cons_succ]
      refine wpAnyH_take (i := 2) (oi := ?oi2a) (v := ?v2a) ?hi2a (by kernel_rfl) (by kernel_rfl) (by kernel_rfl) (fun _ _ _ h => h) (Or.inl ⟨?wanted2a, ?hy2a⟩) (by assumption) ?rest2a
      case hi2a => simp only [List.getElem?_toArray, List.getElem?_cons_succ, List.getElem?_cons_zero]; rfl
      case wanted2a => rfl
      case hy2a =>
        intro wS hSw
        obtain ⟨hS1, hS2, -⟩ := hSw
        go_simp
        first | done | with_reducible rfl
      simp only [Act.put, List.setIfInBounds_toArray, List.set_cons_zero, List.set_cons_succ]
      refine wpAnyH_take (i := 3) (oi := ?oi3a) (v := ?v3a) ?hi3a (by kernel_rfl) (by kernel_rfl) (by kernel_rfl) (fun _ _ _ h => h) (Or.inl ⟨?wanted3a, ?hy3a⟩) (by assumption) ?rest3a
      case hi3a => simp only [List.getElem?_toArray, List.getElem?_cons_succ, List.getElem?_cons_zero]; rfl
      case wanted3a => rfl
      case hy3a =>
        intro wS hSw
        obtain ⟨hS1, hS2, -⟩ := hSw
        go_simp
        first | done | with_reducible rfl
      simp only [Act.put, List.setIfInBounds_toArray, List.set_cons_zero, List.set_cons_succ]
      refine wpAnyH_take (i := 4) (oi := ?oi4a) (v := ?v4a) ?hi4a (by kernel_rfl) (by kernel_rfl) (by kernel_rfl) (fun _ _ _ h => h) (Or.inl ⟨?wanted4a, ?hy4a⟩) (by assumption) ?rest4a
      case hi4a => simp only [List.getElem?_toArray, List.getElem?_cons_succ, List.getElem?_cons_zero]; rfl
      case wanted4a => rfl
      case hy4a =>
        intro wS hSw
        obtain ⟨hS1, hS2, -⟩ := hSw
        go_simp
        first | done | with_reducible rfl
      simp only [Act.put, List.setIfInBounds_toArray, List.set_cons_zero, List.set_cons_succ]
      refine wpAnyH_take (i := 5) (oi := ?oi5a) (v := ?v5a) ?hi5a (by kernel_rfl) (by kernel_rfl) (by kernel_rfl) (fun _ _ _ h => h) (Or.inl ⟨?wanted5a, ?hy5a⟩) (by assumption) ?rest5a
      case hi5a => simp only [List.getElem?_toArray, List.getElem?_cons_succ, List.getElem?_cons_zero]; rfl
      case wanted5a => rfl
      case hy5a =>
        intro wS hSw
        obtain ⟨hS1, hS2, -⟩ := hSw
        go_simp
        first | done | with_reducible rfl
      simp only [Act.put, List.setIfInBounds_toArray, List.set_cons_zero, List.set_cons_succ]
      refine wpAnyH_take (i := 6) (oi := ?oi6a) (v := ?v6a) ?hi6a (by kernel_rfl) (by kernel_rfl) (by kernel_rfl) (fun _ _ _ h => h) (Or.inl ⟨?wanted6a, ?hy6a⟩) (by assumption) ?rest6a
      case hi6a => simp only [List.getElem?_toArray, List.getElem?_cons_succ, List.getElem?_cons_zero]; rfl
      case wanted6a => rfl
      case hy6a =>
        intro wS hSw
        obtain ⟨hS1, hS2, -⟩ := hSw
        go_simp
        first | done | with_reducible rfl
      simp only [Act.put, List.setIfInBounds_toArray, List.set_cons_zero, List.set_cons_succ]
      refine wpAnyH_take (i := 7) (oi := ?oi7a) (v := ?v7a) ?hi7a (by kernel_rfl) (by kernel_rfl) (by kernel_rfl) (fun _ _ _ h => h) (Or.inl ⟨?wanted7a, ?hy7a⟩) (by assumption) ?rest7a
      case hi7a => simp only [List.getElem?_toArray, List.getElem?_cons_succ, List.getElem?_cons_zero]; rfl
      case wanted7a => rfl
      case hy7a =>
        intro wS hSw
        obtain ⟨hS1, hS2, -⟩ := hSw
        go_simp
        first | done | with_reducible rfl
      simp only [Act.put, List.setIfInBounds_toArray, List.set_cons_zero, List.set_cons_succ]
      refine wpAnyH_take (i := 8) (oi := ?oi8a) (v := ?v8a) ?hi8a (by kernel_rfl) (by kernel_rfl) (by kernel_rfl) (fun _ _ _ h => h) (Or.inl ⟨?wanted8a, ?hy8a⟩) (by assumption) ?rest8a
      case hi8a => simp only [List.getElem?_toArray, List.getElem?_cons_succ, List.getElem?_cons_zero]; rfl
      case wanted8a => rfl
      case hy8a =>
        intro wS hSw
        obtain ⟨hS1, hS2, -⟩ := hSw
        go_simp
        first | done | with_reducible rfl
      simp only [Act.put, List.setIfInBounds_toArray, List.set_cons_zero, List.set_cons_succ]
      refine wpAnyH_take (i := 9) (oi := ?oi9a) (v := ?v9a) ?hi9a (by kernel_rfl) (by kernel_rfl) (by kernel_rfl) (fun _ _ _ h => h) (Or.inl ⟨?wanted9a, ?hy9a⟩) (by assumption) ?rest9a
      case hi9a => simp only [List.getElem?_toArray, List.getElem?_cons_succ, List.getElem?_cons_zero]; rfl
      case wanted9a => rfl
      case hy9a =>
        intro wS hSw
        obtain ⟨hS1, hS2, -⟩ := hSw
        go_simp
        first | done | with_reducible rfl
      simp only [Act.put, List.setIfInBounds_toArray, List.set_cons_zero, List.set_cons_succ]
      refine wpAnyH_ready (rs := [10]) (by kernel_rfl) (by simp) ?_
      refine AllReadyH.cons (o := ?oi10a) ?hi10a (fun K hK => ?rest10a) AllReadyH.nil
      case hi10a => simp only [List.getElem?_toArray, List.getElem?_cons_succ, List.getElem?_cons_zero]; rfl
      go_simp
      go_at_call 34
      refine (qt.out _ (by exact ⟨rfl, rfl, rfl, Nat.le_refl _, fun _ _ => rfl⟩)).mono ?_
      rintro e w7 ⟨u, rfl, ju, b7⟩
      replace ju : Hid (JRow w7 u (lnt ns x)) := ju
      replace b7 : Hid (Below W.heap.size W w7) := ⟨b7.os, b7.tape, b7.output, b7.size, b7.block⟩
      refine hK.out _ _ ⟨(b7.out.cell (p := ⟨w.heap.size, 0, none⟩) hk0.out).trans kx0, (b7.out.cell (p := ⟨b, off + x * 5 + 3, none⟩) hk3.out).trans c3, b7.out⟩ (fun hHeld2 => ?_)
      clear hK K hHeld
      try simp only [Act.put, List.setIfInBounds_toArray, List.set_cons_zero, List.set_cons_succ]
      refine wpAnyH_ready (rs := [11]) (by kernel_rfl) (by simp) ?_
      refine AllReadyH.cons (o := ?oi11a) ?hi11a (fun K hK => ?rest11a) AllReadyH.nil
      case hi11a => simp only [List.getElem?_toArray, List.getElem?_cons_succ, List.getElem?_cons_zero]; rfl
      go_simp
      go_at_call 33
      refine (qj2.out w7 u (hWB.out.then_below b7.out) ju.out).mono ?_
      rintro e w8 ⟨rfl, b8⟩
      replace b8 : Hid (Below W.heap.size W w8) := b7.out.then_below b8
      refine hK.out _ _ ⟨(b8.out.cell (p := ⟨w.heap.size, 0, none⟩) hk0.out).trans kx0, (b8.out.cell (p := ⟨b, off + x * 5 + 3, none⟩) hk3.out).trans c3, b8.out⟩ (fun hHeld3 => ?_)
      clear hK K hHeld2
      try simp only [Act.put, List.setIfInBounds_toArray, List.set_cons_zero, List.set_cons_succ]
      refine wpAnyH_take (i := 12) (oi := ?oi12a) (v := ?v12a) ?hi12a (by kernel_rfl) (by kernel_rfl) (by kernel_rfl) (fun _ _ _ h => h) (Or.inl ⟨?wanted12a, ?hy12a⟩) (by assumption) ?rest12a
      case hi12a => simp only [List.getElem?_toArray, List.getElem?_cons_succ, List.getElem?_cons_zero]; rfl
      case wanted12a => rfl
      case hy12a =>
        intro wS hSw
        obtain ⟨hS1, hS2, -⟩ := hSw
        go_simp
        first | done | with_reducible rfl
      simp only [Act.put, List.setIfInBounds_toArray, List.set_cons_zero, List.set_cons_succ]
      refine wpAnyH_take (i := 13) (oi := ?oi13a) (v := ?v13a) ?hi13a (by kernel_rfl) (by kernel_rfl) (by kernel_rfl) (fun _ _ _ h => h) (Or.inl ⟨?wanted13a, ?hy13a⟩) (by assumption) ?rest13a
      case hi13a => simp only [List.getElem?_toArray, List.getElem?_cons_succ, List.getElem?_cons_zero]; rfl
      case wanted13a => rfl
      case hy13a =>
        intro wS hSw
        obtain ⟨hS1, hS2, -⟩ := hSw
        go_simp
        first | done | with_reducible rfl
      simp only [Act.put, List.setIfInBounds_toArray, List.set_cons_zero, List.set_cons_succ]
      refine wpAnyH_take (i := 14) (oi := ?oi14a) (v := ?v14a) ?hi14a (by kernel_rfl) (by kernel_rfl) (by kernel_rfl) (fun _ _ _ h => h) (Or.inl ⟨?wanted14a, ?hy14a⟩) (by assumption) ?rest14a
      case hi14a => simp only [List.getElem?_toArray, List.getElem?_cons_succ, List.getElem?_cons_zero]; rfl
      case wanted14a => rfl
      case hy14a =>
        intro wS hSw
        obtain ⟨hS1, hS2, -⟩ := hSw
        go_simp
        first | done | with_reducible rfl
      simp only [Act.put, List.setIfInBounds_toArray, List.set_cons_zero, List.set_cons_succ]
      refine wpAnyH_take (i := 15) (oi := ?oi15a) (v := ?v15a) ?hi15a (by kernel_rfl) (by kernel_rfl) (by kernel_rfl) (fun _ _ _ h => h) (Or.inl ⟨?wanted15a, ?hy15a⟩) (by assumption) ?rest15a
      case hi15a => simp only [List.getElem?_toArray, List.getElem?_cons_succ, List.getElem?_cons_zero]; rfl
      case wanted15a => rfl
      case hy15a =>
        intro wS hSw
        obtain ⟨hS1, hS2, -⟩ := hSw
        go_simp
        first | done | with_reducible rfl
      simp only [Act.put, List.setIfInBounds_toArray, List.set_cons_zero, List.set_cons_succ]
      refine wpAnyH_take (i := 16) (oi := ?oi16a) (v := ?v16a) ?hi16a (by kernel_rfl) (by kernel_rfl) (by kernel_rfl) (fun _ _ _ h => h) (Or.inl ⟨?wanted16a, ?hy16a⟩) (by assumption) ?rest16a
      case hi16a => simp only [List.getElem?_toArray, List.getElem?_cons_succ, List.getElem?_cons_zero]; rfl
      case wanted16a => rfl
      case hy16a =>
        intro wS hSw
        obtain ⟨hS1, hS2, -⟩ := hSw
        go_simp
        first | done | with_reducible rfl
      simp only [Act.put, List.setIfInBounds_toArray, List.set_cons_zero, List.set_cons_succ]
      refine wpAnyH_done (by kernel_rfl) ?_ _
      change K0 _ _
      all_goals
        refine hK2.out _ _ ?_
        have hz8 := b8.out.size
        have hz5 := hs5H.out
        have hzW := hWzH.out
        have z1 : Boxed w8 (w.heap.size + 1) 9 (.string ⟨#[]⟩) := (b8.out.block _ (by omega)).trans hZ1.out
        have z2 : Boxed w8 (w.heap.size + 1 + 1) 48 (.int .i64 0) := (b8.out.block _ (by omega)).trans hZ2.out
        obtain ⟨k1, k2, k3, k4, k5, k6, k7, k8⟩ := two_stores z1 z2 (by omega) (.string ⟨#[]⟩) (.int .i64 17)
        replace k7 := hide k7
        replace k8 := hide k8
        clear k5 k6 z1 z2
        gi_wp2
        refine ⟨(((keeps_call b8.out).trans (KeepsOthers.setCell _ _ _)).trans (KeepsOthers.setCell _ _ _)).from _, rfl, ?_, k7.out, k8.out, ?_⟩
        · rw [List.map_append, shw_append, ha.out]
          show shw ns [x] acc = none
          rw [shw, hR.out]
        · exact ((hWB.out.then_below b8.out).setCell (p := ⟨w.heap.size + 1, 0, none⟩) (by simp) _).setCell (p := ⟨w.heap.size + 1 + 1, 0, none⟩) (by simp; omega) _
    | some s =>
      rw [hR] at qj
      have hsl := hide (jn_le _ _ _ hR)
      have qj2 := hide (fun (W' : World) u (q : Below w.heap.size w W') (ju : JRow W' u (lnt ns x)) => (show Calls Tryd.prog 33 #[u] W' fun e w' => e = .returned (.tuple #[.string ⟨s.toArray⟩, .int .i64 0]) ∧ Below W'.heap.size W' w' from qj.out W' u q ju))
      replace hR := hide hR
      gi_wp2
      rename_i Q1 K1 hK1 Q2 K0 hK0
      have hK2 := hide hK0
      clear hK0 hK1 K1 Q1 qj
      clear hc hm hT hlen h1 h2 h2' b3 hf hS hs5 hs6 hs3 I0 I1 hNX hlt hb hsx hz hpc hps hNW bX b5X b3X hB0 y1 y2 y3 b5 b6 hb5 hb6 hal
      refine wpIn_only ?_
      refine wpIn_region_held (S := fun W' => W'.cell? ⟨w.heap.size, 0, none⟩ = some (.slice (some ⟨b, off, none⟩) ns.length cap) ∧ W'.cell? ⟨b, off + x * 5 + 3, none⟩ = some (.int .i64 z) ∧ Below W.heap.size W W') (by kernel_rfl) (by kernel_rfl) (Only.not_out _) ⟨kx0, c3, by exact ⟨rfl, rfl, rfl, Nat.le_refl _, fun _ _ => rfl⟩⟩ (fun hHeld => ?_)
      refine wpAnyH_take (i := 0) (oi := ?oi0b) (v := ?v0b) ?hi0b (by kernel_rfl) (by kernel_rfl) (by kernel_rfl) (fun _ _ _ h => h) (Or.inl ⟨?wanted0b, ?hy0b⟩) (by assumption) ?rest0b
      case hi0b => simp only [List.getElem?_toArray, List.getElem?_cons_zero]; rfl
      case wanted0b => rfl
      case hy0b =>
        intro wS hSw
        obtain ⟨hS1, hS2, -⟩ := hSw
        go_simp
        first | done | with_reducible rfl
      simp only [Act.put, List.setIfInBounds_toArray, List.set_cons_zero, List.set_cons_succ]
      refine wpAnyH_take (i := 1) (oi := ?oi1b) (v := ?v1b) ?hi1b (by kernel_rfl) (by kernel_rfl) (by kernel_rfl) (fun _ _ _ h => h) (Or.inl ⟨?wanted1b, ?hy1b⟩) (by assumption) ?rest1b
      case hi1b => simp only [List.getElem?_toArray, List.getElem?_cons_succ, List.getElem?_cons_zero]; rfl
      case wanted1b => rfl
      case hy1b =>
        intro wS hSw
        obtain ⟨hS1, hS2, -⟩ := hSw
        go_simp
        first | done | with_reducible rfl
      simp only [Act.put, List.setIfInBounds_toArray, List.set_cons_zero, List.set_cons_succ]
      refine wpAnyH_take (i := 2) (oi := ?oi2b) (v := ?v2b) ?hi2b (by kernel_rfl) (by kernel_rfl) (by kernel_rfl) (fun _ _ _ h => h) (Or.inl ⟨?wanted2b, ?hy2b⟩) (by assumption) ?rest2b
      case hi2b => simp only [List.getElem?_toArray, List.getElem?_cons_succ, List.getElem?_cons_zero]; rfl
      case wanted2b => rfl
      case hy2b =>
        intro wS hSw
        obtain ⟨hS1, hS2, -⟩ := hSw
        go_simp
        first | done | with_reducible rfl
      simp only [Act.put, List.setIfInBounds_toArray, List.set_cons_zero, List.set_cons_succ]
      refine wpAnyH_take (i := 3) (oi := ?oi3b) (v := ?v3b) ?hi3b (by kernel_rfl) (by kernel_rfl) (by kernel_rfl) (fun _ _ _ h => h) (Or.inl ⟨?wanted3b, ?hy3b⟩) (by assumption) ?rest3b
      case hi3b => simp only [List.getElem?_toArray, List.getElem?_cons_succ, List.getElem?_cons_zero]; rfl
      case wanted3b => rfl
      case hy3b =>
        intro wS hSw
        obtain ⟨hS1, hS2, -⟩ := hSw
        go_simp
        first | done | with_reducible rfl
      simp only [Act.put, List.setIfInBounds_toArray, List.set_cons_zero, List.set_cons_succ]
      refine wpAnyH_take (i := 4) (oi := ?oi4b) (v := ?v4b) ?hi4b (by kernel_rfl) (by kernel_rfl) (by kernel_rfl) (fun _ _ _ h => h) (Or.inl ⟨?wanted4b, ?hy4b⟩) (by assumption) ?rest4b
      case hi4b => simp only [List.getElem?_toArray, List.getElem?_cons_succ, List.getElem?_cons_zero]; rfl
      case wanted4b => rfl
      case hy4b =>
        intro wS hSw
        obtain ⟨hS1, hS2, -⟩ := hSw
        go_simp
        first | done | with_reducible rfl
      simp only [Act.put, List.setIfInBounds_toArray, List.set_cons_zero, List.set_cons_succ]
      refine wpAnyH_take (i := 5) (oi := ?oi5b) (v := ?v5b) ?hi5b (by kernel_rfl) (by kernel_rfl) (by kernel_rfl) (fun _ _ _ h => h) (Or.inl ⟨?wanted5b, ?hy5b⟩) (by assumption) ?rest5b
      case hi5b => simp only [List.getElem?_toArray, List.getElem?_cons_succ, List.getElem?_cons_zero]; rfl
      case wanted5b => rfl
      case hy5b =>
        intro wS hSw
        obtain ⟨hS1, hS2, -⟩ := hSw
        go_simp
        first | done | with_reducible rfl
      simp only [Act.put, List.setIfInBounds_toArray, List.set_cons_zero, List.set_cons_succ]
      refine wpAnyH_take (i := 6) (oi := ?oi6b) (v := ?v6b) ?hi6b (by kernel_rfl) (by kernel_rfl) (by kernel_rfl) (fun _ _ _ h => h) (Or.inl ⟨?wanted6b, ?hy6b⟩) (by assumption) ?rest6b
      case hi6b => simp only [List.getElem?_toArray, List.getElem?_cons_succ, List.getElem?_cons_zero]; rfl
      case wanted6b => rfl
      case hy6b =>
        intro wS hSw
        obtain ⟨hS1, hS2, -⟩ := hSw
        go_simp
        first | done | with_reducible rfl
      simp only [Act.put, List.setIfInBounds_toArray, List.set_cons_zero, List.set_cons_succ]
      refine wpAnyH_take (i := 7) (oi := ?oi7b) (v := ?v7b) ?hi7b (by kernel_rfl) (by kernel_rfl) (by kernel_rfl) (fun _ _ _ h => h) (Or.inl ⟨?wanted7b, ?hy7b⟩) (by assumption) ?rest7b
      case hi7b => simp only [List.getElem?_toArray, List.getElem?_cons_succ, List.getElem?_cons_zero]; rfl
      case wanted7b => rfl
      case hy7b =>
        intro wS hSw
        obtain ⟨hS1, hS2, -⟩ := hSw
        go_simp
        first | done | with_reducible rfl
      simp only [Act.put, List.setIfInBounds_toArray, List.set_cons_zero, List.set_cons_succ]
      refine wpAnyH_take (i := 8) (oi := ?oi8b) (v := ?v8b) ?hi8b (by kernel_rfl) (by kernel_rfl) (by kernel_rfl) (fun _ _ _ h => h) (Or.inl ⟨?wanted8b, ?hy8b⟩) (by assumption) ?rest8b
      case hi8b => simp only [List.getElem?_toArray, List.getElem?_cons_succ, List.getElem?_cons_zero]; rfl
      case wanted8b => rfl
      case hy8b =>
        intro wS hSw
        obtain ⟨hS1, hS2, -⟩ := hSw
        go_simp
        first | done | with_reducible rfl
      simp only [Act.put, List.setIfInBounds_toArray, List.set_cons_zero, List.set_cons_succ]
      refine wpAnyH_take (i := 9) (oi := ?oi9b) (v := ?v9b) ?hi9b (by kernel_rfl) (by kernel_rfl) (by kernel_rfl) (fun _ _ _ h => h) (Or.inl ⟨?wanted9b, ?hy9b⟩) (by assumption) ?rest9b
      case hi9b => simp only [List.getElem?_toArray, List.getElem?_cons_succ, List.getElem?_cons_zero]; rfl
      case wanted9b => rfl
      case hy9b =>
        intro wS hSw
        obtain ⟨hS1, hS2, -⟩ := hSw
        go_simp
        first | done | with_reducible rfl
      simp only [Act.put, List.setIfInBounds_toArray, List.set_cons_zero, List.set_cons_succ]
      refine wpAnyH_ready (rs := [10]) (by kernel_rfl) (by simp) ?_
      refine AllReadyH.cons (o := ?oi10b) ?hi10b (fun K hK => ?rest10b) AllReadyH.nil
      case hi10b => simp only [List.getElem?_toArray, List.getElem?_cons_succ, List.getElem?_cons_zero]; rfl
      go_simp
      go_at_call 34
      refine (qt.out _ (by exact ⟨rfl, rfl, rfl, Nat.le_refl _, fun _ _ => rfl⟩)).mono ?_
      rintro e w7 ⟨u, rfl, ju, b7⟩
      replace ju : Hid (JRow w7 u (lnt ns x)) := ju
      replace b7 : Hid (Below W.heap.size W w7) := ⟨b7.os, b7.tape, b7.output, b7.size, b7.block⟩
      refine hK.out _ _ ⟨(b7.out.cell (p := ⟨w.heap.size, 0, none⟩) hk0.out).trans kx0, (b7.out.cell (p := ⟨b, off + x * 5 + 3, none⟩) hk3.out).trans c3, b7.out⟩ (fun hHeld2 => ?_)
      clear hK K hHeld
      try simp only [Act.put, List.setIfInBounds_toArray, List.set_cons_zero, List.set_cons_succ]
      refine wpAnyH_ready (rs := [11]) (by kernel_rfl) (by simp) ?_
      refine AllReadyH.cons (o := ?oi11b) ?hi11b (fun K hK => ?rest11b) AllReadyH.nil
      case hi11b => simp only [List.getElem?_toArray, List.getElem?_cons_succ, List.getElem?_cons_zero]; rfl
      go_simp
      go_at_call 33
      refine (qj2.out w7 u (hWB.out.then_below b7.out) ju.out).mono ?_
      rintro e w8 ⟨rfl, b8⟩
      replace b8 : Hid (Below W.heap.size W w8) := b7.out.then_below b8
      refine hK.out _ _ ⟨(b8.out.cell (p := ⟨w.heap.size, 0, none⟩) hk0.out).trans kx0, (b8.out.cell (p := ⟨b, off + x * 5 + 3, none⟩) hk3.out).trans c3, b8.out⟩ (fun hHeld3 => ?_)
      clear hK K hHeld2
      try simp only [Act.put, List.setIfInBounds_toArray, List.set_cons_zero, List.set_cons_succ]
      refine wpAnyH_take (i := 12) (oi := ?oi12b) (v := ?v12b) ?hi12b (by kernel_rfl) (by kernel_rfl) (by kernel_rfl) (fun _ _ _ h => h) (Or.inl ⟨?wanted12b, ?hy12b⟩) (by assumption) ?rest12b
      case hi12b => simp only [List.getElem?_toArray, List.getElem?_cons_succ, List.getElem?_cons_zero]; rfl
      case wanted12b => rfl
      case hy12b =>
        intro wS hSw
        obtain ⟨hS1, hS2, -⟩ := hSw
        go_simp
        first | done | with_reducible rfl
      simp only [Act.put, List.setIfInBounds_toArray, List.set_cons_zero, List.set_cons_succ]
      refine wpAnyH_take (i := 13) (oi := ?oi13b) (v := ?v13b) ?hi13b (by kernel_rfl) (by kernel_rfl) (by kernel_rfl) (fun _ _ _ h => h) (Or.inl ⟨?wanted13b, ?hy13b⟩) (by assumption) ?rest13b
      case hi13b => simp only [List.getElem?_toArray, List.getElem?_cons_succ, List.getElem?_cons_zero]; rfl
      case wanted13b => rfl
      case hy13b =>
        intro wS hSw
        obtain ⟨hS1, hS2, -⟩ := hSw
        go_simp
        first | done | with_reducible rfl
      simp only [Act.put, List.setIfInBounds_toArray, List.set_cons_zero, List.set_cons_succ]
      refine wpAnyH_take (i := 14) (oi := ?oi14b) (v := ?v14b) ?hi14b (by kernel_rfl) (by kernel_rfl) (by kernel_rfl) (fun _ _ _ h => h) (Or.inl ⟨?wanted14b, ?hy14b⟩) (by assumption) ?rest14b
      case hi14b => simp only [List.getElem?_toArray, List.getElem?_cons_succ, List.getElem?_cons_zero]; rfl
      case wanted14b => rfl
      case hy14b =>
        intro wS hSw
        obtain ⟨hS1, hS2, -⟩ := hSw
        go_simp
        first | done | with_reducible rfl
      simp only [Act.put, List.setIfInBounds_toArray, List.set_cons_zero, List.set_cons_succ]
      refine wpAnyH_take (i := 15) (oi := ?oi15b) (v := ?v15b) ?hi15b (by kernel_rfl) (by kernel_rfl) (by kernel_rfl) (fun _ _ _ h => h) (Or.inl ⟨?wanted15b, ?hy15b⟩) (by assumption) ?rest15b
      case hi15b => simp only [List.getElem?_toArray, List.getElem?_cons_succ, List.getElem?_cons_zero]; rfl
      case wanted15b => rfl
      case hy15b =>
        intro wS hSw
        obtain ⟨hS1, hS2, -⟩ := hSw
        go_simp
        first | done | with_reducible rfl
      simp only [Act.put, List.setIfInBounds_toArray, List.set_cons_zero, List.set_cons_succ]
      refine wpAnyH_take (i := 16) (oi := ?oi16b) (v := ?v16b) ?hi16b (by kernel_rfl) (by kernel_rfl) (by kernel_rfl) (fun _ _ _ h => h) (Or.inl ⟨?wanted16b, ?hy16b⟩) (by assumption) ?rest16b
      case hi16b => simp only [List.getElem?_toArray, List.getElem?_cons_succ, List.getElem?_cons_zero]; rfl
      case wanted16b => rfl
      case hy16b =>
        intro wS hSw
        obtain ⟨hS1, hS2, -⟩ := hSw
        go_simp
        first | done | with_reducible rfl
      simp only [Act.put, List.setIfInBounds_toArray, List.set_cons_zero, List.set_cons_succ]
      refine wpAnyH_done (by kernel_rfl) ?_ _
      change K0 _ _
      all_goals
        refine hK2.out _ _ ?_
        have hz8 := b8.out.size
        have hzW := hWzH.out
        have hpn := hltH.out
        have hln := hlenH.out
        have hac := halH.out
        have hss := Nat.le_trans hsl.out hTH.out
        have hacc : acc.length ≤ 1048576 * 33554433 := Nat.le_trans hac (Nat.mul_le_mul_right _ (by omega))
        have I8 := hide (builder_below hI.out b8.out)
        have qw := hide (CallsIn.inRound (n := 1) l (callsIn_wide.2 (writeString_k w5.heap.size w5.heap.size _ ⟨s.toArray⟩ w8 I8.out (by rw [Lib.byteCells_length]; show acc.length + s.toArray.size ≤ _; rw [List.size_toArray]; omega) (by omega))))
        gi_wp2_with fail
        refine ⟨trivial, ?_⟩
        refine qw.out.mono ?_
        rintro e w10 ⟨rfl, h10, b10, o10⟩
        rw [show Lib.strCells ⟨s.toArray⟩ = Lib.byteCells s from rfl, ← Lib.byteCells_append] at h10
        have hz10 := b10.size
        have qb := hide (CallsIn.inRound (n := 1) l (callsIn_wide.2 (writeByte_k w5.heap.size w5.heap.size _ 10 w10 (Or.inr h10) (by rw [Lib.byteCells_length, List.length_append]; omega) (by omega))))
        have k10 := hide ((keeps_call b8.out).trans (keeps_write I8.out b10 o10))
        have p10 := hide (KpS_t (KpS.call b8.out (n₀ := w5.heap.size) (lo := w5.heap.size + 1) (by omega) (by omega)) (KpS.write b10 o10 (hBx.out w8 b8.out)))
        replace h10 := hide h10
        clear b10 o10
        gi_wp2_with fail
        refine ⟨trivial, ?_⟩
        refine qb.out.mono ?_
        rintro e w11 ⟨rfl, h11, b11, o11⟩
        gi_wp2_with fail
        refine ⟨(k10.out.trans (keeps_write (Or.inr h10.out) b11 o11)).from _, KpS_t p10.out (KpS.write b11 o11 ?_), ⟨acc ++ s ++ [10], ?_, ?_, ?_⟩, ?_⟩
        · intro j h1 h2
          rw [p10.out.2 j h1 h2]
          exact hBx.out W (Below.refl _ _) j h1 h2
        · rw [List.map_append, shw_append, ha.out]
          show shw ns [x] acc = _
          rw [shw, hR.out]
          rfl
        · simp only [List.length_append, List.length_cons, List.length_nil]
          omega
        · rw [Lib.byteCells_append]
          exact Or.inr h11
        · refine KpS_t hKp.out (KpS_t p10.out (KpS.write b11 o11 ?_))
          intro j h1 h2
          rw [p10.out.2 j h1 h2]
          exact hBx.out W (Below.refl _ _) j h1 h2
  case done =>
    rintro D ys W hD hys ⟨⟨acc, ha, hal, hI⟩, hKp⟩ hK
    have hWz : w5.heap.size + 4 ≤ W.heap.size := by have := hKp.1.size; omega
    have hWB : Below w.heap.size w W := bX.trans (hKp.1.mono (by omega))
    have qs := hide (callsIn_wide (n := 3) |>.2 (string_k w5.heap.size w5.heap.size acc W hI (by omega)))
    have k1 := ((hKp.1.block _ (by omega)).trans X1 : Boxed W (w.heap.size + 1) 9 (.string ⟨#[]⟩))
    have k2 := ((hKp.1.block _ (by omega)).trans X2 : Boxed W (w.heap.size + 1 + 1) 48 (.int .i64 0))
    rw [hys] at ha
    have ha' : showA ns = some acc := ha
    have e1 : Hid (showE ns = 0) := by unfold Hid showE; rw [hf, if_pos rfl, ha']; rfl
    have e2 : Hid (showV ns = acc) := by unfold Hid showV; rw [hf, if_pos rfl, ha']; rfl
    gi_wp2_with (refine ⟨trivial, ?_⟩; gi_at_call 37; go_loud (refine qs.out.mono ?_; rintro e w9 ⟨rfl, _, b9, o9⟩; have z1 : Boxed w9 (w.heap.size + 1) 9 (.string ⟨#[]⟩) := o9 _ _ k1 (fun e => by have := Option.some.inj e; omega) (fun c fz e => by cases e); have z2 : Boxed w9 (w.heap.size + 1 + 1) 48 (.int .i64 0) := o9 _ _ k2 (fun e => by have := Option.some.inj e; omega) (fun c fz e => by cases e); obtain ⟨g1, g2, g3, g4, g5, g6, g7, g8⟩ := two_stores z1 z2 (by omega) (.string ⟨acc.toArray⟩) (.int .i64 0); have K9 := o9 _ _ hK (fun e => by have := Option.some.inj e; omega) (fun c fz e => by cases e); have B9 := hide (hWB.trans (b9.mono (by omega))); clear z1 z2 b9 o9))
    have hK2 : ((w9.setCell ⟨w.heap.size + 1, 0, none⟩ (.string ⟨acc.toArray⟩)).setCell ⟨w.heap.size + 1 + 1, 0, none⟩ (.int .i64 0)).heap[D]? = some (.deferred (some [])) := by
      rw [Below.heap_setCell _ _ _ D (by simp; omega), Below.heap_setCell _ _ _ D (by simp; omega)]
      exact K9
    refine ⟨by simp, .inl ⟨_, _, rfl, run_takeDeferred hK2, ?_⟩⟩
    have r1 := boxed_put (.deferred none) g7 (D := D) (by omega)
    have r2 := boxed_put (.deferred none) g8 (D := D) (by omega)
    refine ⟨.tuple #[.string ⟨acc.toArray⟩, .int .i64 0], ?_, ?_, ?_⟩
    · simp [results, Tryd.f14, go_sem, r1, r2]
    · rw [e1.out, e2.out]
    · exact ((B9.out.setCell (p := ⟨w.heap.size + 1, 0, none⟩) (by simp) _).setCell (p := ⟨w.heap.size + 1 + 1, 0, none⟩) (by simp; omega) _).trans (belowK_b (w := w) (Nat.le_refl _) _ D _ _ (by omega) hK2 rfl rfl)
  case stop =>
    rintro D c pre W hD hpre ⟨rfl, hn, z1, z2, hbw⟩ hK
    have hA : showA ns = none := by
      obtain ⟨r, hr⟩ := hpre
      unfold showA
      rw [← hr, shw_append, hn]
      rfl
    have e1 : Hid (showE ns = 17) := by unfold Hid showE; rw [hf, if_pos rfl, hA]; rfl
    have e2 : Hid (showV ns = []) := by unfold Hid showV; rw [hf, if_pos rfl, hA]; rfl
    gi_wp2
    refine ⟨by simp, .inl ⟨_, _, rfl, run_takeDeferred hK, ?_⟩⟩
    have r1 := boxed_put (.deferred none) z1 (D := D) (by omega)
    have r2 := boxed_put (.deferred none) z2 (D := D) (by omega)
    refine ⟨.tuple #[.string ⟨#[]⟩, .int .i64 17], ?_, ?_, ?_⟩
    · simp [results, Tryd.f14, go_sem, r1, r2]
    · rw [e1.out, e2.out]
    · exact hbw.trans (belowK_b (w := w) (Nat.le_refl _) _ D _ _ (by omega) hK rfl rfl)
end Go.Proofs.YtjbalgjdcdmjjaaDoor
