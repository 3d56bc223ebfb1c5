/-
  euf: the map of facts, as the set of what the given links say.
-/
import Derived.Test.YtcpmeehchmdljaaEufCong
import Derived.Maps.OwnSet
import Derived.DeepKeys4
namespace Go.Proofs.Ytcpmeehchmdljaa
open Go.RowKit Go.Maps
set_option linter.unusedVariables false
theorem eLaid : laidOutB Try.prog = true := by kernel_rfl
theorem eRow : (53 : TypeId) < Try.prog.types.size := of_decide_eq_true (by kernel_rfl)
theorem eWide : (match Try.prog.underlying 53 with | some (.array _ _) | some (.struct _) => true | _ => false) = true := by kernel_rfl
theorem eLaw : Keyed Try.prog 53 := Keyed.of_law (deep_law_laid eLaid (m := 2) (by omega) eRow (by kernel_rfl) eWide)
theorem eMap : Try.prog.underlying 48 = some (.map 53 51) := by kernel_rfl
theorem eZero (w : World) : (zeroValue 51).run Try.prog w = .ok (.agg #[]) w := by kernel_rfl
def kf (a b t : Int) : Lit := .string (keyBytes [.int .i64 a, .int .i64 b, .int .i64 t])
theorem wf_of {x : Int} (h : I64 x) : (Lit.int .i64 x).wf = true := by
  have e1 : IntKind.i64.min = -9223372036854775808 := by decide
  have e2 : IntKind.i64.max = 9223372036854775807 := by decide
  show (decide (IntKind.i64.min ≤ x) && decide (x ≤ IntKind.i64.max)) = true
  rw [e1, e2]
  unfold I64 at h
  simpa using h
theorem key_fact {a b t : Int} (ha : I64 a) (hb : I64 b) (ht : I64 t) : keyOf Try.prog 53 (.agg #[.int .i64 a, .int .i64 b, .int .i64 t]) = some (kf a b t) := by
  have wa := wf_of ha
  have wb := wf_of hb
  have wt := wf_of ht
  obtain ⟨d, hd⟩ : ∃ d, Try.prog.types.size + 1 = d + 2 := ⟨Try.prog.types.size - 1, by have : 0 < Try.prog.types.size := of_decide_eq_true (by kernel_rfl); omega⟩
  have c1 : Try.prog.cellsOf 53 = 3 := by kernel_rfl
  have c2 : Try.prog.cellsOf 3 = 1 := by kernel_rfl
  have kt : Try.prog.keyType 53 = true := by kernel_rfl
  unfold keyOf
  rw [hd]
  simp [Try.underlying53, kt, Value.formed, c1, c2, Program.keyLits, Value.cells, Try.underlying3, wa, wb, wt, kf]
theorem kf_inj {a b t a' b' t' : Int} (ha : I64 a) (hb : I64 b) (ht : I64 t) (ha' : I64 a') (hb' : I64 b') (ht' : I64 t') (h : kf a b t = kf a' b' t') : a = a' ∧ b = b' ∧ t = t' := by
  have := eLaw.inj (key_fact ha hb ht) (by rw [h]; exact key_fact ha' hb' ht')
  simpa using this
theorem kf_same (a b t : Int) : (kf a b t).sameKey (kf a b t) = true := by simp [kf, Lit.sameKey]
theorem kf_key (a b t : Int) : WideAt.IsKeyLit (kf a b t) := trivial
def W64 (gs : List E.Lk) : Prop := ∀ g ∈ gs, I64 g.a ∧ I64 g.b ∧ I64 g.tag
def accF : List E.Lk → List Lit
  | [] => []
  | g :: gs => if g.kind = 1 then kf g.a g.b g.tag :: accF gs else accF gs
theorem accF_append : ∀ (a b : List E.Lk), accF (a ++ b) = accF a ++ accF b
  | [], b => rfl
  | g :: a, b => by
    show (if g.kind = 1 then kf g.a g.b g.tag :: accF (a ++ b) else accF (a ++ b)) = (if g.kind = 1 then kf g.a g.b g.tag :: accF a else accF a) ++ accF b
    rw [accF_append a b]
    split <;> rfl
theorem accF_key : ∀ (gs : List E.Lk), ∀ x ∈ accF gs, WideAt.IsKeyLit x
  | [], x, hx => by simp [accF] at hx
  | g :: gs, x, hx => by
    unfold accF at hx
    split at hx
    · rcases List.mem_cons.1 hx with rfl | hx
      · exact kf_key _ _ _
      · exact accF_key gs x hx
    · exact accF_key gs x hx
theorem accF_any {a b t : Int} (ha : I64 a) (hb : I64 b) (ht : I64 t) : ∀ (gs : List E.Lk), W64 gs → (accF gs).any (fun x => x.sameKey (kf a b t)) = E.factB gs a b t
  | [], _ => rfl
  | g :: gs, h => by
    have ih := accF_any ha hb ht gs (fun x hx => h x (by simp [hx]))
    obtain ⟨h1, h2, h3⟩ := h g (by simp)
    show (if g.kind = 1 then kf g.a g.b g.tag :: accF gs else accF gs).any (fun x => x.sameKey (kf a b t)) = (decide (g.kind = 1 ∧ g.a = a ∧ g.b = b ∧ g.tag = t) || E.factB gs a b t)
    by_cases k : g.kind = 1
    · rw [if_pos k, List.any_cons, ih]
      congr 1
      by_cases e : g.a = a ∧ g.b = b ∧ g.tag = t
      · obtain ⟨rfl, rfl, rfl⟩ := e
        rw [kf_same, decide_eq_true ⟨k, rfl, rfl, rfl⟩]
      · rw [sameKey_ne (fun c => e (kf_inj h1 h2 h3 ha hb ht c)), decide_eq_false (fun c => e c.2)]
    · rw [if_neg k, ih, decide_eq_false (fun c => k c.1)]
      rfl
/-- The map in block bm is the set of what gs say. -/
def FM (w : World) (bm : Nat) (gs : List E.Lk) : Prop := ∃ n, n ≤ gs.length ∧ w.ownsMap Try.prog 53 (unitElem (H := Unit)) bm n (setOf (.agg []) (accF gs))
theorem FM.same {w w' : World} {bm : Nat} {gs : List E.Lk} (h : FM w bm gs) (e : w'.heap[bm]? = w.heap[bm]?) : FM w' bm gs := by
  obtain ⟨n, hn, es, clock, hb, r⟩ := h
  exact ⟨n, hn, es, clock, by rw [e]; exact hb, r⟩
theorem FM.lt {w : World} {bm : Nat} {gs : List E.Lk} (h : FM w bm gs) : bm < w.heap.size := by
  obtain ⟨n, hn, es, clock, hb, r⟩ := h
  exact (Array.getElem?_eq_some_iff.1 hb).1
theorem FM.below {w w' : World} {bm : Nat} {gs : List E.Lk} (h : FM w bm gs) (q : Below w.heap.size w w') : FM w' bm gs := h.same (q.block bm h.lt)
theorem FM.look {w : World} {bm : Nat} {gs : List E.Lk} (h : FM w bm gs) (hg : W64 gs) {a b t : Int} (ha : I64 a) (hb : I64 b) (ht : I64 t) :
    (Instr.lookup 48 (.map (some bm)) (.agg #[.int .i64 a, .int .i64 b, .int .i64 t]) true).run Try.prog w = .ok (.tuple #[.agg #[], .bool (E.factB gs a b t)]) w := by
  obtain ⟨n, hn, h⟩ := h
  obtain ⟨v, ps, hrun, hv⟩ := h.look_ok eLaw eMap (eZero w) unitElem_mk (key_fact ha hb ht)
  obtain ⟨rfl, _⟩ := unitElem_inv hv
  rw [hrun, has_setOf _ _ _ (accF_key gs), accF_any ha hb ht gs hg]
end Go.Proofs.Ytcpmeehchmdljaa
