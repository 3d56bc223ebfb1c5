/- NumSpells returns true for every string of bulk at most 1048576: num.Spell and num.Decimal answer the same texts and the same errors as the document's Spell and Decimal. Conditions: the row's second form; the tables of the standard library that start-up lays hold what the row lists (tied to the program's text by the given Tie text, which speaks of the pruned copy of the program that the seat was turned of). -/
import Derived.Test.YtebnjolkolobhaaGreatDoorCards
import Derived.Test.YtebnjolkolobhaaGreatDoorTie
import Derived.Test.YtebnjolkolobhaaGreatDoorLaid
import Derived.Test.YtebnjolkolobhaaGreatDoorSpell
import Derived.Test.YtebnjolkolobhaaGreatDoorRefConst
import Derived.Test.YtebnjolkolobhaaGreatDoorNumDecimal
import Derived.WalkKit
import Derived.ProofKit
import Derived.OpenShut
import Derived.ShutString
import Derived.SizedLaws
import Derived.Deep.DeepHandedRow
import Derived.SevenTiedAt
/- ==== SpellsProof ==== -/
namespace Go.Proofs.YtebnjolkolobhaaGreatDoor.numSpells
open Go.ChangeShapes Go.WideShapes Go.ChangeAt Go.RowKit
open Go.ChangeMaps (open_string shut_string)
set_option linter.unusedVariables false

theorem own : ownKnob Tryz.prog.godebug = none := by kernel_rfl
theorem no_calls (w : World) (c : Int) : Calls Tryz.prog 9 #[.int .i64 c] w fun e w' => e = .returned (.int .i64 c) ∧ w' = w := by
  go_enter Tryz.func9, Tryz.ntmps9
  go_wp2
  go_ret
  exact ⟨rfl, rfl⟩
theorem strip_ex (p : Nat) (hp : 2 ≤ p) (n : Nat) (h : 0 < n) : ∃ c r, M.IsStrip p n c r := by
  induction n using Nat.strongRecOn with
  | _ n ih =>
    by_cases hd : p ∣ n
    · obtain ⟨k, rfl⟩ := hd
      have hk : 0 < k := Nat.pos_of_ne_zero (fun e => by rw [e] at h; simp at h)
      have hlt : k < p * k := Nat.lt_of_lt_of_le (by omega : k < 2 * k) (Nat.mul_le_mul_right k hp)
      obtain ⟨c, r, h1, h2⟩ := ih k hlt hk
      exact ⟨c + 1, r, by rw [Nat.pow_succ, Nat.mul_comm (p ^ c) p, Nat.mul_assoc, ← h1], h2⟩
    · exact ⟨0, n, by simp, hd⟩
theorem strips (la : List UInt8) (hla : la.length ≤ 1048576) : ∃ t f r1 r2, CanT la → (M.IsStrip 2 (M.dec (clow la)) t r1 ∧ M.IsStrip 5 r1 f r2) ∧ t ≤ 67108992 ∧ f ≤ 67108992 ∧ 0 < r1 ∧ r1 ≤ M.dec (clow la) ∧ 0 < r2 := by
  by_cases hc : CanT la
  · obtain ⟨-, kd⟩ := can_BB hc (K := la.length + 1) (by omega)
    have h0 : 0 < M.dec (clow la) := (can_bd2 hc (K := la.length + 1) (by omega)).2.2
    obtain ⟨t, r1, h1⟩ := strip_ex 2 (by decide) _ h0
    obtain ⟨b1, b2, b3⟩ := strip_bd (by decide) h1 kd h0
    obtain ⟨f, r2, h2⟩ := strip_ex 5 (by decide) r1 b3
    obtain ⟨c1, c2, c3⟩ := strip_bd (by decide) h2 (Int.lt_of_le_of_lt (by exact_mod_cast b2) kd) b3
    exact ⟨t, f, r1, r2, fun _ => ⟨⟨h1, h2⟩, by omega, by omega, b3, b2, c3⟩⟩
  · exact ⟨0, 0, 0, 0, fun h => absurd h hc⟩
set_option maxRecDepth 100000 in
set_option maxHeartbeats 4000000 in
theorem walk (w : World) (sa : ByteArray) (la : List UInt8) (ha : sa.data.toList = la) (hla : la.length ≤ 1048576) (m : Int) (hM : w.cell? ⟨0, 0, none⟩ = some (.int .i64 m)) (hT : Tab w) (hP : Pows w) :
    Calls Tryz.prog 6 #[.string sa] w fun e w' => e = .returned (.bool true) ∧ Below w.heap.size w w' := by
  obtain ⟨t, f, r1, r2, H⟩ := strips la hla
  have c1 := hide (numSpell_calls w sa la ha (by omega) m hM hT hP)
  have c2 := hide (fun W => rspell_calls W sa la ha (by omega))
  have c3 := hide (fun W (hW : Below w.heap.size w W) => numDecimal_calls W sa la ha (by omega) m (by rw [hW.cell (World.block_lt_of_cell? w _ hM)]; exact hM) (hT.below hW) (hP.below hW) t f r1 r2 (fun h => by
    have hc := (canB_iff la).1 h
    rw [lowN_can hc]
    exact (H hc).1))
  have c4 : Hid (∀ W, Calls Tryz.prog 22 #[.string sa] W fun e w' => e = .returned (.tuple #[.string ⟨(decT la t f r2).1.toArray⟩, .int .i64 (decT la t f r2).2]) ∧ Below W.heap.size W w') := fun W => rdecimal_calls W sa la ha (by omega) t f r1 r2 (fun h => (H h).1) (fun h => (H h).2) (canB la) (canB_iff la)
  generalize (spellT la).1 = T at *
  generalize (spellT la).2 = c at *
  generalize (decT la t f r2).1 = T' at *
  generalize (decT la t f r2).2 = c' at *
  clear hM hT hP ha hla H
  go_enter Tryz.func6, Tryz.ntmps6
  go_wp2_with (first
    | (go_at_call 8; refine (c1.out).mono ?_; rintro e w1 ⟨rfl, b1⟩; replace b1 := hide b1)
    | (go_at_call 20; refine (c2.out _).mono ?_; rintro e w2 ⟨rfl, b2⟩; replace b2 := hide (b1.out.then_below b2))
    | (go_at_call 21; refine (c3.out _ b2.out).mono ?_; rintro e w3 ⟨rfl, b3⟩; replace b3 := hide (b2.out.then_below b3))
    | (go_at_call 22; refine (c4.out _).mono ?_; rintro e w4 ⟨rfl, b4⟩; replace b4 := hide (b3.out.then_below b4))
    | (go_at_call 9; refine (no_calls _ _).mono ?_; rintro e w5 ⟨rfl, rfl⟩))
  all_goals go_ret
  all_goals exact ⟨rfl, b4.out⟩

theorem tab_of {W : World} (h : Lib.TabIs Tryz.prog W "math/bits.deBruijn64tab" .u8 (Lib.deBruijn64tab.map (fun z : Nat => (z : Int)))) : Tab W := by
  intro j hj
  have := h.cell g64 j (by rw [List.length_map]; exact hj)
  rw [this]
  simp [List.getD_eq_getElem?_getD, List.getElem?_map, List.getElem?_eq_getElem hj]

theorem reads (os : Os) {H : Type} (enc : TypeId × Value → H) : ∃ places, DataW.whole enc Tryz.prog (({ World.holding Tryz.prog os ⟨#[], #[], []⟩ with heap := ((((((World.holding Tryz.prog os ⟨#[], #[], []⟩).heap).modify 7 (fun | .cells _ t fz => .cells ((Lib.deBruijn32tab.map (fun z : Nat => Value.int .u8 (z : Int))).toArray) t fz | o => o)).modify 2 (fun | .cells _ t fz => .cells ((Lib.deBruijn64tab.map (fun z : Nat => Value.int .u8 (z : Int))).toArray) t fz | o => o)).modify 1 (fun | .cells _ t fz => .cells ((Lib.pow10Tab.map (fun z : Int => Value.int .u64 z)).toArray) t fz | o => o)).modify 4 (fun | .cells _ t fz => .cells ((([128, 191, 160, 191, 128, 159, 144, 191, 128, 143, 0, 0, 0, 0, 0, 0, 0, 0, 0, 0, 0, 0, 0, 0, 0, 0, 0, 0, 0, 0, 0, 0] : List Int).map (fun z : Int => Value.int .u8 z)).toArray) t fz | o => o)).modify 3 (fun | .cells _ t fz => .cells ((Pinned.utf8FirstZ.map (fun z : Nat => Value.int .u8 (z : Int))).toArray) t fz | o => o) } : World).forCall (fun _ _ => 0) ⟨#[], #[.string ByteArray.empty], []⟩).memory Tryz.f6.params.toList Rows.numSpellsSpec.vars false #[Value.string ByteArray.empty].toList 8 = some ([.lit (.string [])], [], places) :=
  ⟨[], by kernel_rfl⟩

set_option maxRecDepth 100000 in
theorem contract (H : Type) (enc : TypeId × Value → H) (W : World) (base : Nat) (args : Array Value) (ds gs : List (DataW H)) (before : List MemPlace)
    (hval : ∀ (j : Nat) t v, Tryz.f6.params[j]? = some t → args[j]? = some v → Value.okWide Tryz.prog W .any base t v)
    (hW : DataW.Whole enc Tryz.prog Tryz.f6.params.toList Rows.numSpellsSpec.vars false W args.toList ds gs before) (hc : Rows.uptoSmall H (ds ++ gs) = true) (hL : laidMetH Tryz.prog Rows.numSpellsUptoRow.laid W) (hsh : W.ShapedOpen Tryz.prog) :
    Calls Tryz.prog 6 args W fun e W' => ∃ v, e = .returned v ∧ Rows.numSpellsSpec.post enc Tryz.prog Tryz.f6 false true false false W args v W' := by
  have hW' := hW
  obtain ⟨p, q, hA0, hV, rfl, hfz, hnd⟩ := hW
  have hA : DataW.TrodAll enc Tryz.prog W 0 (fun _ => true) true Tryz.f6.params.toList args.toList ds p := hA0
  rw [Tryz.params6] at hA hval
  obtain ⟨v0, vs0, d0, ds0, p0, q0, hargs, rfl, rfl, h0, r0⟩ := trodAll_cons hA
  obtain ⟨rfl, rfl, rfl⟩ := trodAll_nil r0
  obtain rfl : args = #[v0] := by cases args; simp_all
  obtain ⟨rfl, rfl⟩ := trodVars_none hV
  obtain ⟨s0, rfl, rfl, rfl, hs0⟩ := open_string Tryz.underlying9 (hval 0 9 v0 rfl rfl) h0
  clear hA0
  have hl : s0.data.toList.length ≤ 1048576 := by
    have := of_decide_eq_true hc
    simp only [List.append_nil, Rows.uptoBulkAll, Rows.uptoBulk] at this
    omega
  obtain ⟨m, hM⟩ := maxLen_of hsh
  obtain ⟨t1, t2⟩ := tabs_of hL
  refine (walk W s0 _ rfl hl m hM (tab_of t1) t2).mono fun e W' ⟨he, bel⟩ => ?_
  subst he
  exact ⟨_, rfl, _, _, _, [], _, [], hW', trodAll_mk1 (shut_bool Tryz.underlying4 _), trodAll_cons_mk (shut_string Tryz.underlying9 hs0) trodAll_mk0, rfl, bel.frame _, fun h => by cases h⟩

set_option maxRecDepth 100000 in
theorem liftedUpto (os : Os) (started : os.Started) (H : Type) (enc : TypeId × Value → H) (F : Stop.Interp) :
    ReturnsInHanded {} Tryz.checked os 6 .any ((Rows.OpenSpec.upto Rows.numSpellsSpec).preRow enc Tryz.prog Tryz.f6 Rows.numSpellsUptoRow.domain false Rows.numSpellsUptoRow.laid) (((Rows.OpenSpec.upto Rows.numSpellsSpec).at F).post enc Tryz.prog Tryz.f6 false true false false) := by
  obtain ⟨places, hx⟩ := reads os enc
  refine returnsInHanded_of_row (C := Tryz.checked) (s := Rows.OpenSpec.upto Rows.numSpellsSpec) own started (by kernel_rfl) Tryz.func6
    (witness_row_at (enc := enc) (C := Tryz.checked) false ({ World.holding Tryz.prog os ⟨#[], #[], []⟩ with heap := ((((((World.holding Tryz.prog os ⟨#[], #[], []⟩).heap).modify 7 (fun | .cells _ t fz => .cells ((Lib.deBruijn32tab.map (fun z : Nat => Value.int .u8 (z : Int))).toArray) t fz | o => o)).modify 2 (fun | .cells _ t fz => .cells ((Lib.deBruijn64tab.map (fun z : Nat => Value.int .u8 (z : Int))).toArray) t fz | o => o)).modify 1 (fun | .cells _ t fz => .cells ((Lib.pow10Tab.map (fun z : Int => Value.int .u64 z)).toArray) t fz | o => o)).modify 4 (fun | .cells _ t fz => .cells ((([128, 191, 160, 191, 128, 159, 144, 191, 128, 143, 0, 0, 0, 0, 0, 0, 0, 0, 0, 0, 0, 0, 0, 0, 0, 0, 0, 0, 0, 0, 0, 0] : List Int).map (fun z : Int => Value.int .u8 z)).toArray) t fz | o => o)).modify 3 (fun | .cells _ t fz => .cells ((Pinned.utf8FirstZ.map (fun z : Nat => Value.int .u8 (z : Int))).toArray) t fz | o => o) } : World) #[.string ByteArray.empty] rfl (by kernel_rfl) (by kernel_rfl) (by kernel_rfl)
      (OpenSpec.preRow_of_cond 8 hx (by kernel_rfl) (fun k hk => by cases hk; kernel_rfl) (by kernel_rfl) (laid_met os _))) ?_
  intro W base args ds gs before hval hW _ hcond _ hL hsh _
  exact contract H enc W base args ds gs before hval hW (hcond _ rfl) hL hsh

theorem saidUpto : Rows.NumSpellsUptoSaid :=
  OpenClaim.holds_of_cond 6 Tryz.f6 rfl rfl rfl rfl rfl rfl rfl ⟨rfl, rfl, rfl, rfl, rfl⟩ rfl rfl rfl rfl rfl (by kernel_rfl) Tryz.func6 (by kernel_rfl)
    (of_decide_eq_true (by kernel_rfl)) (by unfold Func.isWrapper; first | (rw [if_pos (by decide +kernel)]; kernel_rfl) | (rw [if_neg (by decide +kernel)]; exact ⟨rfl, rfl⟩))
    (fun os started H enc _ F => by rw [OpenClaim.pre_eq_preRow]; exact liftedUpto os started H enc F)

theorem plain (f : FuncId) (fn : Func) (hf : Tryz.pinned.checked.prog.funcNamed "arbiter/arbiterlaw1.NumSpells" = some f) (hfn : Tryz.pinned.checked.prog.funcs[f]? = some fn) :
    false = Tryz.pinned.checked.prog.looks [] ∧ ∀ (j : Nat) t, fn.params[j]? = some t → Tryz.pinned.checked.prog.wantsStandIn t = false := by
  obtain rfl : f = 6 := Option.some.inj ((show Tryz.prog.funcNamed "arbiter/arbiterlaw1.NumSpells" = some 6 by kernel_rfl).symm.trans hf) |>.symm
  obtain rfl : fn = Tryz.f6 := (Option.some.inj (Tryz.func6.symm.trans hfn)).symm
  refine ⟨by kernel_rfl, fun j t ht => ?_⟩
  rw [Tryz.params6] at ht
  obtain rfl : t = 9 := by simpa using Array.mem_of_getElem? ht
  exact (show Tryz.prog.wantsStandIn 9 = false by kernel_rfl)

theorem cardUpto : Rows.NumSpellsUptoCardSaid :=
  Claim7.holds_tied_plain_at .later [] _ _ _ _ saidUpto (fun _ h => by cases h) (by kernel_rfl) (fun _ h => by cases h) numSpellsUpto_row_tie rfl ⟨rfl, rfl⟩ (by kernel_rfl) rfl plain (by kernel_rfl)
#print axioms cardUpto
end Go.Proofs.YtebnjolkolobhaaGreatDoor.numSpells
namespace Go.Proofs.YtebnjolkolobhaaGreatDoor
theorem numSpellsUpto_holds : Rows.NumSpellsUptoCardSaid := numSpells.cardUpto
#print axioms numSpellsUpto_holds
end Go.Proofs.YtebnjolkolobhaaGreatDoor
