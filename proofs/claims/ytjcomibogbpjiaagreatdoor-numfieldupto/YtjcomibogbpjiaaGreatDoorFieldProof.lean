/- Proved: NumField returns true for all strings a, b, c of up to 1048573 bytes together, where the tables that start-up lays hold what the row lists: the canonical texts are a field under num's Add, Sub, Mul, Quo with the texts 0 and 1. Its condition: the row's second form (what the function reads is of bulk at most 1048576). -/
import Derived.Test.YtjcomibogbpjiaaGreatDoorCards
import Derived.Test.YtjcomibogbpjiaaGreatDoorTie
import Derived.Test.YtjcomibogbpjiaaGreatDoorLaid
import Derived.Test.YtjcomibogbpjiaaGreatDoorFieldB
import Derived.WalkKit
import Derived.ProofKit
import Derived.OpenShut
import Derived.ShutString
import Derived.SizedLaws
import Derived.Deep.DeepHandedRow
import Derived.SevenTiedAt
/- ==== FieldProof ==== -/
namespace Go.Proofs.YtjcomibogbpjiaaGreatDoor.numField
open Go.ChangeShapes Go.WideShapes Go.ChangeAt Go.RowKit
open Go.ChangeMaps (open_string shut_string)
set_option linter.unusedVariables false

theorem own : ownKnob Tryz.prog.godebug = none := by kernel_rfl
theorem no_calls (w : World) (c : Int) : Calls Tryz.prog 12 #[.int .i64 c] w fun e w' => e = .returned (.int .i64 c) ∧ w' = w := by
  go_enter Tryz.func12, Tryz.ntmps12
  go_wp2
  go_ret
  exact ⟨rfl, rfl⟩
theorem addB_size {s t : ByteArray} (hs : s.size ≤ 1048576) (ht : t.size ≤ 1048576) : (addB s t).size ≤ 1073741824 := by
  cases hk : canB s.data.toList && canB t.data.toList with
  | false => rw [addB_no hk]; decide
  | true =>
    rw [Bool.and_eq_true] at hk
    have b1 := can_Bd hk.1 hs (by decide)
    have b2 := can_Bd hk.2 ht (by decide)
    rw [of_can hk.1, of_can hk.2, addB_t]
    exact (b1.add b2).sz (by decide) (by decide)
set_option maxRecDepth 100000 in
set_option maxHeartbeats 8000000 in
theorem field_no (w : World) (sa sb sc : ByteArray) (hsa : sa.size ≤ 1048576) (hsb : sb.size ≤ 1048576) (hsc : sc.size ≤ 1048576) (hk : (canB sa.data.toList && canB sb.data.toList && canB sc.data.toList) = false) (env : Env w) :
    Calls Tryz.prog 3 #[.string sa, .string sb, .string sc] w fun e w' => e = .returned (.bool true) ∧ Below w.heap.size w w' := by
  have k1 := hide (fun W (h : Env W) => canon_b W sa (by omega) h)
  have k2 := hide (fun W (h : Env W) => canon_b W sb (by omega) h)
  have k3 := hide (fun W (h : Env W) => canon_b W sc (by omega) h)
  have q1 := hide (fun W (h : Env W) => add_b W sb sc (by omega) (by omega) h)
  have q2 := hide (fun W (h : Env W) => add_b W sa (addB sb sc) (by omega) (addB_size hsb hsc) h)
  have n1 : addB sa (addB sb sc) = ⟨#[]⟩ := by
    refine addB_no ?_
    cases ha : canB sa.data.toList with
    | false => rfl
    | true =>
      have h2 : (canB sb.data.toList && canB sc.data.toList) = false := by rw [ha] at hk; simpa using hk
      rw [addB_no h2, canB_nil]
      rfl
  rw [n1] at q2
  generalize addB sb sc = T at *
  have bw : Hid (Below w.heap.size w w) := Below.refl _ _
  have EE := hide env
  clear env hsa hsb hsc n1
  generalize canB sa.data.toList = ka at *
  generalize canB sb.data.toList = kb at *
  generalize canB sc.data.toList = kc at *
  cases ka with
  | false =>
    clear hk
    go_enter Tryz.func3, Tryz.ntmps3
    go_wp2_with (first
        | (go_at_call 4; refine (heads_b _ (EE.out.below bw.out)).mono ?_; rintro e w1 ⟨rfl, b1⟩; replace bw := hide (bw.out.then_below b1); clear b1)
        | (go_at_call_of 5 (Value.string sa); refine (k1.out _ (EE.out.below bw.out)).mono ?_; rintro e w1 ⟨rfl, b1⟩; replace bw := hide (bw.out.then_below b1); clear b1)
        | (go_at_call_of 5 (Value.string sb); refine (k2.out _ (EE.out.below bw.out)).mono ?_; rintro e w1 ⟨rfl, b1⟩; replace bw := hide (bw.out.then_below b1); clear b1)
        | (go_at_call_of 5 (Value.string sc); refine (k3.out _ (EE.out.below bw.out)).mono ?_; rintro e w1 ⟨rfl, b1⟩; replace bw := hide (bw.out.then_below b1); clear b1)
        | (go_at_call_of 6 (Value.string sb); refine (q1.out _ (EE.out.below bw.out)).mono ?_; rintro e w1 ⟨rfl, b1⟩; replace bw := hide (bw.out.then_below b1); clear b1)
        | (go_at_call_of 6 (Value.string sa); refine (q2.out _ (EE.out.below bw.out)).mono ?_; rintro e w1 ⟨rfl, b1⟩; replace bw := hide (bw.out.then_below b1); clear b1))
    go_ret
    exact ⟨rfl, bw.out⟩
  | true =>
    cases kb with
    | false =>
      clear hk
      go_enter Tryz.func3, Tryz.ntmps3
      go_wp2_with (first
          | (go_at_call 4; refine (heads_b _ (EE.out.below bw.out)).mono ?_; rintro e w1 ⟨rfl, b1⟩; replace bw := hide (bw.out.then_below b1); clear b1)
          | (go_at_call_of 5 (Value.string sa); refine (k1.out _ (EE.out.below bw.out)).mono ?_; rintro e w1 ⟨rfl, b1⟩; replace bw := hide (bw.out.then_below b1); clear b1)
          | (go_at_call_of 5 (Value.string sb); refine (k2.out _ (EE.out.below bw.out)).mono ?_; rintro e w1 ⟨rfl, b1⟩; replace bw := hide (bw.out.then_below b1); clear b1)
          | (go_at_call_of 5 (Value.string sc); refine (k3.out _ (EE.out.below bw.out)).mono ?_; rintro e w1 ⟨rfl, b1⟩; replace bw := hide (bw.out.then_below b1); clear b1)
          | (go_at_call_of 6 (Value.string sb); refine (q1.out _ (EE.out.below bw.out)).mono ?_; rintro e w1 ⟨rfl, b1⟩; replace bw := hide (bw.out.then_below b1); clear b1)
          | (go_at_call_of 6 (Value.string sa); refine (q2.out _ (EE.out.below bw.out)).mono ?_; rintro e w1 ⟨rfl, b1⟩; replace bw := hide (bw.out.then_below b1); clear b1))
      go_ret
      exact ⟨rfl, bw.out⟩
    | true =>
      cases kc with
      | true => exact absurd hk (by decide)
      | false =>
        clear hk
        go_enter Tryz.func3, Tryz.ntmps3
        go_wp2_with (first
            | (go_at_call 4; refine (heads_b _ (EE.out.below bw.out)).mono ?_; rintro e w1 ⟨rfl, b1⟩; replace bw := hide (bw.out.then_below b1); clear b1)
            | (go_at_call_of 5 (Value.string sa); refine (k1.out _ (EE.out.below bw.out)).mono ?_; rintro e w1 ⟨rfl, b1⟩; replace bw := hide (bw.out.then_below b1); clear b1)
            | (go_at_call_of 5 (Value.string sb); refine (k2.out _ (EE.out.below bw.out)).mono ?_; rintro e w1 ⟨rfl, b1⟩; replace bw := hide (bw.out.then_below b1); clear b1)
            | (go_at_call_of 5 (Value.string sc); refine (k3.out _ (EE.out.below bw.out)).mono ?_; rintro e w1 ⟨rfl, b1⟩; replace bw := hide (bw.out.then_below b1); clear b1)
            | (go_at_call_of 6 (Value.string sb); refine (q1.out _ (EE.out.below bw.out)).mono ?_; rintro e w1 ⟨rfl, b1⟩; replace bw := hide (bw.out.then_below b1); clear b1)
            | (go_at_call_of 6 (Value.string sa); refine (q2.out _ (EE.out.below bw.out)).mono ?_; rintro e w1 ⟨rfl, b1⟩; replace bw := hide (bw.out.then_below b1); clear b1))
        go_ret
        exact ⟨rfl, bw.out⟩
set_option maxRecDepth 100000 in
set_option maxHeartbeats 8000000 in
theorem field_all (w : World) (sa sb sc : ByteArray) (x y z : Rat) (ha : sa = tB x) (hb : sb = tB y) (hc : sc = tB z) (z1 : Sz x) (z2 : Sz y) (z3 : Sz z)
    (s1 : ∀ W, Env W → Calls Tryz.prog 7 #[.string sa, .string sb, .string sc] W fun e w' => e = .returned (.bool true) ∧ Below W.heap.size W w')
    (s2 : ∀ W, Env W → Calls Tryz.prog 8 #[.string sa, .string sb, .string sc] W fun e w' => e = .returned (.bool true) ∧ Below W.heap.size W w') (env : Env w) :
    Calls Tryz.prog 3 #[.string sa, .string sb, .string sc] w fun e w' => e = .returned (.bool true) ∧ Below w.heap.size w w' := by
  have k1 := hide (fun W (h : Env W) => canon_t W sa x ha z1 h)
  have k2 := hide (fun W (h : Env W) => canon_t W sb y hb z2 h)
  have k3 := hide (fun W (h : Env W) => canon_t W sc z hc z3 h)
  replace s1 := hide s1
  replace s2 := hide s2
  have bw : Hid (Below w.heap.size w w) := Below.refl _ _
  have EE := hide env
  clear env ha hb hc z1 z2 z3
  go_enter Tryz.func3, Tryz.ntmps3
  go_wp2_with (first
    | (go_at_call 4; refine (heads_b _ (EE.out.below bw.out)).mono ?_; rintro e w1 ⟨rfl, b1⟩; replace bw := hide (bw.out.then_below b1); clear b1)
    | (go_at_call_of 5 (Value.string sa); refine (k1.out _ (EE.out.below bw.out)).mono ?_; rintro e w1 ⟨rfl, b1⟩; replace bw := hide (bw.out.then_below b1); clear b1)
    | (go_at_call_of 5 (Value.string sb); refine (k2.out _ (EE.out.below bw.out)).mono ?_; rintro e w1 ⟨rfl, b1⟩; replace bw := hide (bw.out.then_below b1); clear b1)
    | (go_at_call_of 5 (Value.string sc); refine (k3.out _ (EE.out.below bw.out)).mono ?_; rintro e w1 ⟨rfl, b1⟩; replace bw := hide (bw.out.then_below b1); clear b1)
    | (go_at_call 7; refine (s1.out _ (EE.out.below bw.out)).mono ?_; rintro e w1 ⟨rfl, b1⟩; replace bw := hide (bw.out.then_below b1); clear b1)
    | (go_at_call 8; refine (s2.out _ (EE.out.below bw.out)).mono ?_; rintro e w1 ⟨rfl, b1⟩; replace bw := hide (bw.out.then_below b1); clear b1))
  go_ret
  exact ⟨rfl, bw.out⟩
theorem field_yes (w : World) (x y z : Rat) (b1 : Bd 1048576 x) (b2 : Bd 1048576 y) (b3 : Bd 1048576 z) (env : Env w) :
    Calls Tryz.prog 3 #[.string (tB x), .string (tB y), .string (tB z)] w fun e w' => e = .returned (.bool true) ∧ Below w.heap.size w w' := by
  have z0 : Sz 0 := Bd.sz (k := 1) (by decide) (by decide) ⟨by decide, by decide⟩
  have zo : Sz 1 := Bd.sz (k := 1) (by decide) (by decide) ⟨by decide, by decide⟩
  have z1 := b1.sz (by decide) (by decide)
  have z2 := b2.sz (by decide) (by decide)
  have z3 := b3.sz (by decide) (by decide)
  have y1 := (b1.add b2).sz (by decide) (by decide)
  have y2 := (b2.add b3).sz (by decide) (by decide)
  have y3 := ((b1.add b2).add b3).sz (by decide) (by decide)
  have y4 := (b1.sub b2).sz (by decide) (by decide)
  have p1 := (b1.mul b2).sz (by decide) (by decide)
  have p2 := (b2.mul b3).sz (by decide) (by decide)
  have p3 := ((b1.mul b2).mul b3).sz (by decide) (by decide)
  have p4 := (b1.mul b3).sz (by decide) (by decide)
  have p5 := (b1.mul (b2.add b3)).sz (by decide) (by decide)
  have p6 := (b1.div b2).sz (by decide) (by decide)
  refine field_all w _ _ _ x y z rfl rfl rfl z1 z2 z3 (fun W h => sums_t W x y z z1 z2 z3 z0 y1 y2 y3 y4 h) (fun W h => ?_) env
  by_cases hy : y = 0
  · have e : tB y = ⟨#[48]⟩ := by rw [hy]; exact t_zero.symm
    rw [e]
    exact products_zero W x y z hy z1 z2 z3 z0 zo p1 p2 p3 y2 p4 p5 h
  · exact products_t W x y z hy z1 z2 z3 z0 zo p1 p2 p3 y2 p4 p5 p6 h
theorem walk (w : World) (sa sb sc : ByteArray) (la lb lc : List UInt8) (ha : sa.data.toList = la) (hb : sb.data.toList = lb) (hc : sc.data.toList = lc) (hla : la.length ≤ 1048576) (hlb : lb.length ≤ 1048576) (hlc : lc.length ≤ 1048576) (m : Int) (hM : w.cell? ⟨0, 0, none⟩ = some (.int .i64 m)) (hT : Tab w) (hP : Pows w) :
    Calls Tryz.prog 3 #[.string sa, .string sb, .string sc] w fun e w' => e = .returned (.bool true) ∧ Below w.heap.size w w' := by
  have env : Env w := ⟨⟨m, hM⟩, hT, hP⟩
  subst ha hb hc
  rw [slen] at hla hlb hlc
  cases hk : canB sa.data.toList && canB sb.data.toList && canB sc.data.toList with
  | false => exact field_no w sa sb sc hla hlb hlc hk env
  | true =>
    rw [Bool.and_eq_true, Bool.and_eq_true] at hk
    obtain ⟨⟨h1, h2⟩, h3⟩ := hk
    have b1 := can_Bd h1 hla (by decide)
    have b2 := can_Bd h2 hlb (by decide)
    have b3 := can_Bd h3 hlc (by decide)
    rw [of_can h1, of_can h2, of_can h3]
    exact field_yes w _ _ _ b1 b2 b3 env

theorem tab_of {W : World} (h : Lib.TabIs Tryz.prog W "math/bits.deBruijn64tab" .u8 (Lib.deBruijn64tab.map (fun z : Nat => (z : Int)))) : Tab W := by
  intro j hj
  have := h.cell g64 j (by rw [List.length_map]; exact hj)
  rw [this]
  simp [List.getD_eq_getElem?_getD, List.getElem?_map, List.getElem?_eq_getElem hj]

theorem reads (os : Os) {H : Type} (enc : TypeId × Value → H) : ∃ places, DataW.whole enc Tryz.prog (({ World.holding Tryz.prog os ⟨#[], #[], []⟩ with heap := ((((((World.holding Tryz.prog os ⟨#[], #[], []⟩).heap).modify 7 (fun | .cells _ t fz => .cells ((Lib.deBruijn32tab.map (fun z : Nat => Value.int .u8 (z : Int))).toArray) t fz | o => o)).modify 1 (fun | .cells _ t fz => .cells ((Lib.deBruijn64tab.map (fun z : Nat => Value.int .u8 (z : Int))).toArray) t fz | o => o)).modify 4 (fun | .cells _ t fz => .cells ((Lib.pow10Tab.map (fun z : Int => Value.int .u64 z)).toArray) t fz | o => o)).modify 3 (fun | .cells _ t fz => .cells ((([128, 191, 160, 191, 128, 159, 144, 191, 128, 143, 0, 0, 0, 0, 0, 0, 0, 0, 0, 0, 0, 0, 0, 0, 0, 0, 0, 0, 0, 0, 0, 0] : List Int).map (fun z : Int => Value.int .u8 z)).toArray) t fz | o => o)).modify 2 (fun | .cells _ t fz => .cells ((Pinned.utf8FirstZ.map (fun z : Nat => Value.int .u8 (z : Int))).toArray) t fz | o => o) } : World).forCall (fun _ _ => 0) ⟨#[], #[.string ByteArray.empty, .string ByteArray.empty, .string ByteArray.empty], []⟩).memory Tryz.f3.params.toList Rows.numFieldSpec.vars false #[Value.string ByteArray.empty, Value.string ByteArray.empty, Value.string ByteArray.empty].toList 8 = some ([.lit (.string []), .lit (.string []), .lit (.string [])], [], places) :=
  ⟨[], by kernel_rfl⟩

set_option maxRecDepth 100000 in
theorem contract (H : Type) (enc : TypeId × Value → H) (W : World) (base : Nat) (args : Array Value) (ds gs : List (DataW H)) (before : List MemPlace)
    (hval : ∀ (j : Nat) t v, Tryz.f3.params[j]? = some t → args[j]? = some v → Value.okWide Tryz.prog W .any base t v)
    (hW : DataW.Whole enc Tryz.prog Tryz.f3.params.toList Rows.numFieldSpec.vars false W args.toList ds gs before) (hc : Rows.uptoSmall H (ds ++ gs) = true) (hL : laidMetH Tryz.prog Rows.numFieldUptoRow.laid W) (hsh : W.ShapedOpen Tryz.prog) :
    Calls Tryz.prog 3 args W fun e W' => ∃ v, e = .returned v ∧ Rows.numFieldSpec.post enc Tryz.prog Tryz.f3 false true false false W args v W' := by
  have hW' := hW
  obtain ⟨p, q, hA0, hV, rfl, hfz, hnd⟩ := hW
  have hA : DataW.TrodAll enc Tryz.prog W 0 (fun _ => true) true Tryz.f3.params.toList args.toList ds p := hA0
  rw [Tryz.params3] at hA hval
  obtain ⟨v0, vs0, d0, ds0, p0, q0, hargs, rfl, rfl, h0, r0⟩ := trodAll_cons hA
  obtain ⟨v1, vs1, d1, ds1, p1, q1, hargs1, rfl, rfl, h1, r1⟩ := trodAll_cons r0
  obtain ⟨v2, vs2, d2, ds2, p2, q2, hargs2, rfl, rfl, h2, r2⟩ := trodAll_cons r1
  obtain ⟨rfl, rfl, rfl⟩ := trodAll_nil r2
  obtain rfl : args = #[v0, v1, v2] := by cases args; simp_all
  obtain ⟨rfl, rfl⟩ := trodVars_none hV
  obtain ⟨s0, rfl, rfl, rfl, hs0⟩ := open_string Tryz.underlying9 (hval 0 9 v0 rfl rfl) h0
  obtain ⟨s1, rfl, rfl, rfl, hs1⟩ := open_string Tryz.underlying9 (hval 1 9 v1 rfl rfl) h1
  obtain ⟨s2, rfl, rfl, rfl, hs2⟩ := open_string Tryz.underlying9 (hval 2 9 v2 rfl rfl) h2
  clear hA0
  have hl : s0.data.toList.length ≤ 1048576 ∧ s1.data.toList.length ≤ 1048576 ∧ s2.data.toList.length ≤ 1048576 := by
    have := of_decide_eq_true hc
    simp only [List.append_nil, Rows.uptoBulkAll, Rows.uptoBulk] at this
    omega
  obtain ⟨m, hM⟩ := maxLen_of hsh
  obtain ⟨t1, t2⟩ := tabs_of hL
  refine (walk W s0 s1 s2 _ _ _ rfl rfl rfl hl.1 hl.2.1 hl.2.2 m hM (tab_of t1) t2).mono fun e W' ⟨he, bel⟩ => ?_
  subst he
  exact ⟨_, rfl, _, _, _, [], _, [], hW', trodAll_mk1 (shut_bool Tryz.underlying4 _), trodAll_cons_mk (shut_string Tryz.underlying9 hs0) (trodAll_cons_mk (shut_string Tryz.underlying9 hs1) (trodAll_cons_mk (shut_string Tryz.underlying9 hs2) trodAll_mk0)), rfl, bel.frame _, fun h => by cases h⟩

set_option maxRecDepth 100000 in
theorem liftedUpto (os : Os) (started : os.Started) (H : Type) (enc : TypeId × Value → H) (F : Stop.Interp) :
    ReturnsInHanded {} Tryz.checked os 3 .any ((Rows.OpenSpec.upto Rows.numFieldSpec).preRow enc Tryz.prog Tryz.f3 Rows.numFieldUptoRow.domain false Rows.numFieldUptoRow.laid) (((Rows.OpenSpec.upto Rows.numFieldSpec).at F).post enc Tryz.prog Tryz.f3 false true false false) := by
  obtain ⟨places, hx⟩ := reads os enc
  refine returnsInHanded_of_row (C := Tryz.checked) (s := Rows.OpenSpec.upto Rows.numFieldSpec) own started (by kernel_rfl) Tryz.func3
    (witness_row_at (enc := enc) (C := Tryz.checked) false ({ World.holding Tryz.prog os ⟨#[], #[], []⟩ with heap := ((((((World.holding Tryz.prog os ⟨#[], #[], []⟩).heap).modify 7 (fun | .cells _ t fz => .cells ((Lib.deBruijn32tab.map (fun z : Nat => Value.int .u8 (z : Int))).toArray) t fz | o => o)).modify 1 (fun | .cells _ t fz => .cells ((Lib.deBruijn64tab.map (fun z : Nat => Value.int .u8 (z : Int))).toArray) t fz | o => o)).modify 4 (fun | .cells _ t fz => .cells ((Lib.pow10Tab.map (fun z : Int => Value.int .u64 z)).toArray) t fz | o => o)).modify 3 (fun | .cells _ t fz => .cells ((([128, 191, 160, 191, 128, 159, 144, 191, 128, 143, 0, 0, 0, 0, 0, 0, 0, 0, 0, 0, 0, 0, 0, 0, 0, 0, 0, 0, 0, 0, 0, 0] : List Int).map (fun z : Int => Value.int .u8 z)).toArray) t fz | o => o)).modify 2 (fun | .cells _ t fz => .cells ((Pinned.utf8FirstZ.map (fun z : Nat => Value.int .u8 (z : Int))).toArray) t fz | o => o) } : World) #[.string ByteArray.empty, .string ByteArray.empty, .string ByteArray.empty] rfl (by kernel_rfl) (by kernel_rfl) (by kernel_rfl)
      (OpenSpec.preRow_of_cond 8 hx (by kernel_rfl) (fun k hk => by cases hk; kernel_rfl) (by kernel_rfl) (laid_met os _))) ?_
  intro W base args ds gs before hval hW _ hcond _ hL hsh _
  exact contract H enc W base args ds gs before hval hW (hcond _ rfl) hL hsh

theorem saidUpto : Rows.NumFieldUptoSaid :=
  OpenClaim.holds_of_cond 3 Tryz.f3 rfl rfl rfl rfl rfl rfl rfl ⟨rfl, rfl, rfl, rfl, rfl⟩ rfl rfl rfl rfl rfl (by kernel_rfl) Tryz.func3 (by kernel_rfl)
    (of_decide_eq_true (by kernel_rfl)) (by unfold Func.isWrapper; first | (rw [if_pos (by decide +kernel)]; kernel_rfl) | (rw [if_neg (by decide +kernel)]; exact ⟨rfl, rfl⟩))
    (fun os started H enc _ F => by rw [OpenClaim.pre_eq_preRow]; exact liftedUpto os started H enc F)

theorem plain (f : FuncId) (fn : Func) (hf : Tryz.pinned.checked.prog.funcNamed "arbiter/arbiterlaw1.NumField" = some f) (hfn : Tryz.pinned.checked.prog.funcs[f]? = some fn) :
    false = Tryz.pinned.checked.prog.looks [] ∧ ∀ (j : Nat) t, fn.params[j]? = some t → Tryz.pinned.checked.prog.wantsStandIn t = false := by
  obtain rfl : f = 3 := Option.some.inj ((show Tryz.prog.funcNamed "arbiter/arbiterlaw1.NumField" = some 3 by kernel_rfl).symm.trans hf) |>.symm
  obtain rfl : fn = Tryz.f3 := (Option.some.inj (Tryz.func3.symm.trans hfn)).symm
  refine ⟨by kernel_rfl, fun j t ht => ?_⟩
  rw [Tryz.params3] at ht
  obtain rfl : t = 9 := by simpa using Array.mem_of_getElem? ht
  exact (show Tryz.prog.wantsStandIn 9 = false by kernel_rfl)

theorem cardUpto : Rows.NumFieldUptoCardSaid :=
  Claim7.holds_tied_plain_at .later [] _ _ _ _ saidUpto (fun _ h => by cases h) (by kernel_rfl) (fun _ h => by cases h) numFieldUpto_row_tie rfl ⟨rfl, rfl⟩ (by kernel_rfl) rfl plain (by kernel_rfl)
#print axioms cardUpto
end Go.Proofs.YtjcomibogbpjiaaGreatDoor.numField
namespace Go.Proofs.YtjcomibogbpjiaaGreatDoor
theorem numFieldUpto_holds : Rows.NumFieldUptoCardSaid := numField.cardUpto
#print axioms numFieldUpto_holds
end Go.Proofs.YtjcomibogbpjiaaGreatDoor
