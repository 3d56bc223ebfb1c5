/- NumPlaces returns true for every two strings of bulk at most 1048576: a decimal is the number of its digits by a power of ten, and Decimal writes it again without the zeros at its end; all else Read refuses. Conditions: the row's second form; the tables of the standard library that start-up lays hold what the row lists (tied to the program's text by the given Tie text, which speaks of the pruned copy of the program that the seat was turned of). -/
import Derived.Test.YtebnjolkolobhaaGreatDoorCards
import Derived.Test.YtebnjolkolobhaaGreatDoorTie
import Derived.Test.YtebnjolkolobhaaGreatDoorLaid
import Derived.Test.YtebnjolkolobhaaGreatDoorPlacesLaw
import Derived.Test.YtebnjolkolobhaaGreatDoorNumDecimal
import Derived.WalkKit
import Derived.ProofKit
import Derived.OpenShut
import Derived.ShutString
import Derived.SizedLaws
import Derived.Deep.DeepHandedRow
import Derived.SevenTiedAt
/- ==== PlacesProof ==== -/
namespace Go.Proofs.YtebnjolkolobhaaGreatDoor.numPlaces
open Go.ChangeShapes Go.WideShapes Go.ChangeAt Go.RowKit
open Go.ChangeMaps (open_string shut_string)
set_option linter.unusedVariables false

theorem own : ownKnob Tryz.prog.godebug = none := by kernel_rfl
theorem no_calls (w : World) (c : Int) : Calls Tryz.prog 9 #[.int .i64 c] w fun e w' => e = .returned (.int .i64 c) ∧ w' = w := by
  go_enter Tryz.func9, Tryz.ntmps9
  go_wp2
  go_ret
  exact ⟨rfl, rfl⟩
set_option maxRecDepth 100000 in
set_option maxHeartbeats 8000000 in
theorem places_yes (w : World) (sa sb : ByteArray) (la lb : List UInt8) (ha : sa.data.toList = la) (hb : sb.data.toList = lb) (hla : la.length ≤ 1048576) (hlb : lb.length ≤ 1048576) (G : Lit la ∧ Good lb) (env : Env w) :
    Calls Tryz.prog 7 #[.string sa, .string sb] w fun e w' => e = .returned (.bool true) ∧ Below w.heap.size w w' := by
  have za := size_of sa la ha
  have zb := size_of sb lb hb
  have q := pQ_bd hla hlb G
  have gl := hide (show 0 < lb.length from List.length_pos_iff.2 G.2.1)
  have c1 := hide (fun W (h : Env W) => read_yes_calls W sa sb la lb ha hb hla hlb G h)
  have d1 := hide (fun W => decimal_calls W sb lb hb (by omega))
  have d2 := hide (fun W => decimal_calls W sa la ha (by omega))
  rw [decide_eq_true G.2] at d1
  rw [decide_eq_true G.1.1] at d2
  have b1 := hide (fun W => bare_calls W sa (by omega))
  have b2 := hide (fun W => bare_calls W sb (by omega))
  rw [ha, (bareL_same la G.1.1).2 G.1, ← strB ha] at b1
  have hB : Lit (bareL lb) := bareL_lit lb G.2
  have hBl := bareL_len lb
  rw [hb] at b2
  have hBs : (⟨(bareL lb).toArray⟩ : ByteArray).data.toList = bareL lb := rfl
  have hBz := size_of _ _ hBs
  have r1 := hide (fun W (h : Env W) => reads_lit W sa la ha G.1 (by omega) h)
  have r2 := hide (fun W (h : Env W) => reads_lit W ⟨(bareL lb).toArray⟩ (bareL lb) hBs hB (by omega) h)
  rw [bareL_dec] at r2
  have ma : sa.size ≤ 1048576 := by omega
  have mb : sb.size ≤ 1048576 := by omega
  have bx : Bd 1048577 (mkRat (M.dec la : Int) 1) := dec_bdk G.1.1.2 (by omega)
  have by' : Bd 1048577 (mkRat (M.dec lb : Int) 1) := dec_bdk G.2.2 (by omega)
  have bt : Bd 1048577 (mkRat ((10 ^ lb.length : Nat) : Int) 1) := ten_bdk (by omega)
  have hne : mkRat ((10 ^ lb.length : Nat) : Int) 1 ≠ 0 := by
    intro e
    have h1 := (Rat.mkRat_eq_zero (by decide)).1 e
    have h2 : 0 < 10 ^ lb.length := Nat.pow_pos (by decide)
    omega
  have qc := hide (fun W (T : ByteArray) (hT : T.data.toList = 49 :: List.replicate lb.length 48) (h : Env W) => quo_t W (tB (mkRat (M.dec lb : Int) 1)) T _ (mkRat ((10 ^ lb.length : Nat) : Int) 1) rfl (by rw [strB hT, ten_text, ten_q]; rfl) hne (by'.sz (by decide) (by decide)) (bt.sz (by decide) (by decide)) h)
  have ac := hide (fun W (h : Env W) => add_t W (tB (mkRat (M.dec la : Int) 1)) (tB (mkRat (M.dec lb : Int) 1 / mkRat ((10 ^ lb.length : Nat) : Int) 1)) _ _ rfl rfl (bx.sz (by decide) (by decide)) ((by'.div bt).sz (by decide) (by decide)) h)
  rw [pQ_sum] at ac
  have kc := hide (fun W (h : Env W) => canon_t W (tB (pQ la lb)) _ rfl (q.sz (by decide) (by decide)) h)
  have h48 : (sa ++ ⟨#[46]⟩ ++ sb ++ ⟨#[48]⟩).data.toList = la ++ 46 :: (lb ++ [48]) := by
    rw [ByteArray.data_append, Array.toList_append, pq_list ha hb]
    simp
  have z48 : (sa ++ ⟨#[46]⟩ ++ sb ++ ⟨#[48]⟩).size ≤ 2097160 := by rw [ByteArray.size_append, app_size]; show _ + 1 ≤ _; omega
  have zab : (sa ++ ⟨#[46]⟩ ++ sb).size ≤ 2097153 := by rw [app_size]; omega
  have za1 : (sa ++ ⟨#[46]⟩).size ≤ 1048577 := by rw [ByteArray.size_append]; show _ + 1 ≤ _; omega
  have r3 := hide (fun W (h : Env W) => reads_point W _ la (lb ++ [48]) h48 ⟨G.1, by simp, fun b hb => by
    rcases List.mem_append.1 hb with h | h
    · exact G.2.2 b h
    · rw [List.mem_singleton.1 h]; decide⟩ (by omega) h)
  rw [show lb ++ [48] = lb ++ List.replicate 1 48 from rfl, pQ_zero la lb 1] at r3
  have dc := hide (fun W S n h1 h2 hS hz he (h : Env W) => decimal_back W sa S la lb ha hla hlb G n h1 h2 hS hz he h)
  have HB := hide hb
  have ZB := hide zb
  generalize tB (pQ la lb) = R at *
  generalize tB (mkRat (M.dec la : Int) 1) = X at *
  generalize tB (mkRat (M.dec lb : Int) 1 / mkRat ((10 ^ lb.length : Nat) : Int) 1) = Z at *
  generalize tB (mkRat (M.dec lb : Int) 1) = Y at *
  generalize (⟨(bareL lb).toArray⟩ : ByteArray) = B at *
  have EE := hide env
  have bw : Hid (Below w.heap.size w w) := Below.refl _ _
  clear za zb ha hb hla hlb env G q hB hBl hBs hBz bx by' bt hne h48
  go_enter Tryz.func7, Tryz.ntmps7
  go_wp2_with (first
    | (go_at_call_of 23 (Value.string ⟨#[49, 46, 53, 48]⟩); refine (reads_own1 _ (EE.out.below bw.out)).mono ?_; rintro e w1 ⟨rfl, b1⟩; replace bw := hide (bw.out.then_below b1); clear b1)
    | (go_at_call_of 23 (Value.string ⟨#[48]⟩); refine (reads_own0 _ (EE.out.below bw.out)).mono ?_; rintro e w1 ⟨rfl, b1⟩; replace bw := hide (bw.out.then_below b1); clear b1)
    | (go_at_call 24; refine (c1.out _ (EE.out.below bw.out)).mono ?_; rintro e w1 ⟨rfl, b1⟩; replace bw := hide (bw.out.then_below b1); clear b1)
    | (go_at_call_of 25 (Value.string sb); refine (d1.out _).mono ?_; rintro e w1 ⟨rfl, hw⟩; replace hw := hw.symm; subst hw)
    | (go_at_call_of 25 (Value.string sa); refine (d2.out _).mono ?_; rintro e w1 ⟨rfl, hw⟩; replace hw := hw.symm; subst hw)
    | (go_at_call 26; refine (b1.out _).mono ?_; rintro e w1 ⟨rfl, hw⟩; replace hw := hw.symm; subst hw))
  clear c1 d1 d2 b1
  go_loopw [7, 8] (fun v j wr => ∃ (i : Nat) (T : ByteArray), v = .string T ∧ j = .int .i64 (i : Int) ∧ i ≤ sb.size ∧ Hid (T.data.toList = 49 :: List.replicate i 48) ∧ T.size ≤ 1048577 ∧ Hid (T.size = i + 1) ∧ Hid (Below w.heap.size w wr)) (fun _ j _ => sb.size - (intOf j).toNat)
  case atStart => exact ⟨0, _, rfl, rfl, Nat.zero_le _, rfl, by decide, rfl, bw⟩
  case round =>
  clear bw
  obtain ⟨i, T, rfl, rfl, hi, hT, mT, zT, bw⟩ := hrel
  by_cases hlt : i < sb.size
  · have hl2 : (i : Int) < (sb.size : Int) := by omega
    have u1 : Hid ((T ++ ⟨#[48]⟩).data.toList = 49 :: List.replicate (i + 1) 48) := by
      show _ = _
      rw [ByteArray.data_append, Array.toList_append, hT.out, List.replicate_succ']
      rfl
    have u2 : Hid ((T ++ ⟨#[48]⟩).size = i + 1 + 1) := by show _ = _; rw [ByteArray.size_append, zT.out]; rfl
    have u3 : (T ++ ⟨#[48]⟩).size ≤ 1048577 := by rw [u2.out]; omega
    generalize hU : T ++ ⟨#[48]⟩ = U at *
    go_wp2
    go_roundw
    case rel => exact ⟨i + 1, U, rfl, by simp, by omega, u1, u3, u2, bw⟩
    case measure => simp [intOf]; omega
  obtain rfl : i = sb.size := by omega
  have qT := hide (fun W (h : Env W) => qc.out W T (by rw [hT.out, ZB.out]) h)
  clear qc hT zT
  go_wp2_with (first
    | (go_at_call_of 23 (Value.string sa); refine (r1.out _ (EE.out.below bw.out)).mono ?_; rintro e w1 ⟨rfl, b1⟩; replace bw := hide (bw.out.then_below b1); clear b1)
    | (go_at_call 26; refine (b2.out _).mono ?_; rintro e w1 ⟨rfl, hw⟩; replace hw := hw.symm; subst hw)
    | (go_at_call_of 23 (Value.string B); refine (r2.out _ (EE.out.below bw.out)).mono ?_; rintro e w1 ⟨rfl, b1⟩; replace bw := hide (bw.out.then_below b1); clear b1)
    | (go_at_call 28; refine (qT.out _ (EE.out.below bw.out)).mono ?_; rintro e w1 ⟨rfl, b1⟩; replace bw := hide (bw.out.then_below b1); clear b1)
    | (go_at_call 27; refine (ac.out _ (EE.out.below bw.out)).mono ?_; rintro e w1 ⟨rfl, b1⟩; replace bw := hide (bw.out.then_below b1); clear b1)
    | (go_at_call 9; refine (no_b _ _).mono ?_; rintro e w1 ⟨rfl, hw⟩; replace hw := hw.symm; subst hw)
    | (go_at_call 10; refine (kc.out _ (EE.out.below bw.out)).mono ?_; rintro e w1 ⟨rfl, b1⟩; replace bw := hide (bw.out.then_below b1); clear b1)
    | (go_at_call 23; refine (r3.out _ (EE.out.below bw.out)).mono ?_; rintro e w1 ⟨rfl, b1⟩; replace bw := hide (bw.out.then_below b1); clear b1))
  clear r1 b2 r2 qT ac kc r3
  go_loopw [10] (fun v wr => ∃ (S : ByteArray) (n : Nat), v = .string S ∧ Hid (1 ≤ n) ∧ Hid (n ≤ lb.length) ∧ Hid (S.data.toList = lb.take n) ∧ S.size ≤ 1048576 ∧ Hid (S.size = n) ∧ Hid (lb = lb.take n ++ List.replicate (lb.length - n) 48) ∧ Hid (Below w.heap.size w wr)) (fun v _ => (txtOf v).size)
  case atStart =>
    refine ⟨sb, lb.length, rfl, gl.out, Nat.le_refl _, ?_, mb, ZB.out, ?_, bw⟩
    · show _ = _; rw [List.take_length]; exact HB.out
    · show _ = _; rw [List.take_length, Nat.sub_self, List.replicate_zero, List.append_nil]
  case round =>
  clear bw
  obtain ⟨S, n, rfl, hn1, hn2, hS, mS, zS, hz, bw⟩ := hrel
  by_cases h1 : 1 < S.size
  · obtain ⟨j, hj⟩ : ∃ j, n = j + 1 := ⟨n - 1, by have := hn1.out; omega⟩
    have hjS : j < S.size := by rw [zS.out, hj]; omega
    have hjI : (j : Int) < (S.size : Int) := by omega
    have e0 : IntKind.i64.wrap ((S.size : Int) - 1) = (j : Int) := by rw [IntKind.wrap_i64, zS.out, hj]; omega
    have hx := byteAt S _ hS.out j hjS
    have hgd : (lb.take n).getD j 0 = lb.getD j 0 := by
      rw [List.getD_eq_getElem?_getD, List.getElem?_take_of_lt (by omega), ← List.getD_eq_getElem?_getD]
    rw [hgd] at hx
    by_cases h48 : lb.getD j 0 = 48
    · rw [h48] at hx
      have s1 := fun W => run_front S j (j : Int) (by omega) (by omega) (by simp) W
      obtain ⟨U, hU⟩ : ∃ U, S.extract 0 j = U := ⟨_, rfl⟩
      have hUz : Hid (U.size = j) := by show _ = _; rw [← hU, ByteArray.size_extract]; omega
      have hUl : Hid (U.data.toList = lb.take j) := by
        show _ = _
        rw [← hU, extract_take hS.out, List.take_take]
        congr 1
        omega
      have hz2 : Hid (lb = lb.take j ++ List.replicate (lb.length - j) 48) := by
        show _ = _
        have hnl := hn2.out
        have e1 : lb.take n = lb.take j ++ [48] := by
          rw [hj, List.take_add_one, List.getElem?_eq_getElem (by omega)]
          congr 1
          rw [List.getD_eq_getElem?_getD, List.getElem?_eq_getElem (by omega)] at h48
          simpa using h48
        conv => lhs; rw [hz.out, e1]
        rw [show lb.length - j = (lb.length - n) + 1 by omega, List.replicate_succ, List.append_assoc]
        rfl
      have mU : U.size ≤ 1048576 := by have := hUz.out; omega
      have lt : U.size < S.size := by have := hUz.out; omega
      have hj1 : Hid (1 ≤ j) := by show 1 ≤ j; have := zS.out; omega
      have hj2 : Hid (j ≤ lb.length) := by show j ≤ _; have := hn2.out; omega
      rw [hU] at s1
      clear h48 hgd hU hj
      go_wp2
      go_roundw
      case rel => exact ⟨U, j, rfl, hj1, hj2, hUl, mU, hUz, hz2, bw⟩
      case measure => exact lt
    · have qd := hide (fun W (h : Env W) => dc.out W S n hn1.out hn2.out hS.out hz.out (.inr (by rw [show n - 1 = j by omega]; exact h48)) h)
      have hne : ¬ ((lb.getD j 0).toNat = 48) := fun e => h48 (UInt8.toNat_inj.1 (by rw [e]; rfl))
      clear h48 hgd dc
      generalize lb.getD j 0 = b at *
      go_wp2_with (first
        | (go_at_call 21; refine (qd.out _ (EE.out.below bw.out)).mono ?_; rintro e w1 ⟨rfl, b1⟩; replace bw := hide (bw.out.then_below b1); clear b1)
        | (go_at_call 9; refine (no_b _ _).mono ?_; rintro e w1 ⟨rfl, hw⟩; replace hw := hw.symm; subst hw))
      go_ret
      exact ⟨rfl, bw.out⟩
  · have qd := hide (fun W (h : Env W) => dc.out W S n hn1.out hn2.out hS.out hz.out (.inl (by have := hn1.out; have := zS.out; omega)) h)
    clear dc
    go_wp2_with (first
      | (go_at_call 21; refine (qd.out _ (EE.out.below bw.out)).mono ?_; rintro e w1 ⟨rfl, b1⟩; replace bw := hide (bw.out.then_below b1); clear b1)
      | (go_at_call 9; refine (no_b _ _).mono ?_; rintro e w1 ⟨rfl, hw⟩; replace hw := hw.symm; subst hw))
    go_ret
    exact ⟨rfl, bw.out⟩
theorem walk (w : World) (sa sb : ByteArray) (la lb : List UInt8) (ha : sa.data.toList = la) (hb : sb.data.toList = lb) (hla : la.length ≤ 1048576) (hlb : lb.length ≤ 1048576) (m : Int) (hM : w.cell? ⟨0, 0, none⟩ = some (.int .i64 m)) (hT : Tab w) (hP : Pows w) :
    Calls Tryz.prog 7 #[.string sa, .string sb] w fun e w' => e = .returned (.bool true) ∧ Below w.heap.size w w' := by
  have env : Env w := ⟨⟨m, hM⟩, hT, hP⟩
  by_cases G : Lit la ∧ Good lb
  · exact places_yes w sa sb la lb ha hb hla hlb G env
  · exact places_no w sa sb la lb ha hb hla hlb G env

theorem tab_of {W : World} (h : Lib.TabIs Tryz.prog W "math/bits.deBruijn64tab" .u8 (Lib.deBruijn64tab.map (fun z : Nat => (z : Int)))) : Tab W := by
  intro j hj
  have := h.cell g64 j (by rw [List.length_map]; exact hj)
  rw [this]
  simp [List.getD_eq_getElem?_getD, List.getElem?_map, List.getElem?_eq_getElem hj]

theorem reads (os : Os) {H : Type} (enc : TypeId × Value → H) : ∃ places, DataW.whole enc Tryz.prog (({ World.holding Tryz.prog os ⟨#[], #[], []⟩ with heap := ((((((World.holding Tryz.prog os ⟨#[], #[], []⟩).heap).modify 7 (fun | .cells _ t fz => .cells ((Lib.deBruijn32tab.map (fun z : Nat => Value.int .u8 (z : Int))).toArray) t fz | o => o)).modify 2 (fun | .cells _ t fz => .cells ((Lib.deBruijn64tab.map (fun z : Nat => Value.int .u8 (z : Int))).toArray) t fz | o => o)).modify 1 (fun | .cells _ t fz => .cells ((Lib.pow10Tab.map (fun z : Int => Value.int .u64 z)).toArray) t fz | o => o)).modify 4 (fun | .cells _ t fz => .cells ((([128, 191, 160, 191, 128, 159, 144, 191, 128, 143, 0, 0, 0, 0, 0, 0, 0, 0, 0, 0, 0, 0, 0, 0, 0, 0, 0, 0, 0, 0, 0, 0] : List Int).map (fun z : Int => Value.int .u8 z)).toArray) t fz | o => o)).modify 3 (fun | .cells _ t fz => .cells ((Pinned.utf8FirstZ.map (fun z : Nat => Value.int .u8 (z : Int))).toArray) t fz | o => o) } : World).forCall (fun _ _ => 0) ⟨#[], #[.string ByteArray.empty, .string ByteArray.empty], []⟩).memory Tryz.f7.params.toList Rows.numPlacesSpec.vars false #[Value.string ByteArray.empty, Value.string ByteArray.empty].toList 8 = some ([.lit (.string []), .lit (.string [])], [], places) :=
  ⟨[], by kernel_rfl⟩

set_option maxRecDepth 100000 in
theorem contract (H : Type) (enc : TypeId × Value → H) (W : World) (base : Nat) (args : Array Value) (ds gs : List (DataW H)) (before : List MemPlace)
    (hval : ∀ (j : Nat) t v, Tryz.f7.params[j]? = some t → args[j]? = some v → Value.okWide Tryz.prog W .any base t v)
    (hW : DataW.Whole enc Tryz.prog Tryz.f7.params.toList Rows.numPlacesSpec.vars false W args.toList ds gs before) (hc : Rows.uptoSmall H (ds ++ gs) = true) (hL : laidMetH Tryz.prog Rows.numPlacesUptoRow.laid W) (hsh : W.ShapedOpen Tryz.prog) :
    Calls Tryz.prog 7 args W fun e W' => ∃ v, e = .returned v ∧ Rows.numPlacesSpec.post enc Tryz.prog Tryz.f7 false true false false W args v W' := by
  have hW' := hW
  obtain ⟨p, q, hA0, hV, rfl, hfz, hnd⟩ := hW
  have hA : DataW.TrodAll enc Tryz.prog W 0 (fun _ => true) true Tryz.f7.params.toList args.toList ds p := hA0
  rw [Tryz.params7] at hA hval
  obtain ⟨v0, vs0, d0, ds0, p0, q0, hargs, rfl, rfl, h0, r0⟩ := trodAll_cons hA
  obtain ⟨v1, vs1, d1, ds1, p1, q1, hargs1, rfl, rfl, h1, r1⟩ := trodAll_cons r0
  obtain ⟨rfl, rfl, rfl⟩ := trodAll_nil r1
  obtain rfl : args = #[v0, v1] := by cases args; simp_all
  obtain ⟨rfl, rfl⟩ := trodVars_none hV
  obtain ⟨s0, rfl, rfl, rfl, hs0⟩ := open_string Tryz.underlying9 (hval 0 9 v0 rfl rfl) h0
  obtain ⟨s1, rfl, rfl, rfl, hs1⟩ := open_string Tryz.underlying9 (hval 1 9 v1 rfl rfl) h1
  clear hA0
  have hl : s0.data.toList.length ≤ 1048576 ∧ s1.data.toList.length ≤ 1048576 := by
    have := of_decide_eq_true hc
    simp only [List.append_nil, Rows.uptoBulkAll, Rows.uptoBulk] at this
    omega
  obtain ⟨m, hM⟩ := maxLen_of hsh
  obtain ⟨t1, t2⟩ := tabs_of hL
  refine (walk W s0 s1 _ _ rfl rfl hl.1 hl.2 m hM (tab_of t1) t2).mono fun e W' ⟨he, bel⟩ => ?_
  subst he
  exact ⟨_, rfl, _, _, _, [], _, [], hW', trodAll_mk1 (shut_bool Tryz.underlying4 _), trodAll_cons_mk (shut_string Tryz.underlying9 hs0) (trodAll_cons_mk (shut_string Tryz.underlying9 hs1) trodAll_mk0), rfl, bel.frame _, fun h => by cases h⟩

set_option maxRecDepth 100000 in
theorem liftedUpto (os : Os) (started : os.Started) (H : Type) (enc : TypeId × Value → H) (F : Stop.Interp) :
    ReturnsInHanded {} Tryz.checked os 7 .any ((Rows.OpenSpec.upto Rows.numPlacesSpec).preRow enc Tryz.prog Tryz.f7 Rows.numPlacesUptoRow.domain false Rows.numPlacesUptoRow.laid) (((Rows.OpenSpec.upto Rows.numPlacesSpec).at F).post enc Tryz.prog Tryz.f7 false true false false) := by
  obtain ⟨places, hx⟩ := reads os enc
  refine returnsInHanded_of_row (C := Tryz.checked) (s := Rows.OpenSpec.upto Rows.numPlacesSpec) own started (by kernel_rfl) Tryz.func7
    (witness_row_at (enc := enc) (C := Tryz.checked) false ({ World.holding Tryz.prog os ⟨#[], #[], []⟩ with heap := ((((((World.holding Tryz.prog os ⟨#[], #[], []⟩).heap).modify 7 (fun | .cells _ t fz => .cells ((Lib.deBruijn32tab.map (fun z : Nat => Value.int .u8 (z : Int))).toArray) t fz | o => o)).modify 2 (fun | .cells _ t fz => .cells ((Lib.deBruijn64tab.map (fun z : Nat => Value.int .u8 (z : Int))).toArray) t fz | o => o)).modify 1 (fun | .cells _ t fz => .cells ((Lib.pow10Tab.map (fun z : Int => Value.int .u64 z)).toArray) t fz | o => o)).modify 4 (fun | .cells _ t fz => .cells ((([128, 191, 160, 191, 128, 159, 144, 191, 128, 143, 0, 0, 0, 0, 0, 0, 0, 0, 0, 0, 0, 0, 0, 0, 0, 0, 0, 0, 0, 0, 0, 0] : List Int).map (fun z : Int => Value.int .u8 z)).toArray) t fz | o => o)).modify 3 (fun | .cells _ t fz => .cells ((Pinned.utf8FirstZ.map (fun z : Nat => Value.int .u8 (z : Int))).toArray) t fz | o => o) } : World) #[.string ByteArray.empty, .string ByteArray.empty] rfl (by kernel_rfl) (by kernel_rfl) (by kernel_rfl)
      (OpenSpec.preRow_of_cond 8 hx (by kernel_rfl) (fun k hk => by cases hk; kernel_rfl) (by kernel_rfl) (laid_met os _))) ?_
  intro W base args ds gs before hval hW _ hcond _ hL hsh _
  exact contract H enc W base args ds gs before hval hW (hcond _ rfl) hL hsh

theorem saidUpto : Rows.NumPlacesUptoSaid :=
  OpenClaim.holds_of_cond 7 Tryz.f7 rfl rfl rfl rfl rfl rfl rfl ⟨rfl, rfl, rfl, rfl, rfl⟩ rfl rfl rfl rfl rfl (by kernel_rfl) Tryz.func7 (by kernel_rfl)
    (of_decide_eq_true (by kernel_rfl)) (by unfold Func.isWrapper; first | (rw [if_pos (by decide +kernel)]; kernel_rfl) | (rw [if_neg (by decide +kernel)]; exact ⟨rfl, rfl⟩))
    (fun os started H enc _ F => by rw [OpenClaim.pre_eq_preRow]; exact liftedUpto os started H enc F)

theorem plain (f : FuncId) (fn : Func) (hf : Tryz.pinned.checked.prog.funcNamed "arbiter/arbiterlaw1.NumPlaces" = some f) (hfn : Tryz.pinned.checked.prog.funcs[f]? = some fn) :
    false = Tryz.pinned.checked.prog.looks [] ∧ ∀ (j : Nat) t, fn.params[j]? = some t → Tryz.pinned.checked.prog.wantsStandIn t = false := by
  obtain rfl : f = 7 := Option.some.inj ((show Tryz.prog.funcNamed "arbiter/arbiterlaw1.NumPlaces" = some 7 by kernel_rfl).symm.trans hf) |>.symm
  obtain rfl : fn = Tryz.f7 := (Option.some.inj (Tryz.func7.symm.trans hfn)).symm
  refine ⟨by kernel_rfl, fun j t ht => ?_⟩
  rw [Tryz.params7] at ht
  obtain rfl : t = 9 := by simpa using Array.mem_of_getElem? ht
  exact (show Tryz.prog.wantsStandIn 9 = false by kernel_rfl)

theorem cardUpto : Rows.NumPlacesUptoCardSaid :=
  Claim7.holds_tied_plain_at .later [] _ _ _ _ saidUpto (fun _ h => by cases h) (by kernel_rfl) (fun _ h => by cases h) numPlacesUpto_row_tie rfl ⟨rfl, rfl⟩ (by kernel_rfl) rfl plain (by kernel_rfl)
#print axioms cardUpto
end Go.Proofs.YtebnjolkolobhaaGreatDoor.numPlaces
namespace Go.Proofs.YtebnjolkolobhaaGreatDoor
theorem numPlacesUpto_holds : Rows.NumPlacesUptoCardSaid := numPlaces.cardUpto
#print axioms numPlacesUpto_holds
end Go.Proofs.YtebnjolkolobhaaGreatDoor
