/-
  NumNearest's own helpers: slash, under, size, within.
-/
import Derived.Test.YtebnjolkolobhaaGreatDoorSimTF
import Derived.Test.YtebnjolkolobhaaGreatDoorFieldAF
/- ==== NearLaw ==== -/
namespace Go.Proofs.YtebnjolkolobhaaGreatDoor
open Go.RowKit
set_option linter.unusedVariables false
theorem extract_n {s : ByteArray} {l : List UInt8} (hs : s.data.toList = l) (a b : Nat) : (s.extract a b).data.toList = (l.take b).drop a := by
  subst hs
  simp [ByteArray.data_extract, List.drop_take]
theorem strN {s : ByteArray} {l : List UInt8} (h : s.data.toList = l) : s = ⟨l.toArray⟩ := by
  subst h
  rfl
set_option maxRecDepth 100000 in
set_option maxHeartbeats 4000000 in
theorem slash_calls (w : World) (s : ByteArray) (l : List UInt8) (hs : s.data.toList = l) (hlen : l.length ≤ 1099511627776) (j : Nat) (hj : j ≤ l.length) (hno : ∀ i, i < j → (l.getD i 0).toNat ≠ 47) (hat : j < l.length → (l.getD j 0).toNat = 47) :
    Calls Tryz.prog 49 #[.string s] w fun e w' => e = .returned (.int .i64 (if j < l.length then (j : Int) else -1)) ∧ w' = w := by
  obtain ⟨R, hR⟩ : ∃ R : Int, (if j < l.length then (j : Int) else -1) = R := ⟨_, rfl⟩
  rw [hR]
  have HR := hide hR
  clear hR
  have hz := size_of s l hs
  have HL := hide hs
  have HNO := hide hno
  have HAT := hide hat
  clear hs hno hat
  go_enter Tryz.func49, Tryz.ntmps49
  go_wp2
  go_loopw [3] (fun i wr => ∃ q : Nat, q ≤ j ∧ i = .int .i64 q ∧ wr = w) (fun i _ => l.length - (intOf i).toNat)
  case atStart => exact ⟨0, Nat.zero_le _, rfl, rfl⟩
  case round =>
    obtain ⟨q, hq, rfl, hw⟩ := hrel
    subst hw
    by_cases hlt : q < l.length
    · have hqs : q < s.size := by omega
      have hb := byteAt s l HL.out q hqs
      have hbb : (l.getD q 0).toNat < 256 := UInt8.toNat_lt _
      by_cases hqj : q < j
      · have hne := HNO.out q hqj
        generalize l.getD q 0 = b at *
        clear HNO HAT
        go_wp2
        go_roundw
        case rel => exact ⟨q + 1, by omega, by simp, trivial⟩
        case measure => simp [intOf]; omega
      · obtain rfl : q = j := by omega
        have he := HAT.out hlt
        have fin : Hid ((q : Int) = R) := by show _ = _; rw [← HR.out, if_pos hlt]
        generalize l.getD q 0 = b at *
        clear HNO HAT HR
        go_wp2
        go_ret
        exact ⟨congrArg (fun x => Ending.returned (.int .i64 x)) fin.out, rfl⟩
    · have hnl : ¬ j < l.length := by omega
      have fin : Hid ((-1 : Int) = R) := by show _ = _; rw [← HR.out, if_neg hnl]
      clear HR
      have hnq : ¬ (q < s.size) := by omega
      go_wp2
      go_ret
      exact ⟨congrArg (fun x => Ending.returned (.int .i64 x)) fin.out, rfl⟩
theorem qT_int (d : Nat) (hd : 0 < d) : qT (mkRat (d : Int) 1) = Lib.decDigits d := by
  have e := text_q false (n := d) (d := 1) (Nat.gcd_one_right _) hd Nat.one_pos
  rw [if_pos rfl, ratText_whole _ _ _ rfl] at e
  exact e.symm
theorem getD_app {u v : List UInt8} {i : Nat} (h : i < u.length) : (u ++ v).getD i 0 = u.getD i 0 := by
  rw [List.getD_eq_getElem?_getD, List.getElem?_append_left h, ← List.getD_eq_getElem?_getD]
theorem getD_at (u v : List UInt8) (x : UInt8) : (u ++ x :: v).getD u.length 0 = x := by
  rw [List.getD_eq_getElem?_getD, List.getElem?_append_right (Nat.le_refl _)]
  simp
/-- A canonical text's parts, as the law looks for them. -/
theorem qT_split (q : Rat) : ∃ P : List UInt8, (∀ i, i < P.length → (P.getD i 0).toNat ≠ 47) ∧ qT q = P ++ (if q.den = 1 then [] else 47 :: Lib.decDigits q.den) := by
  refine ⟨(if decide (q.num < 0) then [45] else []) ++ Lib.decDigits q.num.natAbs, fun i hi => ?_, ?_⟩
  · have hd := M.Digs.decDigits q.num.natAbs
    have all : ∀ b ∈ (if decide (q.num < 0) then [45] else []) ++ Lib.decDigits q.num.natAbs, b.toNat ≠ 47 := by
      intro b hb
      rw [List.mem_append] at hb
      rcases hb with h | h
      · split at h
        · rw [List.mem_singleton] at h
          subst h
          decide
        · cases h
      · have := hd b h
        omega
    rw [List.getD_eq_getElem?_getD, List.getElem?_eq_getElem hi]
    exact all _ (List.getElem_mem hi)
  · have e := rText_ctext (decide (q.num < 0)) q.num.natAbs q.den q.den_pos
    show rText _ _ _ = _
    rw [e]
    unfold ctext
    rw [← List.append_assoc]
    congr 1
    by_cases h : q.den = 1
    · rw [decide_eq_false (by simpa using h), if_pos h]; rfl
    · rw [decide_eq_true (by simpa using h), if_neg h]; rfl
set_option maxRecDepth 100000 in
set_option maxHeartbeats 4000000 in
theorem under_t (w : World) (s : ByteArray) (q : Rat) (hs : s = tB q) (hz : s.size ≤ 1073741824) :
    Calls Tryz.prog 18 #[.string s] w fun e w' => e = .returned (.string (tB (mkRat (q.den : Int) 1))) ∧ w' = w := by
  obtain ⟨P, hP, hq⟩ := qT_split q
  have hl : s.data.toList = P ++ (if q.den = 1 then [] else 47 :: Lib.decDigits q.den) := by rw [hs, tB_list, hq]
  have hU : tB (mkRat (q.den : Int) 1) = ⟨(Lib.decDigits q.den).toArray⟩ := by unfold tB; rw [qT_int _ q.den_pos]
  rw [hU]
  have hsz := size_of s _ hl
  clear hq hs hU
  by_cases h1 : q.den = 1
  · rw [if_pos h1, List.append_nil] at hl hsz
    rw [h1]
    have c := hide (fun W => slash_calls W s P hl (by omega) P.length (Nat.le_refl _) hP (fun h => absurd h (Nat.lt_irrefl _)))
    rw [if_neg (Nat.lt_irrefl _)] at c
    clear hl hP h1 hsz
    go_enter Tryz.func18, Tryz.ntmps18
    go_wp2_with (go_at_call 49; refine (c.out _).mono ?_; rintro e w1 ⟨rfl, hw⟩; replace hw := hw.symm; subst hw)
    go_ret
    exact ⟨congrArg (fun b => Ending.returned (.string b)) (by decide +kernel), rfl⟩
  · rw [if_neg h1] at hl hsz
    have hlt : P.length < (P ++ 47 :: Lib.decDigits q.den).length := by rw [List.length_append, List.length_cons]; omega
    have c := hide (fun W => slash_calls W s _ hl (by omega) P.length (Nat.le_of_lt hlt) (fun i hi => by rw [getD_app hi]; exact hP i hi) (fun _ => by rw [getD_at]; rfl))
    rw [if_pos hlt] at c
    obtain ⟨j, hj⟩ : ∃ j, P.length = j := ⟨_, rfl⟩
    have hjs : j + 1 ≤ s.size := by rw [hsz, ← hj]; omega
    obtain ⟨U, hUe⟩ : ∃ U, s.extract (j + 1) s.size = U := ⟨_, rfl⟩
    have hUl : U.data.toList = Lib.decDigits q.den := by
      rw [← hUe, extract_n hl, hsz, List.take_length, ← hj]
      rw [List.drop_append, List.drop_eq_nil_of_le (by omega), Nat.add_sub_cancel_left]
      rfl
    have s1 := fun W => run_from s s.size (j + 1) ((j : Int) + 1) rfl (by omega) (by omega) (by omega) W
    rw [hUe] at s1
    rw [hj] at c
    have hU2 : U = ⟨(Lib.decDigits q.den).toArray⟩ := strN hUl
    rw [← hU2]
    clear hl hP h1 hlt hUe hUl hU2 hj hsz
    go_enter Tryz.func18, Tryz.ntmps18
    go_wp2_with (go_at_call 49; refine (c.out _).mono ?_; rintro e w1 ⟨rfl, hw⟩; replace hw := hw.symm; subst hw)
    go_ret
    exact ⟨rfl, rfl⟩
/-- A number's size. -/
def absQ (q : Rat) : Rat := mkRat (q.num.natAbs : Int) q.den
theorem qT_abs (q : Rat) : qT q = (if q.num < 0 then [45] else []) ++ qT (absQ q) := by
  have hg : Nat.gcd q.num.natAbs q.den = 1 := q.reduced
  obtain ⟨e1, e2⟩ := mk_cop hg q.den_pos
  have ea := rText_ctext (decide (q.num < 0)) q.num.natAbs q.den q.den_pos
  have eb := rText_ctext false q.num.natAbs q.den q.den_pos
  have e3 : qT (absQ q) = rText false q.num.natAbs q.den := by
    show rText (decide ((mkRat (q.num.natAbs : Int) q.den).num < 0)) (mkRat (q.num.natAbs : Int) q.den).num.natAbs (mkRat (q.num.natAbs : Int) q.den).den = _
    rw [e1, e2, Int.natAbs_natCast, decide_eq_false (by omega)]
  rw [e3, eb]
  show rText _ _ _ = _
  rw [ea]
  unfold ctext
  by_cases h : q.num < 0
  · rw [decide_eq_true h, if_pos h]; rfl
  · rw [decide_eq_false h, if_neg h]; rfl
theorem qT_head (q : Rat) (h : ¬ q.num < 0) : ∃ b t, qT q = b :: t ∧ b.toNat ≠ 45 := by
  have e := rText_ctext (decide (q.num < 0)) q.num.natAbs q.den q.den_pos
  have e2 : qT q = Lib.decDigits q.num.natAbs ++ (if decide (q.den ≠ 1) then 47 :: Lib.decDigits q.den else []) := by
    show rText _ _ _ = _
    rw [e]
    unfold ctext
    rw [decide_eq_false h]
    rfl
  obtain ⟨b, l, hb⟩ := List.exists_cons_of_ne_nil (M.decDigits_ne q.num.natAbs)
  rw [hb] at e2
  refine ⟨b, _, e2, ?_⟩
  have := M.Digs.decDigits q.num.natAbs b (by rw [hb]; exact List.mem_cons_self)
  omega
set_option maxRecDepth 100000 in
set_option maxHeartbeats 4000000 in
theorem size_t (w : World) (s : ByteArray) (q : Rat) (hs : s = tB q) (hz : s.size ≤ 1073741824) :
    Calls Tryz.prog 19 #[.string s] w fun e w' => e = .returned (.string (tB (absQ q))) ∧ w' = w := by
  have hl : s.data.toList = qT q := by rw [hs, tB_list]
  have hsz := size_of s _ hl
  by_cases h : q.num < 0
  · have e := qT_abs q
    rw [if_pos h] at e
    rw [e] at hl hsz
    have h0 : 0 < s.size := by rw [hsz]; simp
    have hb := byteAt s _ hl 0 h0
    have e0 : ([45] ++ qT (absQ q)).getD 0 0 = 45 := rfl
    rw [e0] at hb
    obtain ⟨U, hUe⟩ : ∃ U, s.extract 1 s.size = U := ⟨_, rfl⟩
    have hUl : U.data.toList = qT (absQ q) := by
      rw [← hUe, extract_n hl, hsz, List.take_length]
      rfl
    have s1 := fun W => run_from s s.size 1 1 rfl (by decide) (by omega) rfl W
    rw [hUe] at s1
    have hU2 : U = tB (absQ q) := strN hUl
    rw [← hU2]
    clear hs hl hsz e e0 hUe hUl hU2 h
    go_enter Tryz.func19, Tryz.ntmps19
    go_wp2
    go_ret
    exact ⟨rfl, rfl⟩
  · have e := qT_abs q
    rw [if_neg h, List.nil_append] at e
    obtain ⟨b, t, hq, hb45⟩ := qT_head q h
    rw [hq] at hl hsz
    have h0 : 0 < s.size := by rw [hsz]; simp
    have hb := byteAt s _ hl 0 h0
    have e0 : (b :: t).getD 0 0 = b := rfl
    rw [e0] at hb
    have eT : tB (absQ q) = s := by rw [hs]; unfold tB; rw [e]
    rw [eT]
    clear hs hl hsz e e0 h hq eT
    go_enter Tryz.func19, Tryz.ntmps19
    go_wp2
    go_ret
    exact ⟨rfl, rfl⟩
end Go.Proofs.YtebnjolkolobhaaGreatDoor
