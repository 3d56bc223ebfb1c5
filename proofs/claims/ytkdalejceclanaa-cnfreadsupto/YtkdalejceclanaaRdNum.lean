/-
  Package words: Number.
-/
import Derived.Test.YtkdalejceclanaaRdWord2
import Derived.Lib.Strings
namespace Go.Proofs.Ytkdalejceclanaa
open Go.RowKit
set_option linter.unusedVariables false
theorem toL (s : ByteArray) : s.toList = s.data.toList := ByteArray.toList_eq s
/-- A text that is another one: in the forms that the walk asks. -/
theorem sno {S : ByteArray} {u v : List UInt8} (hs : S.data.toList = u) (h : u ≠ v) : (S.toList == v) = false ∧ ¬ S.toList = v ∧ ¬ S.data.toList = v ∧ ¬ S = ⟨v.toArray⟩ ∧ (S.toList != v) = true := by
  have h3 : ¬ S.data.toList = v := by rw [hs]; exact h
  have h2 : ¬ S.toList = v := by rw [toL]; exact h3
  refine ⟨by simpa using h2, h2, h3, ?_, by simpa using h2⟩
  rintro rfl
  exact h3 (by simp)
theorem sempty {S : ByteArray} (h : S.size ≠ 0) : S.toList.isEmpty = false ∧ S.data.toList.isEmpty = false := by
  have e : S.data.toList ≠ [] := by
    intro e
    apply h
    rw [← ByteArray.size_data, ← Array.length_toList, e]
    rfl
  constructor
  · rw [toL]; simpa using e
  · simpa using e
theorem sis {S : ByteArray} {v : List UInt8} (hs : S.data.toList = v) : S = ⟨v.toArray⟩ := by
  cases S with
  | mk data => simp at hs; rw [← hs]
theorem num_no {l : List UInt8} {k : Nat} (hk : k < l.length) (h : RD.dig (l.getD k 0) = false) : RD.num l = false := by
  unfold RD.num
  have : l.all RD.dig = false := List.all_eq_false.2 ⟨l[k], List.getElem_mem hk, by rw [List.getD_eq_getElem?_getD, List.getElem?_eq_getElem hk] at h; simpa using h⟩
  rw [this, Bool.and_false]
theorem num_yes {l : List UInt8} (h0 : l ≠ []) (h1 : ¬ (l.getD 0 0 = 48 ∧ 1 < l.length)) (h : ∀ k, k < l.length → RD.dig (l.getD k 0) = true) : RD.num l = true := by
  unfold RD.num
  have a : l.all RD.dig = true := List.all_eq_true.2 fun x hx => by
    obtain ⟨k, hk, rfl⟩ := List.getElem_of_mem hx
    have := h k hk
    rw [List.getD_eq_getElem?_getD, List.getElem?_eq_getElem hk] at this
    exact this
  have b : (l.getD 0 0 == 48 && decide (1 < l.length)) = false := by
    by_cases e : l.getD 0 0 = 48
    · rw [decide_eq_false (fun c => h1 ⟨e, c⟩), Bool.and_false]
    · rw [show (l.getD 0 0 == 48) = false by simpa using e, Bool.false_and]
  rw [a, b]
  cases l with
  | nil => exact absurd rfl h0
  | cons _ _ => rfl
theorem num_zero {l : List UInt8} (h : l.getD 0 0 = 48) (h1 : 1 < l.length) : RD.num l = false := by
  unfold RD.num
  rw [h, decide_eq_true h1]
  simp
theorem w64 (x : Int) (h0 : -9223372036854775808 ≤ x) (h1 : x ≤ 9223372036854775807) : wrap64 x = x := by
  simp only [wrap64]; omega
/-- What Number answers. -/
def numV (l : List UInt8) : Value := .tuple #[.int .i64 ((if RD.num l then min (RD.val l) RD.top else 0 : Nat) : Int), .bool (RD.num l)]
theorem numV_no {l : List UInt8} (h : RD.num l = false) : numV l = .tuple #[.int .i64 0, .bool false] := by unfold numV; rw [h]; rfl
theorem numV_yes {l : List UInt8} (h : RD.num l = true) : numV l = .tuple #[.int .i64 ((min (RD.val l) RD.top : Nat) : Int), .bool true] := by unfold numV; rw [h]; rfl
theorem min_top (v : Nat) : min v RD.top ≤ 9223372036854775807 := Nat.min_le_right _ _
set_option maxRecDepth 100000 in
set_option maxHeartbeats 8000000 in
theorem number_calls (w : World) (s : ByteArray) (l : List UInt8) (hs : s.data.toList = l) (hl : l.length ≤ 140737488355328) :
    Calls Try.prog 79 #[.string s] w fun e w' => e = .returned (numV l) ∧ w' = w := by
  have hz := hide (size_of s l hs)
  have HL := hide hs
  by_cases h0 : l = []
  · have E := hide (numV_no (l := l) (by rw [h0]; rfl))
    obtain rfl := sis (hs.trans h0)
    clear hs hz HL h0
    go_enter Try.func79, Try.ntmps79
    go_wp2
    go_ret2
    exact ⟨by rw [E.out]; rfl, rfl⟩
  · obtain ⟨e1, e2, e3, e4, e5⟩ := sno hs h0
    have hpos : 0 < l.length := List.length_pos_iff.2 h0
    have hs0 : 0 < s.size := by have := hz.out; omega
    obtain ⟨e6, e7⟩ := sempty (S := s) (by omega)
    have hb := byteAt s l HL.out 0 hs0
    have zz : (s.size : Int) = (l.length : Int) := by have := hz.out; omega
    have NZ := hide (fun (h : l.getD 0 0 = 48) (h1 : 1 < l.length) => numV_no (num_zero h h1))
    have NY := hide (fun (h1 : ¬ (l.getD 0 0 = 48 ∧ 1 < l.length)) (h : ∀ k, k < l.length → RD.dig (l.getD k 0) = true) => num_yes h0 h1 h)
    have NN := hide (fun k (hk : k < l.length) (h : RD.dig (l.getD k 0) = false) => numV_no (num_no hk h))
    have NV := hide (fun (h : RD.num l = true) => numV_yes h)
    generalize numV l = R at *
    have k00 : (0 : Int) < (l.length : Int) := by omega
    clear h0 hs
    by_cases c1 : l.getD 0 0 = 48 ∧ 1 < l.length
    · have E := hide (NZ.out c1.1 c1.2)
      have t1 : (((l.getD 0 0).toNat : Int) == 48) = true := by rw [c1.1]; rfl
      have t2 : decide ((1 : Int) < (l.length : Int)) = true := decide_eq_true (by omega)
      have t3 : (1 : Int) < (l.length : Int) := by omega
      generalize l.getD 0 0 = b0 at *
      clear c1 NZ NY NN NV
      go_enter Try.func79, Try.ntmps79
      go_wp2
      go_ret2
      exact ⟨by rw [E.out]; rfl, rfl⟩
    · have c2 := hide c1
      obtain ⟨b0, hb0⟩ : ∃ b0, l.getD 0 0 = b0 := ⟨_, rfl⟩
      rw [hb0] at hb
      go_enter Try.func79, Try.ntmps79
      go_upto_region 1 with fail
      go_cut [18] (fun x wx => x = .bool false ∧ wx = w)
      case first =>
        rw [hb0] at c1
        clear NZ NY NN NV
        by_cases q : b0 = 48
        · have t1 : ((b0.toNat : Int) == 48) = true := by rw [q]; rfl
          have t2 : decide ((1 : Int) < (l.length : Int)) = false := decide_eq_false (fun h => c1 ⟨q, by omega⟩)
          clear c1 q
          go_wp2
          go_meet
          exact ⟨rfl, rfl⟩
        · have t1 : ((b0.toNat : Int) == 48) = false := u8_ne q
          clear c1 q
          go_wp2
          go_meet
          exact ⟨rfl, rfl⟩
      case rest =>
        obtain ⟨rfl, rfl⟩ := hcut
        clear e1 e2 e3 e4 e5 e6 e7 hb hb0 c1 NZ
        go_wp2_with fail
        go_loop [4, 21] (fun x y => ∃ k : Nat, x = .int .i64 ((min (RD.val (l.take k)) RD.top : Nat) : Int) ∧ y = .int .i64 (k : Int) ∧ k ≤ l.length ∧ Hid (∀ q, q < k → RD.dig (l.getD q 0) = true)) (fun _ y => l.length - (intOf y).toNat)
        case atStart => exact ⟨0, rfl, rfl, Nat.zero_le _, fun q hq => absurd hq (Nat.not_lt_zero _)⟩
        case round =>
          obtain ⟨k, rfl, rfl, hk, HD⟩ := hrel
          by_cases hlt : k < l.length
          · have hks : k < s.size := by have := hz.out; omega
            have hb := byteAt s l HL.out k hks
            have VS := hide (RD.val_next hlt)
            have NO := hide (fun h => NN.out k hlt h)
            have DS : Hid (RD.dig (l.getD k 0) = true → ∀ q, q < k + 1 → RD.dig (l.getD q 0) = true) := fun h q hq => by
              rcases Nat.lt_or_ge q k with c | c
              · exact HD.out q c
              · obtain rfl : q = k := by omega
                exact h
            have k0 : (0 : Int) ≤ (k : Int) := by omega
            have k1 : (k : Int) < (l.length : Int) := by omega
            have k3 : (k : Int) < (s.size : Int) := by omega
            generalize l.getD k 0 = b at *
            have hbb : b.toNat < 256 := UInt8.toNat_lt _
            have DD : Hid (RD.dig b = decide (48 ≤ b.toNat ∧ b.toNat ≤ 57)) := rfl
            have SS := hide (RD.sat_step (RD.val (l.take k)) (b.toNat - 48))
            have mt := min_top (RD.val (l.take k))
            generalize min (RD.val (l.take k)) RD.top = v at *
            obtain ⟨n, hn⟩ : ∃ n, b.toNat = n := ⟨_, rfl⟩
            rw [hn] at hbb DD SS VS
            have w0 : wrap64 (b.toNat : Int) = (n : Int) := by rw [hn]; exact w64 _ (by omega) (by omega)
            have w1 : wrap64 ((n : Int) - 48) = (n : Int) - 48 := w64 _ (by omega) (by omega)
            clear hn
            by_cases d1 : n < 48
            · have E := hide (NO.out (DD.out.trans (decide_eq_false (by omega))))
              have t1 : decide ((n : Int) - 48 < 0) = true := decide_eq_true (by omega)
              clear NO DS SS VS HD DD
              go_wp2_with fail
              go_ret2
              exact ⟨by rw [E.out]; rfl, rfl⟩
            · by_cases d2 : 57 < n
              · have E := hide (NO.out (DD.out.trans (decide_eq_false (by omega))))
                have t1 : decide ((n : Int) - 48 < 0) = false := decide_eq_false (by omega)
                have t2 : decide (9 < (n : Int) - 48) = true := decide_eq_true (by omega)
                clear NO DS SS VS HD DD
                go_wp2_with fail
                go_ret2
                exact ⟨by rw [E.out]; rfl, rfl⟩
              · have D1 := hide (DS.out (DD.out.trans (decide_eq_true (by omega))))
                have t1 : decide ((n : Int) - 48 < 0) = false := decide_eq_false (by omega)
                have t2 : decide (9 < (n : Int) - 48) = false := decide_eq_false (by omega)
                have S1 := SS.out (by omega)
                rw [← VS.out] at S1
                have e : ((9223372036854775807 - (n - 48)) / 10 : Nat) = (9223372036854775807 - (n - 48)) / 10 := rfl
                obtain ⟨lim, hlim⟩ : ∃ lim : Nat, (RD.top - (n - 48)) / 10 = lim := ⟨_, rfl⟩
                rw [hlim] at S1
                have w2 : wrap64 (9223372036854775807 - ((n : Int) - 48)) = 9223372036854775807 - ((n : Int) - 48) := w64 _ (by omega) (by omega)
                have w3 : (9223372036854775807 - ((n : Int) - 48)).tdiv 10 = (lim : Int) := by
                  rw [Int.tdiv_eq_ediv_of_nonneg (by omega)]
                  unfold RD.top at hlim
                  omega
                have hlm : 10 * lim + (n - 48) ≤ 9223372036854775807 := by unfold RD.top at hlim; omega
                clear NO DS SS VS HD DD hlim e
                by_cases g : lim < v
                · rw [if_pos g] at S1
                  replace S1 := hide S1
                  have g2 : (lim : Int) < (v : Int) := by omega
                  go_wp2_with fail
                  go_round
                  case rel => exact ⟨k + 1, by rw [S1.out]; rfl, by go_num, by omega, D1⟩
                  case measure => simp [intOf]; omega
                · rw [if_neg g] at S1
                  replace S1 := hide S1
                  have g2 : ¬ (lim : Int) < (v : Int) := by omega
                  have w4 : wrap64 (10 * (v : Int)) = 10 * (v : Int) := w64 _ (by omega) (by omega)
                  have w5 : wrap64 (10 * (v : Int) + ((n : Int) - 48)) = ((10 * v + (n - 48) : Nat) : Int) := by rw [w64 _ (by omega) (by omega)]; omega
                  go_wp2_with fail
                  go_round
                  case rel => exact ⟨k + 1, by rw [S1.out]; exact congrArg (Value.int .i64) (by omega), by go_num, by omega, D1⟩
                  case measure => simp [intOf]; omega
          · obtain rfl : k = l.length := by omega
            have E := hide (NV.out (NY.out c2.out HD.out))
            have hk' : l.take l.length = l := List.take_length
            rw [hk']
            clear hlt hk HD hk' NY NN NV
            go_wp2
            go_ret2
            exact ⟨by rw [E.out]; rfl, rfl⟩
end Go.Proofs.Ytkdalejceclanaa
