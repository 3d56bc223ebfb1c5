/- Laid together of: ReadMath, Read. -/
import Derived.Test.YtebnjolkolobhaaGreatDoorAll8
import Derived.Test.YtebnjolkolobhaaGreatDoorRefB
/- ==== ReadMath ==== -/
namespace Go.Proofs.YtebnjolkolobhaaGreatDoor
open Go.RowKit
set_option linter.unusedVariables false
/-- A numeral without zeros ahead. -/
abbrev Lit (u : List UInt8) : Prop := Good u ∧ (u.length = 1 ∨ u.getD 0 0 ≠ 48)
/-- What Read answers, of the parts of a text: ahead of the point, behind it, is there a point. -/
def readParts (u t : List UInt8) (b : Bool) : List UInt8 × Int :=
  if Lit u ∧ (b = true → Good t) then (lowText false (M.dec (u ++ t) / Nat.gcd (M.dec (u ++ t)) (10 ^ t.length)) (10 ^ t.length / Nat.gcd (M.dec (u ++ t)) (10 ^ t.length)), 0) else ([], 1)
def readText (l : List UInt8) : List UInt8 × Int := readParts (Lib.cut l [46]).1 (Lib.cut l [46]).2.1 (Lib.cut l [46]).2.2
theorem indexc_at (c : UInt8) (t : List UInt8) (i : Nat) (h : ∀ j, j < i → t.getD j 0 ≠ c) (hi : i < t.length) (hb : t.getD i 0 = c) : Lib.index t [c] = (i : Int) := by
  induction t generalizing i with
  | nil => simp at hi
  | cons b l ih =>
    rw [Lib.index]
    cases i with
    | zero =>
      simp at hb
      subst hb
      simp [List.isPrefixOf]
    | succ i =>
      have hb0 : b ≠ c := by simpa using h 0 (by omega)
      have h2 := ih i (fun j hj => by have := h (j + 1) (by omega); simpa using this) (by simpa using hi) (by simpa using hb)
      rw [h2]
      have e1 : ([c] : List UInt8).isPrefixOf (b :: l) = false := by simp [List.isPrefixOf]; exact fun e => hb0 e.symm
      rw [e1]
      have e2 : ((i : Int) == -1) = false := by simp
      simp [e2]
theorem indexc_none (c : UInt8) (t : List UInt8) (h : ∀ j, j < t.length → t.getD j 0 ≠ c) : Lib.index t [c] = -1 := by
  induction t with
  | nil => rfl
  | cons b l ih =>
    rw [Lib.index]
    have hb0 : b ≠ c := by simpa using h 0 (by simp)
    have h2 := ih (fun j hj => by have := h (j + 1) (by simpa using hj); simpa using this)
    have e1 : ([c] : List UInt8).isPrefixOf (b :: l) = false := by simp [List.isPrefixOf]; exact fun e => hb0 e.symm
    rw [h2, e1]
    rfl
theorem cutp_at (t : List UInt8) (i : Nat) (h : ∀ j, j < i → t.getD j 0 ≠ 46) (hi : i < t.length) (hb : t.getD i 0 = 46) : Lib.cut t [46] = (t.take i, t.drop (i + 1), true) := by
  unfold Lib.cut
  rw [indexc_at 46 t i h hi hb, if_pos (by omega)]
  rfl
theorem cutp_none (t : List UInt8) (h : ∀ j, j < t.length → t.getD j 0 ≠ 46) : Lib.cut t [46] = (t, [], false) := by
  unfold Lib.cut
  rw [indexc_none 46 t h, if_neg (by decide)]
theorem cutp_len (l : List UInt8) : (Lib.cut l [46]).1.length + (Lib.cut l [46]).2.1.length ≤ l.length := by
  unfold Lib.cut
  split
  · rw [List.length_take, List.length_drop]
    simp
    omega
  · simp
/-- Without a point nothing lies behind it. -/
theorem cutp_nil (l : List UInt8) (h : (Lib.cut l [46]).2.2 = false) : (Lib.cut l [46]).2.1 = [] := by
  unfold Lib.cut at h ⊢
  split
  · rename_i h2
    rw [if_pos h2] at h
    simp at h
  · rfl
theorem digs_app {u t : List UInt8} (h1 : M.Digs u) (h2 : M.Digs t) : M.Digs (u ++ t) := fun b hb => by
  rcases List.mem_append.1 hb with h | h
  · exact h1 b h
  · exact h2 b h
theorem read_no {u t : List UInt8} {b : Bool} (h : ¬ (Lit u ∧ (b = true → Good t))) : readParts u t b = ([], 1) := by
  unfold readParts
  rw [if_neg h]
theorem read_yes {u t : List UInt8} {b : Bool} (h : Lit u ∧ (b = true → Good t)) : readParts u t b = (lowText false (M.dec (u ++ t) / Nat.gcd (M.dec (u ++ t)) (10 ^ t.length)) (10 ^ t.length / Nat.gcd (M.dec (u ++ t)) (10 ^ t.length)), 0) := by
  unfold readParts
  rw [if_pos h]
theorem ten_bb (k K : Nat) (h : k < K) : ((10 ^ k : Nat) : Int) < M.BB ^ K := by
  have h1 : 10 ^ k ≤ 18446744073709551616 ^ k := Nat.pow_le_pow_left (by decide) _
  have h2 : (18446744073709551616 : Nat) ^ k < 18446744073709551616 ^ K := Nat.pow_lt_pow_right (by decide) h
  have h3 : M.BB ^ K = ((18446744073709551616 ^ K : Nat) : Int) := by rw [Int.natCast_pow]; rfl
  rw [h3]
  exact_mod_cast Nat.lt_of_le_of_lt h1 h2
theorem one_cell (w : World) (x : Value) (t : TypeId) : (w.alloc (.cells #[x] t)).cell? ⟨w.heap.size, 0, none⟩ = some x := by
  have h := heap_alloc_new w (.cells #[x] t)
  rw [cell_of_row _ w.heap.size 0 _ _ (0, 0) h]
  rfl
theorem digits_one (w : World) (a : ByteArray) (la : List UInt8) (ha : a.data.toList = la) (za : a.size ≤ 1099511627776) :
    Calls Tryz.prog 66 #[.slice (some ⟨w.heap.size, 0, none⟩) 1 1] (w.alloc (.cells #[.string a] 9)) fun e w' => e = .returned (.bool (decide (Good la))) ∧ w' = (w.alloc (.cells #[.string a] 9)) := by
  have c0 := one_cell w (.string a) 9
  have h := digits_num (w.alloc (.cells #[.string a] 9)) w.heap.size 1 [a] (fun j hj => by
    match j, hj with
    | 0, _ => exact c0
    | j + 1, hj => exact absurd hj (by simp)) (by simp) (fun t ht => by simp at ht; rw [ht]; exact za)
  have e : decide (∀ t, t ∈ [a] → Good t.data.toList) = decide (Good la) := by
    refine decide_eq_decide.2 ?_
    constructor
    · intro h
      rw [← ha]
      exact h a (by simp)
    · intro h1 t ht
      simp at ht
      rw [ht, ha]
      exact h1
  rw [e] at h
  exact h
end Go.Proofs.YtebnjolkolobhaaGreatDoor
/- ==== Read ==== -/
namespace Go.Proofs.YtebnjolkolobhaaGreatDoor
open Go.RowKit
set_option linter.unusedVariables false
set_option maxRecDepth 100000 in
set_option maxHeartbeats 4000000 in
theorem read_bad_u (w : World) (s : ByteArray) (l u t : List UInt8) (b : Bool) (hs : s.data.toList = l) (hl : l.length ≤ 1073741824) (m : Int) (hM : w.cell? ⟨0, 0, none⟩ = some (.int .i64 m))
    (hc : Lib.cut l [46] = (u, t, b)) (hG : ¬ Good u) :
    Calls Tryz.prog 24 #[.string s] w fun e w' => e = .returned (.tuple #[.string ⟨#[]⟩, .int .i64 1]) ∧ Below w.heap.size w w' := by
  have hcl := cutp_len l
  have hsz := size_of s l hs
  have q2 := hide (Tryz.strings_Cut s ⟨#[46]⟩ m w (by omega) hM)
  rw [hs, show (ByteArray.mk #[46]).data.toList = [46] from rfl, hc] at q2
  rw [hc] at hcl
  simp only at hcl
  have hus : (ByteArray.mk u.toArray).data.toList = u := by simp
  have hts : (ByteArray.mk t.toArray).data.toList = t := by simp
  simp only at q2
  generalize ByteArray.mk u.toArray = SU at *
  generalize ByteArray.mk t.toArray = ST at *
  have huz := size_of SU u hus
  have htz := size_of ST t hts
  go_enter Tryz.func24, Tryz.ntmps24
  go_wp2_with fail
  refine q2.out.mono ?_
  rintro e w1 ⟨rfl, nd, hw1⟩
  have B1 : Below w.heap.size w w1 := by rw [hw1]; exact drewN_below w nd
  clear hw1 q2
  have q3 := hide (digits_one w1 SU u hus (by omega))
  rw [decide_eq_false hG] at q3
  have B2 := B1.then_below (alloc_below w1 (.cells #[.string SU] 9))
  go_wp2_with fail
  refine q3.out.mono ?_
  rintro e w2 ⟨rfl, hw2⟩
  rw [← hw2] at B2
  clear hw2 q3
  go_wp2
  refine bodyPost_ret (v := .tuple #[.string ⟨#[]⟩, .int .i64 1]) (by simp [results, Tryz.results24, go_sem]) rfl ?_
  exact ⟨rfl, B2⟩
set_option maxRecDepth 100000 in
set_option maxHeartbeats 4000000 in
theorem read_bad_0 (w : World) (s : ByteArray) (l u t : List UInt8) (b : Bool) (hs : s.data.toList = l) (hl : l.length ≤ 1073741824) (m : Int) (hM : w.cell? ⟨0, 0, none⟩ = some (.int .i64 m))
    (hc : Lib.cut l [46] = (u, t, b)) (hG : Good u) (h0 : u.getD 0 0 = 48) (h1 : 1 < u.length) :
    Calls Tryz.prog 24 #[.string s] w fun e w' => e = .returned (.tuple #[.string ⟨#[]⟩, .int .i64 1]) ∧ Below w.heap.size w w' := by
  have hcl := cutp_len l
  have hsz := size_of s l hs
  have q2 := hide (Tryz.strings_Cut s ⟨#[46]⟩ m w (by omega) hM)
  rw [hs, show (ByteArray.mk #[46]).data.toList = [46] from rfl, hc] at q2
  rw [hc] at hcl
  simp only at hcl
  have hus : (ByteArray.mk u.toArray).data.toList = u := by simp
  have hts : (ByteArray.mk t.toArray).data.toList = t := by simp
  simp only at q2
  generalize ByteArray.mk u.toArray = SU at *
  generalize ByteArray.mk t.toArray = ST at *
  have huz := size_of SU u hus
  have htz := size_of ST t hts
  go_enter Tryz.func24, Tryz.ntmps24
  go_wp2_with fail
  refine q2.out.mono ?_
  rintro e w1 ⟨rfl, nd, hw1⟩
  have B1 : Below w.heap.size w w1 := by rw [hw1]; exact drewN_below w nd
  clear hw1 q2
  have q3 := hide (digits_one w1 SU u hus (by omega))
  rw [decide_eq_true hG] at q3
  have B2 := B1.then_below (alloc_below w1 (.cells #[.string SU] 9))
  go_wp2_with fail
  refine q3.out.mono ?_
  rintro e w2 ⟨rfl, hw2⟩
  rw [← hw2] at B2
  clear hw2 q3
  have hb := byteAt SU u hus 0 (by omega)
  rw [h0] at hb
  have hz : 0 < SU.size := by omega
  have h1' : (1 : Int) < (u.length : Int) := by omega
  clear hG h0
  go_wp2
  refine bodyPost_ret (v := .tuple #[.string ⟨#[]⟩, .int .i64 1]) (by simp [results, Tryz.results24, go_sem]) rfl ?_
  exact ⟨rfl, B2⟩
set_option maxRecDepth 100000 in
set_option maxHeartbeats 4000000 in
theorem read_bad_t (w : World) (s : ByteArray) (l u t : List UInt8) (hs : s.data.toList = l) (hl : l.length ≤ 1073741824) (m : Int) (hM : w.cell? ⟨0, 0, none⟩ = some (.int .i64 m))
    (hc : Lib.cut l [46] = (u, t, true)) (hG : Good u) (h0 : u.length = 1 ∨ u.getD 0 0 ≠ 48) (hB : ¬ Good t) :
    Calls Tryz.prog 24 #[.string s] w fun e w' => e = .returned (.tuple #[.string ⟨#[]⟩, .int .i64 1]) ∧ Below w.heap.size w w' := by
  have hcl := cutp_len l
  have hsz := size_of s l hs
  have q2 := hide (Tryz.strings_Cut s ⟨#[46]⟩ m w (by omega) hM)
  rw [hs, show (ByteArray.mk #[46]).data.toList = [46] from rfl, hc] at q2
  rw [hc] at hcl
  simp only at hcl
  have hus : (ByteArray.mk u.toArray).data.toList = u := by simp
  have hts : (ByteArray.mk t.toArray).data.toList = t := by simp
  simp only at q2
  generalize ByteArray.mk u.toArray = SU at *
  generalize ByteArray.mk t.toArray = ST at *
  have huz := size_of SU u hus
  have htz := size_of ST t hts
  go_enter Tryz.func24, Tryz.ntmps24
  go_wp2_with fail
  refine q2.out.mono ?_
  rintro e w1 ⟨rfl, nd, hw1⟩
  have B1 : Below w.heap.size w w1 := by rw [hw1]; exact drewN_below w nd
  clear hw1 q2
  have q3 := hide (digits_one w1 SU u hus (by omega))
  rw [decide_eq_true hG] at q3
  have B2 := B1.then_below (alloc_below w1 (.cells #[.string SU] 9))
  go_wp2_with fail
  refine q3.out.mono ?_
  rintro e w2 ⟨rfl, hw2⟩
  rw [← hw2] at B2
  clear hw2 q3
  have hul : 0 < u.length := List.length_pos_iff.2 hG.1
  have hb := byteAt SU u hus 0 (by omega)
  have hz : 0 < SU.size := by omega
  have q4 := hide (digits_one w2 ST t hts (by omega))
  rw [decide_eq_false hB] at q4
  have B3 := B2.then_below (alloc_below w2 (.cells #[.string ST] 9))
  clear hG hB
  have hb0 : Hid (u.getD 0 0 ≠ 48 → (u.getD 0 0).toNat ≠ 48) := fun h e => h (UInt8.toNat_inj.1 (by simpa using e))
  by_cases h48 : (u.getD 0 0).toNat = 48
  · have h1 : u.length = 1 := h0.resolve_right (fun h => hb0.out h h48)
    clear h0 hb0
    generalize u.getD 0 0 = c at *
    go_wp2_with (go_at_call 66; refine q4.out.mono ?_; rintro e w3 ⟨rfl, hw3⟩; rw [← hw3] at B3; clear hw3 q4)
    refine bodyPost_ret (v := .tuple #[.string ⟨#[]⟩, .int .i64 1]) (by simp [results, Tryz.results24, go_sem]) rfl ?_
    exact ⟨rfl, B3⟩
  · clear h0 hb0
    generalize u.getD 0 0 = c at *
    go_wp2_with (go_at_call 66; refine q4.out.mono ?_; rintro e w3 ⟨rfl, hw3⟩; rw [← hw3] at B3; clear hw3 q4)
    refine bodyPost_ret (v := .tuple #[.string ⟨#[]⟩, .int .i64 1]) (by simp [results, Tryz.results24, go_sem]) rfl ?_
    exact ⟨rfl, B3⟩
set_option maxRecDepth 100000 in
set_option maxHeartbeats 4000000 in
theorem read_good_f0 (w : World) (s : ByteArray) (l u t : List UInt8) (hs : s.data.toList = l) (hl : l.length ≤ 1073741824) (m : Int) (hM : w.cell? ⟨0, 0, none⟩ = some (.int .i64 m)) (hT : Tab w) (hP : Pows w)
    (hc : Lib.cut l [46] = (u, t, false)) (hG : Good u) (h1 : u.length = 1) (h48 : (u.getD 0 0).toNat = 48) (hD : M.Digs t) :
    Calls Tryz.prog 24 #[.string s] w fun e w' => e = .returned (.tuple #[.string ⟨(lowText false (M.dec (u ++ t) / Nat.gcd (M.dec (u ++ t)) (10 ^ t.length)) (10 ^ t.length / Nat.gcd (M.dec (u ++ t)) (10 ^ t.length))).toArray⟩, .int .i64 0]) ∧ Below w.heap.size w w' := by
  have hcl := cutp_len l
  have hsz := size_of s l hs
  have q2 := hide (Tryz.strings_Cut s ⟨#[46]⟩ m w (by omega) hM)
  rw [hs, show (ByteArray.mk #[46]).data.toList = [46] from rfl, hc] at q2
  rw [hc] at hcl
  simp only at hcl
  have hus : (ByteArray.mk u.toArray).data.toList = u := by simp
  have hts : (ByteArray.mk t.toArray).data.toList = t := by simp
  simp only at q2
  generalize ByteArray.mk u.toArray = SU at *
  generalize ByteArray.mk t.toArray = ST at *
  have huz := size_of SU u hus
  have htz := size_of ST t hts
  go_enter Tryz.func24, Tryz.ntmps24
  go_wp2_with fail
  refine q2.out.mono ?_
  rintro e w1 ⟨rfl, nd, hw1⟩
  have B1 : Below w.heap.size w w1 := by rw [hw1]; exact drewN_below w nd
  clear hw1 q2
  have q3 := hide (digits_one w1 SU u hus (by omega))
  rw [decide_eq_true hG] at q3
  have B2 := B1.then_below (alloc_below w1 (.cells #[.string SU] 9))
  go_wp2_with fail
  refine q3.out.mono ?_
  rintro e w2 ⟨rfl, hw2⟩
  rw [← hw2] at B2
  clear hw2 q3
  have hul : 0 < u.length := List.length_pos_iff.2 hG.1
  have hb := byteAt SU u hus 0 (by omega)
  have hz : 0 < SU.size := by omega
  have hcat : Hid ((SU ++ ST).data.toList = u ++ t) := by show _ = _; rw [← hus, ← hts]; simp
  have HU := hide (fun W => parseNat_calls W (SU ++ ST) (u ++ t) hcat.out (digs_app hG.2 hD) (by rw [List.length_append]; omega))
  have bt := ten_bb t.length (l.length + 1) (by omega)
  have bu : ((M.dec (u ++ t) : Nat) : Int) < M.BB ^ (l.length + 1) := dec_bb (digs_app hG.2 hD) (by rw [List.length_append]; omega)
  have bu' : ∀ x, x ≤ M.dec (u ++ t) → ((x : Nat) : Int) < M.BB ^ (l.length + 1) := fun x hx => Int.lt_of_le_of_lt (by exact_mod_cast hx) bu
  have bl' : ∀ x, x ≤ 10 ^ t.length → ((x : Nat) : Int) < M.BB ^ (l.length + 1) := fun x hx => Int.lt_of_le_of_lt (by exact_mod_cast hx) bt
  have K1 := hide (And.intro bu (And.intro bt (And.intro bu' bl')))
  have k10 := hide (ten_bb 1 (l.length + 1) (by omega))
  have hK : l.length + 1 ≤ 54975581388 := by omega
  have hK2 : l.length + 1 ≤ 4398046511104 := by omega
  have h0 : Hid (10 ^ t.length ≠ 0) := Nat.pos_iff_ne_zero.1 (Nat.pow_pos (by decide))
  have TT := hide hT
  have PP := hide hP
  have B2 := hide B2
  clear hD hT hP bu bt bu' bl'
  generalize u.getD 0 0 = c at *
  clear hG
  go_wp2_with (first
    | (go_at_call 53; refine (word_calls _ 10 (by decide)).mono ?_; rintro e wa ⟨rfl, ba⟩; replace ba := hide ba)
    | (go_at_call 55; refine (pow_calls _ _ 10 t.length (l.length + 1) (den_word _ 10 (by decide)) (by decide) (by omega) K1.out.2.1 k10.out hK2).mono ?_; rintro e wb ⟨⟨rb, rfl, hrb⟩, bb⟩; replace bb := hide bb; obtain ⟨y1, y2, y3, y4, rfl⟩ := hrb.shape2; replace hrb := hide hrb; skip))
  have A5 := heap_alloc_new wb (.cells #[.int .u64 y1, .slice y2 y3 y4] 43)
  have D5 := hrb.out.below (alloc_below wb (.cells #[.int .u64 y1, .slice y2 y3 y4] 43))
  have B5 := ((B2.out.then_below ba.out).then_below bb.out).then_below (alloc_below wb (.cells #[.int .u64 y1, .slice y2 y3 y4] 43))
  clear ba bb hrb B2
  generalize wb.alloc (.cells #[.int .u64 y1, .slice y2 y3 y4] 43) = w5 at *
  generalize wb.heap.size = G at *
  obtain ⟨a0, a1, -, -⟩ := box_facts A5
  have S0 : Hid (w5.cell? ⟨G, 0, none⟩ = some (.int .u64 y1) ∧ w5.cell? ⟨G, 1, none⟩ = some (.slice y2 y3 y4) ∧ Below w.heap.size w w5) := ⟨a0, a1, B5⟩
  have D1 : Below w5.heap.size w5 w5.drew := (Below.refl _ _).drew
  have S1 : Hid (w5.drew.cell? ⟨G, 0, none⟩ = some (.int .u64 y1) ∧ w5.drew.cell? ⟨G, 1, none⟩ = some (.slice y2 y3 y4) ∧ Below w.heap.size w w5.drew) := cells2_keep S0.out D1
  have DD := hide (D5.below D1)
  replace TT := hide (TT.out.below S1.out.2.2)
  replace PP := hide (PP.out.below S1.out.2.2)
  clear a0 a1 A5 D5 B5 B1
  have mm : ¬ 9223372036854775807 < SU.size + ST.size := by omega
  clear hb
  clear huz htz
  go_region_held3
    (fun w' => w'.cell? ⟨G, 0, none⟩ = some (.int .u64 y1) ∧ w'.cell? ⟨G, 1, none⟩ = some (.slice y2 y3 y4) ∧ Below w.heap.size w w')
    (first
      | with_reducible exact S0.out
      | with_reducible exact S1.out
      | with_reducible exact cells2_keep S1.out ba
      | with_reducible exact cells2_keep S1.out (ba.then_below bb)
      | with_reducible exact cells2_keep S1.out ((ba.then_below bb).then_below bd))
    (first
      | (go_at_call 68; refine (HU.out _).mono ?_; rintro e wa ⟨⟨ra, rfl, hra⟩, ba⟩)
      | (go_at_call 67; refine (of_calls _ false _ _ (M.dec (u ++ t)) (10 ^ t.length) (l.length + 1) hra (DD.out.below ba) h0.out K1.out.1 K1.out.2.1 hK2 (TT.out.below ba)).mono ?_; rintro e wb ⟨⟨rb, rfl, hrb⟩, bb⟩; obtain ⟨ng, nn, dd, hrb, hnn, hdd, hLow⟩ := Low.text hrb)
      | (go_at_call 41; refine (ratText_calls _ _ ng nn dd (l.length + 1) hrb (K1.out.2.2.1 nn (Nat.le_trans hnn (Nat.div_le_self _ _))) (K1.out.2.2.2 dd (Nat.le_trans hdd (Nat.div_le_self _ _))) hK (PP.out.below (ba.then_below bb))).mono ?_; rintro e wd ⟨rfl, bd⟩))
  go_wp2
  rw [hLow.out]
  refine bodyPost_ret (v := .tuple #[.string ⟨(lowText false (M.dec (u ++ t) / Nat.gcd (M.dec (u ++ t)) (10 ^ t.length)) (10 ^ t.length / Nat.gcd (M.dec (u ++ t)) (10 ^ t.length))).toArray⟩, .int .i64 0]) (by simp [results, Tryz.results24, go_sem]) rfl ?_
  exact ⟨rfl, S1.out.2.2.then_below ((ba.then_below bb).then_below bd)⟩
set_option maxRecDepth 100000 in
set_option maxHeartbeats 4000000 in
theorem read_good_f1 (w : World) (s : ByteArray) (l u t : List UInt8) (hs : s.data.toList = l) (hl : l.length ≤ 1073741824) (m : Int) (hM : w.cell? ⟨0, 0, none⟩ = some (.int .i64 m)) (hT : Tab w) (hP : Pows w)
    (hc : Lib.cut l [46] = (u, t, false)) (hG : Good u) (h48 : ¬ (u.getD 0 0).toNat = 48) (hD : M.Digs t) :
    Calls Tryz.prog 24 #[.string s] w fun e w' => e = .returned (.tuple #[.string ⟨(lowText false (M.dec (u ++ t) / Nat.gcd (M.dec (u ++ t)) (10 ^ t.length)) (10 ^ t.length / Nat.gcd (M.dec (u ++ t)) (10 ^ t.length))).toArray⟩, .int .i64 0]) ∧ Below w.heap.size w w' := by
  have hcl := cutp_len l
  have hsz := size_of s l hs
  have q2 := hide (Tryz.strings_Cut s ⟨#[46]⟩ m w (by omega) hM)
  rw [hs, show (ByteArray.mk #[46]).data.toList = [46] from rfl, hc] at q2
  rw [hc] at hcl
  simp only at hcl
  have hus : (ByteArray.mk u.toArray).data.toList = u := by simp
  have hts : (ByteArray.mk t.toArray).data.toList = t := by simp
  simp only at q2
  generalize ByteArray.mk u.toArray = SU at *
  generalize ByteArray.mk t.toArray = ST at *
  have huz := size_of SU u hus
  have htz := size_of ST t hts
  go_enter Tryz.func24, Tryz.ntmps24
  go_wp2_with fail
  refine q2.out.mono ?_
  rintro e w1 ⟨rfl, nd, hw1⟩
  have B1 : Below w.heap.size w w1 := by rw [hw1]; exact drewN_below w nd
  clear hw1 q2
  have q3 := hide (digits_one w1 SU u hus (by omega))
  rw [decide_eq_true hG] at q3
  have B2 := B1.then_below (alloc_below w1 (.cells #[.string SU] 9))
  go_wp2_with fail
  refine q3.out.mono ?_
  rintro e w2 ⟨rfl, hw2⟩
  rw [← hw2] at B2
  clear hw2 q3
  have hul : 0 < u.length := List.length_pos_iff.2 hG.1
  have hb := byteAt SU u hus 0 (by omega)
  have hz : 0 < SU.size := by omega
  have hcat : Hid ((SU ++ ST).data.toList = u ++ t) := by show _ = _; rw [← hus, ← hts]; simp
  have HU := hide (fun W => parseNat_calls W (SU ++ ST) (u ++ t) hcat.out (digs_app hG.2 hD) (by rw [List.length_append]; omega))
  have bt := ten_bb t.length (l.length + 1) (by omega)
  have bu : ((M.dec (u ++ t) : Nat) : Int) < M.BB ^ (l.length + 1) := dec_bb (digs_app hG.2 hD) (by rw [List.length_append]; omega)
  have bu' : ∀ x, x ≤ M.dec (u ++ t) → ((x : Nat) : Int) < M.BB ^ (l.length + 1) := fun x hx => Int.lt_of_le_of_lt (by exact_mod_cast hx) bu
  have bl' : ∀ x, x ≤ 10 ^ t.length → ((x : Nat) : Int) < M.BB ^ (l.length + 1) := fun x hx => Int.lt_of_le_of_lt (by exact_mod_cast hx) bt
  have K1 := hide (And.intro bu (And.intro bt (And.intro bu' bl')))
  have k10 := hide (ten_bb 1 (l.length + 1) (by omega))
  have hK : l.length + 1 ≤ 54975581388 := by omega
  have hK2 : l.length + 1 ≤ 4398046511104 := by omega
  have h0 : Hid (10 ^ t.length ≠ 0) := Nat.pos_iff_ne_zero.1 (Nat.pow_pos (by decide))
  have TT := hide hT
  have PP := hide hP
  have B2 := hide B2
  clear hD hT hP bu bt bu' bl'
  generalize u.getD 0 0 = c at *
  clear hG
  go_wp2_with (first
    | (go_at_call 53; refine (word_calls _ 10 (by decide)).mono ?_; rintro e wa ⟨rfl, ba⟩; replace ba := hide ba)
    | (go_at_call 55; refine (pow_calls _ _ 10 t.length (l.length + 1) (den_word _ 10 (by decide)) (by decide) (by omega) K1.out.2.1 k10.out hK2).mono ?_; rintro e wb ⟨⟨rb, rfl, hrb⟩, bb⟩; replace bb := hide bb; obtain ⟨y1, y2, y3, y4, rfl⟩ := hrb.shape2; replace hrb := hide hrb; skip))
  have A5 := heap_alloc_new wb (.cells #[.int .u64 y1, .slice y2 y3 y4] 43)
  have D5 := hrb.out.below (alloc_below wb (.cells #[.int .u64 y1, .slice y2 y3 y4] 43))
  have B5 := ((B2.out.then_below ba.out).then_below bb.out).then_below (alloc_below wb (.cells #[.int .u64 y1, .slice y2 y3 y4] 43))
  clear ba bb hrb B2
  generalize wb.alloc (.cells #[.int .u64 y1, .slice y2 y3 y4] 43) = w5 at *
  generalize wb.heap.size = G at *
  obtain ⟨a0, a1, -, -⟩ := box_facts A5
  have S0 : Hid (w5.cell? ⟨G, 0, none⟩ = some (.int .u64 y1) ∧ w5.cell? ⟨G, 1, none⟩ = some (.slice y2 y3 y4) ∧ Below w.heap.size w w5) := ⟨a0, a1, B5⟩
  have D1 : Below w5.heap.size w5 w5.drew := (Below.refl _ _).drew
  have S1 : Hid (w5.drew.cell? ⟨G, 0, none⟩ = some (.int .u64 y1) ∧ w5.drew.cell? ⟨G, 1, none⟩ = some (.slice y2 y3 y4) ∧ Below w.heap.size w w5.drew) := cells2_keep S0.out D1
  have DD := hide (D5.below D1)
  replace TT := hide (TT.out.below S1.out.2.2)
  replace PP := hide (PP.out.below S1.out.2.2)
  clear a0 a1 A5 D5 B5 B1
  have mm : ¬ 9223372036854775807 < SU.size + ST.size := by omega
  clear hb
  clear huz htz
  go_region_held3
    (fun w' => w'.cell? ⟨G, 0, none⟩ = some (.int .u64 y1) ∧ w'.cell? ⟨G, 1, none⟩ = some (.slice y2 y3 y4) ∧ Below w.heap.size w w')
    (first
      | with_reducible exact S0.out
      | with_reducible exact S1.out
      | with_reducible exact cells2_keep S1.out ba
      | with_reducible exact cells2_keep S1.out (ba.then_below bb)
      | with_reducible exact cells2_keep S1.out ((ba.then_below bb).then_below bd))
    (first
      | (go_at_call 68; refine (HU.out _).mono ?_; rintro e wa ⟨⟨ra, rfl, hra⟩, ba⟩)
      | (go_at_call 67; refine (of_calls _ false _ _ (M.dec (u ++ t)) (10 ^ t.length) (l.length + 1) hra (DD.out.below ba) h0.out K1.out.1 K1.out.2.1 hK2 (TT.out.below ba)).mono ?_; rintro e wb ⟨⟨rb, rfl, hrb⟩, bb⟩; obtain ⟨ng, nn, dd, hrb, hnn, hdd, hLow⟩ := Low.text hrb)
      | (go_at_call 41; refine (ratText_calls _ _ ng nn dd (l.length + 1) hrb (K1.out.2.2.1 nn (Nat.le_trans hnn (Nat.div_le_self _ _))) (K1.out.2.2.2 dd (Nat.le_trans hdd (Nat.div_le_self _ _))) hK (PP.out.below (ba.then_below bb))).mono ?_; rintro e wd ⟨rfl, bd⟩))
  go_wp2
  rw [hLow.out]
  refine bodyPost_ret (v := .tuple #[.string ⟨(lowText false (M.dec (u ++ t) / Nat.gcd (M.dec (u ++ t)) (10 ^ t.length)) (10 ^ t.length / Nat.gcd (M.dec (u ++ t)) (10 ^ t.length))).toArray⟩, .int .i64 0]) (by simp [results, Tryz.results24, go_sem]) rfl ?_
  exact ⟨rfl, S1.out.2.2.then_below ((ba.then_below bb).then_below bd)⟩
set_option maxRecDepth 100000 in
set_option maxHeartbeats 4000000 in
theorem read_good_t0 (w : World) (s : ByteArray) (l u t : List UInt8) (hs : s.data.toList = l) (hl : l.length ≤ 1073741824) (m : Int) (hM : w.cell? ⟨0, 0, none⟩ = some (.int .i64 m)) (hT : Tab w) (hP : Pows w)
    (hc : Lib.cut l [46] = (u, t, true)) (hG : Good u) (h1 : u.length = 1) (h48 : (u.getD 0 0).toNat = 48) (hGt : Good t) (hD : M.Digs t) :
    Calls Tryz.prog 24 #[.string s] w fun e w' => e = .returned (.tuple #[.string ⟨(lowText false (M.dec (u ++ t) / Nat.gcd (M.dec (u ++ t)) (10 ^ t.length)) (10 ^ t.length / Nat.gcd (M.dec (u ++ t)) (10 ^ t.length))).toArray⟩, .int .i64 0]) ∧ Below w.heap.size w w' := by
  have hcl := cutp_len l
  have hsz := size_of s l hs
  have q2 := hide (Tryz.strings_Cut s ⟨#[46]⟩ m w (by omega) hM)
  rw [hs, show (ByteArray.mk #[46]).data.toList = [46] from rfl, hc] at q2
  rw [hc] at hcl
  simp only at hcl
  have hus : (ByteArray.mk u.toArray).data.toList = u := by simp
  have hts : (ByteArray.mk t.toArray).data.toList = t := by simp
  simp only at q2
  generalize ByteArray.mk u.toArray = SU at *
  generalize ByteArray.mk t.toArray = ST at *
  have huz := size_of SU u hus
  have htz := size_of ST t hts
  go_enter Tryz.func24, Tryz.ntmps24
  go_wp2_with fail
  refine q2.out.mono ?_
  rintro e w1 ⟨rfl, nd, hw1⟩
  have B1 : Below w.heap.size w w1 := by rw [hw1]; exact drewN_below w nd
  clear hw1 q2
  have q3 := hide (digits_one w1 SU u hus (by omega))
  rw [decide_eq_true hG] at q3
  have B2 := B1.then_below (alloc_below w1 (.cells #[.string SU] 9))
  go_wp2_with fail
  refine q3.out.mono ?_
  rintro e w2 ⟨rfl, hw2⟩
  rw [← hw2] at B2
  clear hw2 q3
  have q4 := hide (digits_one w2 ST t hts (by omega))
  rw [decide_eq_true hGt] at q4
  have B3 := B2.then_below (alloc_below w2 (.cells #[.string ST] 9))
  clear hGt
  have hul : 0 < u.length := List.length_pos_iff.2 hG.1
  have hb := byteAt SU u hus 0 (by omega)
  have hz : 0 < SU.size := by omega
  have hcat : Hid ((SU ++ ST).data.toList = u ++ t) := by show _ = _; rw [← hus, ← hts]; simp
  have HU := hide (fun W => parseNat_calls W (SU ++ ST) (u ++ t) hcat.out (digs_app hG.2 hD) (by rw [List.length_append]; omega))
  have bt := ten_bb t.length (l.length + 1) (by omega)
  have bu : ((M.dec (u ++ t) : Nat) : Int) < M.BB ^ (l.length + 1) := dec_bb (digs_app hG.2 hD) (by rw [List.length_append]; omega)
  have bu' : ∀ x, x ≤ M.dec (u ++ t) → ((x : Nat) : Int) < M.BB ^ (l.length + 1) := fun x hx => Int.lt_of_le_of_lt (by exact_mod_cast hx) bu
  have bl' : ∀ x, x ≤ 10 ^ t.length → ((x : Nat) : Int) < M.BB ^ (l.length + 1) := fun x hx => Int.lt_of_le_of_lt (by exact_mod_cast hx) bt
  have K1 := hide (And.intro bu (And.intro bt (And.intro bu' bl')))
  have k10 := hide (ten_bb 1 (l.length + 1) (by omega))
  have hK : l.length + 1 ≤ 54975581388 := by omega
  have hK2 : l.length + 1 ≤ 4398046511104 := by omega
  have h0 : Hid (10 ^ t.length ≠ 0) := Nat.pos_iff_ne_zero.1 (Nat.pow_pos (by decide))
  have TT := hide hT
  have PP := hide hP
  have B2 := hide B3
  clear hD hT hP bu bt bu' bl'
  generalize u.getD 0 0 = c at *
  clear hG
  go_wp2_with (first
    | (go_at_call 66; refine q4.out.mono ?_; rintro e w3 ⟨rfl, hw3⟩; rw [← hw3] at B2; clear hw3 q4)
    | (go_at_call 53; refine (word_calls _ 10 (by decide)).mono ?_; rintro e wa ⟨rfl, ba⟩; replace ba := hide ba)
    | (go_at_call 55; refine (pow_calls _ _ 10 t.length (l.length + 1) (den_word _ 10 (by decide)) (by decide) (by omega) K1.out.2.1 k10.out hK2).mono ?_; rintro e wb ⟨⟨rb, rfl, hrb⟩, bb⟩; replace bb := hide bb; obtain ⟨y1, y2, y3, y4, rfl⟩ := hrb.shape2; replace hrb := hide hrb; skip))
  have A5 := heap_alloc_new wb (.cells #[.int .u64 y1, .slice y2 y3 y4] 43)
  have D5 := hrb.out.below (alloc_below wb (.cells #[.int .u64 y1, .slice y2 y3 y4] 43))
  have B5 := ((B2.out.then_below ba.out).then_below bb.out).then_below (alloc_below wb (.cells #[.int .u64 y1, .slice y2 y3 y4] 43))
  clear ba bb hrb B2
  generalize wb.alloc (.cells #[.int .u64 y1, .slice y2 y3 y4] 43) = w5 at *
  generalize wb.heap.size = G at *
  obtain ⟨a0, a1, -, -⟩ := box_facts A5
  have S0 : Hid (w5.cell? ⟨G, 0, none⟩ = some (.int .u64 y1) ∧ w5.cell? ⟨G, 1, none⟩ = some (.slice y2 y3 y4) ∧ Below w.heap.size w w5) := ⟨a0, a1, B5⟩
  have D1 : Below w5.heap.size w5 w5.drew := (Below.refl _ _).drew
  have S1 : Hid (w5.drew.cell? ⟨G, 0, none⟩ = some (.int .u64 y1) ∧ w5.drew.cell? ⟨G, 1, none⟩ = some (.slice y2 y3 y4) ∧ Below w.heap.size w w5.drew) := cells2_keep S0.out D1
  have DD := hide (D5.below D1)
  replace TT := hide (TT.out.below S1.out.2.2)
  replace PP := hide (PP.out.below S1.out.2.2)
  clear a0 a1 A5 D5 B5 B1
  have mm : ¬ 9223372036854775807 < SU.size + ST.size := by omega
  clear hb
  clear huz htz
  go_region_held3
    (fun w' => w'.cell? ⟨G, 0, none⟩ = some (.int .u64 y1) ∧ w'.cell? ⟨G, 1, none⟩ = some (.slice y2 y3 y4) ∧ Below w.heap.size w w')
    (first
      | with_reducible exact S0.out
      | with_reducible exact S1.out
      | with_reducible exact cells2_keep S1.out ba
      | with_reducible exact cells2_keep S1.out (ba.then_below bb)
      | with_reducible exact cells2_keep S1.out ((ba.then_below bb).then_below bd))
    (first
      | (go_at_call 68; refine (HU.out _).mono ?_; rintro e wa ⟨⟨ra, rfl, hra⟩, ba⟩)
      | (go_at_call 67; refine (of_calls _ false _ _ (M.dec (u ++ t)) (10 ^ t.length) (l.length + 1) hra (DD.out.below ba) h0.out K1.out.1 K1.out.2.1 hK2 (TT.out.below ba)).mono ?_; rintro e wb ⟨⟨rb, rfl, hrb⟩, bb⟩; obtain ⟨ng, nn, dd, hrb, hnn, hdd, hLow⟩ := Low.text hrb)
      | (go_at_call 41; refine (ratText_calls _ _ ng nn dd (l.length + 1) hrb (K1.out.2.2.1 nn (Nat.le_trans hnn (Nat.div_le_self _ _))) (K1.out.2.2.2 dd (Nat.le_trans hdd (Nat.div_le_self _ _))) hK (PP.out.below (ba.then_below bb))).mono ?_; rintro e wd ⟨rfl, bd⟩))
  go_wp2
  rw [hLow.out]
  refine bodyPost_ret (v := .tuple #[.string ⟨(lowText false (M.dec (u ++ t) / Nat.gcd (M.dec (u ++ t)) (10 ^ t.length)) (10 ^ t.length / Nat.gcd (M.dec (u ++ t)) (10 ^ t.length))).toArray⟩, .int .i64 0]) (by simp [results, Tryz.results24, go_sem]) rfl ?_
  exact ⟨rfl, S1.out.2.2.then_below ((ba.then_below bb).then_below bd)⟩
set_option maxRecDepth 100000 in
set_option maxHeartbeats 4000000 in
theorem read_good_t1 (w : World) (s : ByteArray) (l u t : List UInt8) (hs : s.data.toList = l) (hl : l.length ≤ 1073741824) (m : Int) (hM : w.cell? ⟨0, 0, none⟩ = some (.int .i64 m)) (hT : Tab w) (hP : Pows w)
    (hc : Lib.cut l [46] = (u, t, true)) (hG : Good u) (h48 : ¬ (u.getD 0 0).toNat = 48) (hGt : Good t) (hD : M.Digs t) :
    Calls Tryz.prog 24 #[.string s] w fun e w' => e = .returned (.tuple #[.string ⟨(lowText false (M.dec (u ++ t) / Nat.gcd (M.dec (u ++ t)) (10 ^ t.length)) (10 ^ t.length / Nat.gcd (M.dec (u ++ t)) (10 ^ t.length))).toArray⟩, .int .i64 0]) ∧ Below w.heap.size w w' := by
  have hcl := cutp_len l
  have hsz := size_of s l hs
  have q2 := hide (Tryz.strings_Cut s ⟨#[46]⟩ m w (by omega) hM)
  rw [hs, show (ByteArray.mk #[46]).data.toList = [46] from rfl, hc] at q2
  rw [hc] at hcl
  simp only at hcl
  have hus : (ByteArray.mk u.toArray).data.toList = u := by simp
  have hts : (ByteArray.mk t.toArray).data.toList = t := by simp
  simp only at q2
  generalize ByteArray.mk u.toArray = SU at *
  generalize ByteArray.mk t.toArray = ST at *
  have huz := size_of SU u hus
  have htz := size_of ST t hts
  go_enter Tryz.func24, Tryz.ntmps24
  go_wp2_with fail
  refine q2.out.mono ?_
  rintro e w1 ⟨rfl, nd, hw1⟩
  have B1 : Below w.heap.size w w1 := by rw [hw1]; exact drewN_below w nd
  clear hw1 q2
  have q3 := hide (digits_one w1 SU u hus (by omega))
  rw [decide_eq_true hG] at q3
  have B2 := B1.then_below (alloc_below w1 (.cells #[.string SU] 9))
  go_wp2_with fail
  refine q3.out.mono ?_
  rintro e w2 ⟨rfl, hw2⟩
  rw [← hw2] at B2
  clear hw2 q3
  have q4 := hide (digits_one w2 ST t hts (by omega))
  rw [decide_eq_true hGt] at q4
  have B3 := B2.then_below (alloc_below w2 (.cells #[.string ST] 9))
  clear hGt
  have hul : 0 < u.length := List.length_pos_iff.2 hG.1
  have hb := byteAt SU u hus 0 (by omega)
  have hz : 0 < SU.size := by omega
  have hcat : Hid ((SU ++ ST).data.toList = u ++ t) := by show _ = _; rw [← hus, ← hts]; simp
  have HU := hide (fun W => parseNat_calls W (SU ++ ST) (u ++ t) hcat.out (digs_app hG.2 hD) (by rw [List.length_append]; omega))
  have bt := ten_bb t.length (l.length + 1) (by omega)
  have bu : ((M.dec (u ++ t) : Nat) : Int) < M.BB ^ (l.length + 1) := dec_bb (digs_app hG.2 hD) (by rw [List.length_append]; omega)
  have bu' : ∀ x, x ≤ M.dec (u ++ t) → ((x : Nat) : Int) < M.BB ^ (l.length + 1) := fun x hx => Int.lt_of_le_of_lt (by exact_mod_cast hx) bu
  have bl' : ∀ x, x ≤ 10 ^ t.length → ((x : Nat) : Int) < M.BB ^ (l.length + 1) := fun x hx => Int.lt_of_le_of_lt (by exact_mod_cast hx) bt
  have K1 := hide (And.intro bu (And.intro bt (And.intro bu' bl')))
  have k10 := hide (ten_bb 1 (l.length + 1) (by omega))
  have hK : l.length + 1 ≤ 54975581388 := by omega
  have hK2 : l.length + 1 ≤ 4398046511104 := by omega
  have h0 : Hid (10 ^ t.length ≠ 0) := Nat.pos_iff_ne_zero.1 (Nat.pow_pos (by decide))
  have TT := hide hT
  have PP := hide hP
  have B2 := hide B3
  clear hD hT hP bu bt bu' bl'
  generalize u.getD 0 0 = c at *
  clear hG
  go_wp2_with (first
    | (go_at_call 66; refine q4.out.mono ?_; rintro e w3 ⟨rfl, hw3⟩; rw [← hw3] at B2; clear hw3 q4)
    | (go_at_call 53; refine (word_calls _ 10 (by decide)).mono ?_; rintro e wa ⟨rfl, ba⟩; replace ba := hide ba)
    | (go_at_call 55; refine (pow_calls _ _ 10 t.length (l.length + 1) (den_word _ 10 (by decide)) (by decide) (by omega) K1.out.2.1 k10.out hK2).mono ?_; rintro e wb ⟨⟨rb, rfl, hrb⟩, bb⟩; replace bb := hide bb; obtain ⟨y1, y2, y3, y4, rfl⟩ := hrb.shape2; replace hrb := hide hrb; skip))
  have A5 := heap_alloc_new wb (.cells #[.int .u64 y1, .slice y2 y3 y4] 43)
  have D5 := hrb.out.below (alloc_below wb (.cells #[.int .u64 y1, .slice y2 y3 y4] 43))
  have B5 := ((B2.out.then_below ba.out).then_below bb.out).then_below (alloc_below wb (.cells #[.int .u64 y1, .slice y2 y3 y4] 43))
  clear ba bb hrb B2
  generalize wb.alloc (.cells #[.int .u64 y1, .slice y2 y3 y4] 43) = w5 at *
  generalize wb.heap.size = G at *
  obtain ⟨a0, a1, -, -⟩ := box_facts A5
  have S0 : Hid (w5.cell? ⟨G, 0, none⟩ = some (.int .u64 y1) ∧ w5.cell? ⟨G, 1, none⟩ = some (.slice y2 y3 y4) ∧ Below w.heap.size w w5) := ⟨a0, a1, B5⟩
  have D1 : Below w5.heap.size w5 w5.drew := (Below.refl _ _).drew
  have S1 : Hid (w5.drew.cell? ⟨G, 0, none⟩ = some (.int .u64 y1) ∧ w5.drew.cell? ⟨G, 1, none⟩ = some (.slice y2 y3 y4) ∧ Below w.heap.size w w5.drew) := cells2_keep S0.out D1
  have DD := hide (D5.below D1)
  replace TT := hide (TT.out.below S1.out.2.2)
  replace PP := hide (PP.out.below S1.out.2.2)
  clear a0 a1 A5 D5 B5 B1
  have mm : ¬ 9223372036854775807 < SU.size + ST.size := by omega
  clear hb
  clear huz htz
  go_region_held3
    (fun w' => w'.cell? ⟨G, 0, none⟩ = some (.int .u64 y1) ∧ w'.cell? ⟨G, 1, none⟩ = some (.slice y2 y3 y4) ∧ Below w.heap.size w w')
    (first
      | with_reducible exact S0.out
      | with_reducible exact S1.out
      | with_reducible exact cells2_keep S1.out ba
      | with_reducible exact cells2_keep S1.out (ba.then_below bb)
      | with_reducible exact cells2_keep S1.out ((ba.then_below bb).then_below bd))
    (first
      | (go_at_call 68; refine (HU.out _).mono ?_; rintro e wa ⟨⟨ra, rfl, hra⟩, ba⟩)
      | (go_at_call 67; refine (of_calls _ false _ _ (M.dec (u ++ t)) (10 ^ t.length) (l.length + 1) hra (DD.out.below ba) h0.out K1.out.1 K1.out.2.1 hK2 (TT.out.below ba)).mono ?_; rintro e wb ⟨⟨rb, rfl, hrb⟩, bb⟩; obtain ⟨ng, nn, dd, hrb, hnn, hdd, hLow⟩ := Low.text hrb)
      | (go_at_call 41; refine (ratText_calls _ _ ng nn dd (l.length + 1) hrb (K1.out.2.2.1 nn (Nat.le_trans hnn (Nat.div_le_self _ _))) (K1.out.2.2.2 dd (Nat.le_trans hdd (Nat.div_le_self _ _))) hK (PP.out.below (ba.then_below bb))).mono ?_; rintro e wd ⟨rfl, bd⟩))
  go_wp2
  rw [hLow.out]
  refine bodyPost_ret (v := .tuple #[.string ⟨(lowText false (M.dec (u ++ t) / Nat.gcd (M.dec (u ++ t)) (10 ^ t.length)) (10 ^ t.length / Nat.gcd (M.dec (u ++ t)) (10 ^ t.length))).toArray⟩, .int .i64 0]) (by simp [results, Tryz.results24, go_sem]) rfl ?_
  exact ⟨rfl, S1.out.2.2.then_below ((ba.then_below bb).then_below bd)⟩
theorem read_calls (w : World) (s : ByteArray) (l : List UInt8) (hs : s.data.toList = l) (hl : l.length ≤ 1073741824) (m : Int) (hM : w.cell? ⟨0, 0, none⟩ = some (.int .i64 m)) (hT : Tab w) (hP : Pows w) :
    Calls Tryz.prog 24 #[.string s] w fun e w' => e = .returned (.tuple #[.string ⟨(readText l).1.toArray⟩, .int .i64 (readText l).2]) ∧ Below w.heap.size w w' := by
  have hnil := cutp_nil l
  unfold readText
  obtain ⟨u, t, b, hc⟩ : ∃ u t b, Lib.cut l [46] = (u, t, b) := ⟨_, _, _, rfl⟩
  rw [hc] at hnil ⊢
  simp only at hnil ⊢
  have hb0 : u.getD 0 0 ≠ 48 → ¬ (u.getD 0 0).toNat = 48 := fun h e => h (UInt8.toNat_inj.1 (by simpa using e))
  by_cases hG : Good u
  · by_cases h0 : u.length = 1 ∨ u.getD 0 0 ≠ 48
    · cases b with
      | false =>
        obtain rfl := hnil rfl
        have hD : M.Digs ([] : List UInt8) := fun b hb => by simp at hb
        rw [read_yes ⟨⟨hG, h0⟩, fun h => by cases h⟩]
        by_cases h48 : (u.getD 0 0).toNat = 48
        · exact read_good_f0 w s l u [] hs hl m hM hT hP hc hG (h0.resolve_right (fun h => hb0 h h48)) h48 hD
        · exact read_good_f1 w s l u [] hs hl m hM hT hP hc hG h48 hD
      | true =>
        by_cases hGt : Good t
        · rw [read_yes ⟨⟨hG, h0⟩, fun _ => hGt⟩]
          by_cases h48 : (u.getD 0 0).toNat = 48
          · exact read_good_t0 w s l u t hs hl m hM hT hP hc hG (h0.resolve_right (fun h => hb0 h h48)) h48 hGt hGt.2
          · exact read_good_t1 w s l u t hs hl m hM hT hP hc hG h48 hGt hGt.2
        · rw [read_no (fun h => hGt (h.2 rfl))]
          exact read_bad_t w s l u t hs hl m hM hc hG h0 hGt
    · rw [read_no (fun h => h0 h.1.2)]
      have h1 : 1 < u.length := by
        have := List.length_pos_iff.2 hG.1
        omega
      have h2 : u.getD 0 0 = 48 := Classical.byContradiction (fun h => h0 (.inr h))
      exact read_bad_0 w s l u t b hs hl m hM hc hG h2 h1
  · rw [read_no (fun h => hG h.1.1)]
    exact read_bad_u w s l u t b hs hl m hM hc hG
end Go.Proofs.YtebnjolkolobhaaGreatDoor
