/- Laid together of: FieldOps, FieldMath, FieldHeads. -/
import Derived.Test.YtebnjolkolobhaaGreatDoorNumAF
import Derived.Test.YtebnjolkolobhaaGreatDoorAll8
/- ==== FieldOps ==== -/
namespace Go.Proofs.YtebnjolkolobhaaGreatDoor
open Go.RowKit
set_option linter.unusedVariables false
/-- What the calls want of the world. -/
def Env (w : World) : Prop := (∃ m : Int, w.cell? ⟨0, 0, none⟩ = some (.int .i64 m)) ∧ Tab w ∧ Pows w
theorem Env.below {w W : World} (h : Env w) (b : Below w.heap.size w W) : Env W := by
  obtain ⟨⟨m, hM⟩, hT, hP⟩ := h
  exact ⟨⟨m, by rw [b.cell (World.block_lt_of_cell? w _ hM)]; exact hM⟩, hT.below b, hP.below b⟩
theorem no_b (w : World) (c : Int) : Calls Tryz.prog 9 #[.int .i64 c] w fun e w' => e = .returned (.int .i64 c) ∧ w' = w := by
  go_enter Tryz.func9, Tryz.ntmps9
  go_wp2
  go_ret
  exact ⟨rfl, rfl⟩
theorem told_b (w : World) (s : ByteArray) (c : Int) : Calls Tryz.prog 37 #[.string s, .int .i64 c] w fun e w' => e = .returned (.string (if c = 0 then s else ⟨#[]⟩)) ∧ w' = w := by
  by_cases h : c = 0
  · subst h
    go_enter Tryz.func37, Tryz.ntmps37
    go_wp2_with (go_at_call 9; refine (no_b _ _).mono ?_; rintro e w1 ⟨rfl, rfl⟩)
    go_ret
    exact ⟨rfl, rfl⟩
  · rw [if_neg h]
    have h2 : (c == 0) = false := by simpa using h
    go_enter Tryz.func37, Tryz.ntmps37
    go_wp2_with (go_at_call 9; refine (no_b _ _).mono ?_; rintro e w1 ⟨rfl, rfl⟩)
    go_ret
    exact ⟨rfl, rfl⟩
theorem slen (s : ByteArray) : s.data.toList.length = s.size := (size_of s _ rfl).symm
def addB (s t : ByteArray) : ByteArray := ⟨(addT s.data.toList t.data.toList).1.toArray⟩
theorem add_told (s t : ByteArray) : (if (addT s.data.toList t.data.toList).2 = 0 then (⟨(addT s.data.toList t.data.toList).1.toArray⟩ : ByteArray) else ⟨#[]⟩) = addB s t := by
  unfold addB addT
  split
  · rfl
  · rfl
set_option maxRecDepth 100000 in
theorem add_b (w : World) (s t : ByteArray) (hs : s.size ≤ 1073741824) (ht : t.size ≤ 1073741824) (env : Env w) :
    Calls Tryz.prog 27 #[.string s, .string t] w fun e w' => e = .returned (.string (addB s t)) ∧ Below w.heap.size w w' := by
  obtain ⟨⟨m, hM⟩, hT, hP⟩ := env
  have c1 := hide (numAdd_calls w s t _ _ rfl rfl (by rw [slen]; exact hs) (by rw [slen]; exact ht) m hM hT hP)
  have hf := hide (add_told s t)
  generalize (addT s.data.toList t.data.toList).1 = T at *
  generalize (addT s.data.toList t.data.toList).2 = c at *
  clear hM hT hP hs ht
  go_enter Tryz.func27, Tryz.ntmps27
  go_wp2_with (first
    | (go_at_call 69; refine c1.out.mono ?_; rintro e w1 ⟨rfl, b1⟩; replace b1 := hide b1)
    | (go_at_call 37; refine (told_b _ _ _).mono ?_; rintro e w2 ⟨rfl, hw⟩; rw [hf.out]; replace hw := hw.symm; subst hw))
  go_ret
  exact ⟨rfl, b1.out⟩
def subB (s t : ByteArray) : ByteArray := ⟨(subT s.data.toList t.data.toList).1.toArray⟩
theorem sub_told (s t : ByteArray) : (if (subT s.data.toList t.data.toList).2 = 0 then (⟨(subT s.data.toList t.data.toList).1.toArray⟩ : ByteArray) else ⟨#[]⟩) = subB s t := by
  unfold subB subT
  split
  · rfl
  · rfl
set_option maxRecDepth 100000 in
theorem sub_b (w : World) (s t : ByteArray) (hs : s.size ≤ 1073741824) (ht : t.size ≤ 1073741824) (env : Env w) :
    Calls Tryz.prog 12 #[.string s, .string t] w fun e w' => e = .returned (.string (subB s t)) ∧ Below w.heap.size w w' := by
  obtain ⟨⟨m, hM⟩, hT, hP⟩ := env
  have c1 := hide (numSub_calls w s t _ _ rfl rfl (by rw [slen]; exact hs) (by rw [slen]; exact ht) m hM hT hP)
  have hf := hide (sub_told s t)
  generalize (subT s.data.toList t.data.toList).1 = T at *
  generalize (subT s.data.toList t.data.toList).2 = c at *
  clear hM hT hP hs ht
  go_enter Tryz.func12, Tryz.ntmps12
  go_wp2_with (first
    | (go_at_call 36; refine c1.out.mono ?_; rintro e w1 ⟨rfl, b1⟩; replace b1 := hide b1)
    | (go_at_call 37; refine (told_b _ _ _).mono ?_; rintro e w2 ⟨rfl, hw⟩; rw [hf.out]; replace hw := hw.symm; subst hw))
  go_ret
  exact ⟨rfl, b1.out⟩
def mulB (s t : ByteArray) : ByteArray := ⟨(mulT s.data.toList t.data.toList).1.toArray⟩
theorem mul_told (s t : ByteArray) : (if (mulT s.data.toList t.data.toList).2 = 0 then (⟨(mulT s.data.toList t.data.toList).1.toArray⟩ : ByteArray) else ⟨#[]⟩) = mulB s t := by
  unfold mulB mulT
  split
  · rfl
  · rfl
set_option maxRecDepth 100000 in
theorem mul_b (w : World) (s t : ByteArray) (hs : s.size ≤ 1073741824) (ht : t.size ≤ 1073741824) (env : Env w) :
    Calls Tryz.prog 47 #[.string s, .string t] w fun e w' => e = .returned (.string (mulB s t)) ∧ Below w.heap.size w w' := by
  obtain ⟨⟨m, hM⟩, hT, hP⟩ := env
  have c1 := hide (numMul_calls w s t _ _ rfl rfl (by rw [slen]; exact hs) (by rw [slen]; exact ht) m hM hT hP)
  have hf := hide (mul_told s t)
  generalize (mulT s.data.toList t.data.toList).1 = T at *
  generalize (mulT s.data.toList t.data.toList).2 = c at *
  clear hM hT hP hs ht
  go_enter Tryz.func47, Tryz.ntmps47
  go_wp2_with (first
    | (go_at_call 92; refine c1.out.mono ?_; rintro e w1 ⟨rfl, b1⟩; replace b1 := hide b1)
    | (go_at_call 37; refine (told_b _ _ _).mono ?_; rintro e w2 ⟨rfl, hw⟩; rw [hf.out]; replace hw := hw.symm; subst hw))
  go_ret
  exact ⟨rfl, b1.out⟩
def quoB (s t : ByteArray) : ByteArray := ⟨(quoT s.data.toList t.data.toList).1.toArray⟩
theorem quo_told (s t : ByteArray) : (if (quoT s.data.toList t.data.toList).2 = 0 then (⟨(quoT s.data.toList t.data.toList).1.toArray⟩ : ByteArray) else ⟨#[]⟩) = quoB s t := by
  unfold quoB quoT
  split
  · split
    · rfl
    · rfl
  · rfl
set_option maxRecDepth 100000 in
theorem quo_b (w : World) (s t : ByteArray) (hs : s.size ≤ 1073741824) (ht : t.size ≤ 1073741824) (env : Env w) :
    Calls Tryz.prog 28 #[.string s, .string t] w fun e w' => e = .returned (.string (quoB s t)) ∧ Below w.heap.size w w' := by
  obtain ⟨⟨m, hM⟩, hT, hP⟩ := env
  have c1 := hide (numQuo_calls w s t _ _ rfl rfl (by rw [slen]; exact hs) (by rw [slen]; exact ht) m hM hT hP)
  have hf := hide (quo_told s t)
  generalize (quoT s.data.toList t.data.toList).1 = T at *
  generalize (quoT s.data.toList t.data.toList).2 = c at *
  clear hM hT hP hs ht
  go_enter Tryz.func28, Tryz.ntmps28
  go_wp2_with (first
    | (go_at_call 70; refine c1.out.mono ?_; rintro e w1 ⟨rfl, b1⟩; replace b1 := hide b1)
    | (go_at_call 37; refine (told_b _ _ _).mono ?_; rintro e w2 ⟨rfl, hw⟩; rw [hf.out]; replace hw := hw.symm; subst hw))
  go_ret
  exact ⟨rfl, b1.out⟩
def cmpV (s t : ByteArray) : Int := if canB s.data.toList && canB t.data.toList then cmpQ (qV s.data.toList) (qV t.data.toList) else 2
theorem cmpT_two (la lb : List UInt8) : ((cmpT la lb).2 = 0 ∧ (if canB la && canB lb then cmpQ (qV la) (qV lb) else 2) = (cmpT la lb).1) ∨ ((cmpT la lb).2 = 1 ∧ (if canB la && canB lb then cmpQ (qV la) (qV lb) else 2) = 2) := by
  unfold cmpT
  cases canB la && canB lb with
  | true => exact .inl ⟨rfl, rfl⟩
  | false => exact .inr ⟨rfl, rfl⟩
set_option maxRecDepth 100000 in
theorem cmp_b (w : World) (s t : ByteArray) (hs : s.size ≤ 1073741824) (ht : t.size ≤ 1073741824) (env : Env w) :
    Calls Tryz.prog 16 #[.string s, .string t] w fun e w' => e = .returned (.int .i64 (cmpV s t)) ∧ Below w.heap.size w w' := by
  obtain ⟨⟨m, hM⟩, hT, hP⟩ := env
  have c1 := hide (numCmp_calls w s t _ _ rfl rfl (by rw [slen]; exact hs) (by rw [slen]; exact ht) m hM hT)
  clear hM hT hP hs ht
  unfold cmpV
  rcases cmpT_two s.data.toList t.data.toList with ⟨h0, h1⟩ | ⟨h0, h1⟩
  · rw [h1]
    rw [h0] at c1
    generalize (cmpT s.data.toList t.data.toList).1 = c at *
    clear h0 h1
    go_enter Tryz.func16, Tryz.ntmps16
    go_wp2_with (first
      | (go_at_call 48; refine c1.out.mono ?_; rintro e w1 ⟨rfl, b1⟩; replace b1 := hide b1)
      | (go_at_call 9; refine (no_b _ _).mono ?_; rintro e w2 ⟨rfl, hw⟩; replace hw := hw.symm; subst hw))
    go_ret
    exact ⟨rfl, b1.out⟩
  · rw [h1]
    rw [h0] at c1
    generalize (cmpT s.data.toList t.data.toList).1 = c at *
    clear h0 h1
    go_enter Tryz.func16, Tryz.ntmps16
    go_wp2_with (first
      | (go_at_call 48; refine c1.out.mono ?_; rintro e w1 ⟨rfl, b1⟩; replace b1 := hide b1)
      | (go_at_call 9; refine (no_b _ _).mono ?_; rintro e w2 ⟨rfl, hw⟩; replace hw := hw.symm; subst hw))
    go_ret
    exact ⟨rfl, b1.out⟩
/-- What canon says of Canon's answer. -/
theorem canon_can (l : List UInt8) : ((canonText l).2 = 0 ∧ (canonText l).1 = l) ↔ CanT l := by
  constructor
  · rintro ⟨h1, h2⟩
    unfold canonText at h1 h2
    by_cases hG : Good (cup l) ∧ Good (clow l)
    · rw [if_pos hG] at h1 h2
      by_cases hz : M.dec (clow l) = 0
      · rw [if_pos hz] at h1
        exact absurd h1 (by decide)
      · rw [if_neg hz] at h2
        have hp : 0 < M.dec (clow l) := Nat.pos_of_ne_zero hz
        have h3 : qT (mkRat (M.sg (cneg l) (M.dec (cup l))) (M.dec (clow l))) = l := by
          rw [← frac_qT _ _ _ hp, text_same _ _ _ hp]
          exact h2
        rw [← h3]
        exact (qT_can _).1
    · rw [if_neg hG] at h1
      exact absurd h1 (by decide)
  · intro h
    have hl := can_low h
    have hp := can_pos h
    unfold canonText
    rw [if_pos ⟨h.1.1, hl.1.1⟩, if_neg (by omega)]
    refine ⟨rfl, ?_⟩
    show lowText _ _ _ = l
    rw [← text_same _ _ _ hp]
    exact (can_text l h.1 hl.1 hl.2).2 h
set_option maxRecDepth 100000 in
theorem canon_b (w : World) (s : ByteArray) (hs : s.size ≤ 1073741824) (env : Env w) :
    Calls Tryz.prog 10 #[.string s] w fun e w' => e = .returned (.bool (canB s.data.toList)) ∧ Below w.heap.size w w' := by
  obtain ⟨⟨m, hM⟩, hT, hP⟩ := env
  have c1 := hide (canon_calls w s _ rfl (by rw [slen]; exact hs) m hM hT hP)
  have hc := canon_can s.data.toList
  have hi := canB_iff s.data.toList
  clear hM hT hP hs
  by_cases h : CanT s.data.toList
  · rw [hi.2 h]
    obtain ⟨e1, e2⟩ := hc.2 h
    rw [e1, e2] at c1
    clear hc hi h e1 e2
    have hss : (⟨s.data.toList.toArray⟩ : ByteArray) = s := by simp
    rw [hss] at c1
    clear hss
    go_enter Tryz.func10, Tryz.ntmps10
    go_wp2_with (first
      | (go_at_call 35; refine c1.out.mono ?_; rintro e w1 ⟨rfl, b1⟩; replace b1 := hide b1)
      | (go_at_call 9; refine (no_b _ _).mono ?_; rintro e w2 ⟨rfl, hw⟩; replace hw := hw.symm; subst hw))
    go_ret
    exact ⟨rfl, b1.out⟩
  · have hf : canB s.data.toList = false := by
      cases hb : canB s.data.toList with
      | false => rfl
      | true => exact absurd (hi.1 hb) h
    rw [hf]
    by_cases h0 : (canonText s.data.toList).2 = 0
    · have h1 : (canonText s.data.toList).1 ≠ s.data.toList := fun e => h (hc.1 ⟨h0, e⟩)
      rw [h0] at c1
      have hne : (⟨(canonText s.data.toList).1.toArray⟩ : ByteArray) ≠ s := fun e => h1 (by have := congrArg (fun b : ByteArray => b.data.toList) e; simpa using this)
      generalize (⟨(canonText s.data.toList).1.toArray⟩ : ByteArray) = T at *
      obtain ⟨o2, o3, o4, o5, o6⟩ := str_ne2 hne
      clear hc hi h hf h0 h1
      go_enter Tryz.func10, Tryz.ntmps10
      go_wp2_with (first
        | (go_at_call 35; refine c1.out.mono ?_; rintro e w1 ⟨rfl, b1⟩; replace b1 := hide b1)
        | (go_at_call 9; refine (no_b _ _).mono ?_; rintro e w2 ⟨rfl, hw⟩; replace hw := hw.symm; subst hw))
      go_ret
      exact ⟨rfl, b1.out⟩
    · generalize (canonText s.data.toList).1 = T at *
      generalize (canonText s.data.toList).2 = c at *
      have h2 : (c == 0) = false := by simpa using h0
      clear hc hi h hf
      go_enter Tryz.func10, Tryz.ntmps10
      go_wp2_with (first
        | (go_at_call 35; refine c1.out.mono ?_; rintro e w1 ⟨rfl, b1⟩; replace b1 := hide b1)
        | (go_at_call 9; refine (no_b _ _).mono ?_; rintro e w2 ⟨rfl, hw⟩; replace hw := hw.symm; subst hw))
      go_ret
      exact ⟨rfl, b1.out⟩
end Go.Proofs.YtebnjolkolobhaaGreatDoor
/- ==== FieldMath ==== -/
namespace Go.Proofs.YtebnjolkolobhaaGreatDoor
open Go.RowKit
set_option linter.unusedVariables false
/-- The canonical text of a rational, as a string. -/
def tB (q : Rat) : ByteArray := ⟨(qT q).toArray⟩
theorem tB_list (q : Rat) : (tB q).data.toList = qT q := by unfold tB; simp
theorem tB_can (q : Rat) : canB (tB q).data.toList = true := by rw [tB_list]; exact (canB_iff _).2 (qT_can q).1
theorem tB_v (q : Rat) : qV (tB q).data.toList = q := by rw [tB_list]; exact (qT_can q).2
theorem of_can {s : ByteArray} (h : canB s.data.toList = true) : s = tB (qV s.data.toList) := by
  unfold tB
  rw [can_qT ((canB_iff _).1 h)]
theorem tB_inj {p q : Rat} (h : tB p = tB q) : p = q := by rw [← tB_v p, h, tB_v]
theorem tB_ne {p q : Rat} (h : p ≠ q) : tB p ≠ tB q := fun e => h (tB_inj e)
theorem addB_t (x y : Rat) : addB (tB x) (tB y) = tB (x + y) := by
  unfold addB addT
  rw [tB_can, tB_can, tB_v, tB_v]; rfl
theorem subB_t (x y : Rat) : subB (tB x) (tB y) = tB (x - y) := by
  unfold subB subT
  rw [tB_can, tB_can, tB_v, tB_v]; rfl
theorem mulB_t (x y : Rat) : mulB (tB x) (tB y) = tB (x * y) := by
  unfold mulB mulT
  rw [tB_can, tB_can, tB_v, tB_v]; rfl
theorem quoB_t (x y : Rat) (h : y ≠ 0) : quoB (tB x) (tB y) = tB (x / y) := by
  unfold quoB quoT
  rw [tB_can, tB_can, tB_v, tB_v, if_neg h]; rfl
theorem cmpV_t (x y : Rat) : cmpV (tB x) (tB y) = cmpQ x y := by
  unfold cmpV
  rw [tB_can, tB_can, tB_v, tB_v]; rfl
theorem addB_no {s t : ByteArray} (h : (canB s.data.toList && canB t.data.toList) = false) : addB s t = ⟨#[]⟩ := by
  unfold addB
  rw [addT_no h]
theorem cmpV_no {s t : ByteArray} (h : (canB s.data.toList && canB t.data.toList) = false) : cmpV s t = 2 := by
  unfold cmpV
  rw [h]; rfl
theorem canB_nil : canB (⟨#[]⟩ : ByteArray).data.toList = false := by decide +kernel
theorem t_zero : (⟨#[48]⟩ : ByteArray) = tB 0 := (of_can (s := ⟨#[48]⟩) (by decide +kernel)).trans (congrArg tB (by decide +kernel))
theorem t_one : (⟨#[49]⟩ : ByteArray) = tB 1 := (of_can (s := ⟨#[49]⟩) (by decide +kernel)).trans (congrArg tB (by decide +kernel))
/-- How great a rational's parts are. -/
def Bd (k : Nat) (q : Rat) : Prop := q.num.natAbs < 10 ^ k ∧ q.den < 10 ^ k
theorem mk_le (n : Int) (d : Nat) (hd : d ≠ 0) : (mkRat n d).num.natAbs ≤ n.natAbs ∧ (mkRat n d).den ≤ d := by
  rw [Rat.num_mkRat, Rat.den_mkRat, if_neg hd, if_neg hd]
  refine ⟨?_, Nat.div_le_self _ _⟩
  have h : (d.gcd n.natAbs : Int) ∣ n := Int.ofNat_dvd_left.2 (Nat.gcd_dvd_right _ _)
  rw [Int.natAbs_ediv_of_dvd h]
  exact Nat.div_le_self _ _
theorem Bd.mk {n : Int} {d k : Nat} (hd : d ≠ 0) (h1 : n.natAbs < 10 ^ k) (h2 : d < 10 ^ k) : Bd k (mkRat n d) := by
  obtain ⟨a, b⟩ := mk_le n d hd
  exact ⟨Nat.lt_of_le_of_lt a h1, Nat.lt_of_le_of_lt b h2⟩
theorem pow_prod {a b j k : Nat} (ha : a < 10 ^ j) (hb : b < 10 ^ k) : a * b < 10 ^ (j + k) := by
  rw [Nat.pow_add]
  exact Nat.mul_lt_mul'' ha hb
theorem Bd.add {p q : Rat} {j k : Nat} (hp : Bd j p) (hq : Bd k q) : Bd (j + k + 1) (p + q) := by
  rw [← Rat.mkRat_self p, ← Rat.mkRat_self q, Rat.mkRat_add_mkRat _ _ p.den_nz q.den_nz]
  have h1 := pow_prod hp.1 hq.2
  have h2 := pow_prod hq.1 hp.2
  have h3 := pow_prod hp.2 hq.2
  have e : 10 ^ (j + k + 1) = 10 ^ (j + k) * 10 := Nat.pow_succ _ _
  have e2 : 10 ^ (k + j) = 10 ^ (j + k) := by rw [Nat.add_comm]
  refine Bd.mk (Nat.mul_ne_zero p.den_nz q.den_nz) ?_ (by omega)
  refine Nat.lt_of_le_of_lt (Int.natAbs_add_le _ _) ?_
  rw [Int.natAbs_mul, Int.natAbs_mul, Int.natAbs_natCast, Int.natAbs_natCast]
  omega
theorem Bd.neg {q : Rat} {k : Nat} (hq : Bd k q) : Bd k (-q) := by
  refine ⟨?_, ?_⟩
  · show (-q.num).natAbs < _; rw [Int.natAbs_neg]; exact hq.1
  · exact hq.2
theorem Bd.sub {p q : Rat} {j k : Nat} (hp : Bd j p) (hq : Bd k q) : Bd (j + k + 1) (p - q) := by
  rw [Rat.sub_eq_add_neg]
  exact hp.add hq.neg
theorem Bd.mul {p q : Rat} {j k : Nat} (hp : Bd j p) (hq : Bd k q) : Bd (j + k) (p * q) := by
  rw [← Rat.mkRat_self p, ← Rat.mkRat_self q, Rat.mkRat_mul_mkRat]
  refine Bd.mk (Nat.mul_ne_zero p.den_nz q.den_nz) ?_ (pow_prod hp.2 hq.2)
  rw [Int.natAbs_mul]
  exact pow_prod hp.1 hq.1
theorem Bd.div {p q : Rat} {j k : Nat} (hp : Bd j p) (hq : Bd k q) : Bd (j + k) (p / q) := by
  have h : Bd k q⁻¹ := by
    have e : q = mkRat (M.sg (decide (q.num < 0)) q.num.natAbs) q.den := by
      have : M.sg (decide (q.num < 0)) q.num.natAbs = q.num := by
        unfold M.sg
        by_cases h : q.num < 0
        · rw [decide_eq_true h, if_pos rfl]; omega
        · rw [decide_eq_false h, if_neg (by simp)]; omega
      rw [this, Rat.mkRat_self]
    rw [e, M.mk_inv]
    by_cases h0 : q.num.natAbs = 0
    · rw [h0, Rat.mkRat_zero]
      have h1 : 0 < q.den := q.den_pos
      have := hq.2
      exact ⟨by show 0 < _; omega, by show 1 < _; have h2 := hq.1; rw [h0] at h2; rcases Nat.lt_or_ge 1 (10 ^ k) with h | h
                                      · exact h
                                      · omega⟩
    · exact Bd.mk h0 (by rw [M.sg_abs]; exact hq.2) hq.1
  rw [Rat.div_def]
  exact hp.mul h
theorem Bd.size {q : Rat} {k : Nat} (hk : 1 ≤ k) (h : Bd k q) : (tB q).size ≤ 2 * k + 2 := by
  have e : (tB q).size = (qT q).length := by rw [← slen, tB_list]
  rw [e]
  have h1 := M.decDigits_len_le h.1 hk
  have h2 := M.decDigits_len_le h.2 hk
  unfold qT
  rw [rText_ctext _ _ _ q.den_pos]
  unfold ctext
  simp only [List.length_append]
  have h3 : (if decide (q.num < 0) = true then ([45] : List UInt8) else []).length ≤ 1 := by split <;> simp
  have h4 : (if decide (q.den ≠ 1) = true then (47 :: Lib.decDigits q.den : List UInt8) else []).length ≤ k + 1 := by
    split
    · rw [List.length_cons]; omega
    · simp
  omega
theorem can_Bd {s : ByteArray} {k : Nat} (h : canB s.data.toList = true) (hs : s.size ≤ k) (hk : 1 ≤ k) : Bd k (qV s.data.toList) := by
  have hc := (canB_iff _).1 h
  have hl : s.data.toList.length ≤ k := by rw [slen]; exact hs
  have ht : (Lib.trimPrefix s.data.toList [45]).length ≤ s.data.toList.length := by unfold Lib.trimPrefix; split <;> simp
  have h1 := cut_le1 (Lib.trimPrefix s.data.toList [45])
  have h2 := cut_le2 (Lib.trimPrefix s.data.toList [45])
  have h3 : (cup s.data.toList).length ≤ k := by unfold cup; omega
  have h4 : (clow s.data.toList).length ≤ k := by
    unfold clow
    split
    · omega
    · simp; omega
  have h5 : M.dec (cup s.data.toList) < 10 ^ k := Nat.lt_of_lt_of_le (M.dec_lt hc.1.1.2) (Nat.pow_le_pow_right (by decide) h3)
  have h6 : M.dec (clow s.data.toList) < 10 ^ k := Nat.lt_of_lt_of_le (M.dec_lt (can_low hc).1.1.2) (Nat.pow_le_pow_right (by decide) h4)
  unfold qV
  exact Bd.mk (Nat.ne_of_gt (can_pos hc)) (by rw [M.sg_abs]; exact h5) h6
/-- A text that the calls take. -/
def Sz (q : Rat) : Prop := (tB q).size ≤ 1073741824
theorem Bd.sz {q : Rat} {k : Nat} (hk : 1 ≤ k) (h2 : k ≤ 536870000) (h : Bd k q) : Sz q := by
  have := h.size hk
  unfold Sz
  omega
theorem add_t (w : World) (s t : ByteArray) (x y : Rat) (hs : s = tB x) (ht : t = tB y) (zs : Sz x) (zt : Sz y) (env : Env w) :
    Calls Tryz.prog 27 #[.string s, .string t] w fun e w' => e = .returned (.string (tB (x + y))) ∧ Below w.heap.size w w' := by
  subst hs ht
  rw [← addB_t]
  exact add_b w _ _ zs zt env
theorem sub_t (w : World) (s t : ByteArray) (x y : Rat) (hs : s = tB x) (ht : t = tB y) (zs : Sz x) (zt : Sz y) (env : Env w) :
    Calls Tryz.prog 12 #[.string s, .string t] w fun e w' => e = .returned (.string (tB (x - y))) ∧ Below w.heap.size w w' := by
  subst hs ht
  rw [← subB_t]
  exact sub_b w _ _ zs zt env
theorem mul_t (w : World) (s t : ByteArray) (x y : Rat) (hs : s = tB x) (ht : t = tB y) (zs : Sz x) (zt : Sz y) (env : Env w) :
    Calls Tryz.prog 47 #[.string s, .string t] w fun e w' => e = .returned (.string (tB (x * y))) ∧ Below w.heap.size w w' := by
  subst hs ht
  rw [← mulB_t]
  exact mul_b w _ _ zs zt env
theorem quo_t (w : World) (s t : ByteArray) (x y : Rat) (hs : s = tB x) (ht : t = tB y) (hy : y ≠ 0) (zs : Sz x) (zt : Sz y) (env : Env w) :
    Calls Tryz.prog 28 #[.string s, .string t] w fun e w' => e = .returned (.string (tB (x / y))) ∧ Below w.heap.size w w' := by
  subst hs ht
  rw [← quoB_t _ _ hy]
  exact quo_b w _ _ zs zt env
theorem cmp_t (w : World) (s t : ByteArray) (x y : Rat) (hs : s = tB x) (ht : t = tB y) (zs : Sz x) (zt : Sz y) (env : Env w) :
    Calls Tryz.prog 16 #[.string s, .string t] w fun e w' => e = .returned (.int .i64 (cmpQ x y)) ∧ Below w.heap.size w w' := by
  subst hs ht
  rw [← cmpV_t]
  exact cmp_b w _ _ zs zt env
theorem canon_t (w : World) (s : ByteArray) (x : Rat) (hs : s = tB x) (zs : Sz x) (env : Env w) :
    Calls Tryz.prog 10 #[.string s] w fun e w' => e = .returned (.bool true) ∧ Below w.heap.size w w' := by
  subst hs
  have h := canon_b w _ zs env
  rw [tB_can] at h
  exact h
end Go.Proofs.YtebnjolkolobhaaGreatDoor
/- ==== FieldHeads ==== -/
namespace Go.Proofs.YtebnjolkolobhaaGreatDoor
open Go.RowKit
set_option linter.unusedVariables false
theorem add_const {s t u : ByteArray} (hs : canB s.data.toList = true) (ht : canB t.data.toList = true) (hu : canB u.data.toList = true) (h : qV s.data.toList + qV t.data.toList = qV u.data.toList) : addB s t = u :=
  (congr (congrArg addB (of_can hs)) (of_can ht)).trans ((addB_t _ _).trans ((congrArg tB h).trans (of_can hu).symm))
theorem mul_const {s t u : ByteArray} (hs : canB s.data.toList = true) (ht : canB t.data.toList = true) (hu : canB u.data.toList = true) (h : qV s.data.toList * qV t.data.toList = qV u.data.toList) : mulB s t = u :=
  (congr (congrArg mulB (of_can hs)) (of_can ht)).trans ((mulB_t _ _).trans ((congrArg tB h).trans (of_can hu).symm))
theorem quo_const {s t u : ByteArray} (hs : canB s.data.toList = true) (ht : canB t.data.toList = true) (hu : canB u.data.toList = true) (h0 : qV t.data.toList ≠ 0) (h : qV s.data.toList / qV t.data.toList = qV u.data.toList) : quoB s t = u :=
  (congr (congrArg quoB (of_can hs)) (of_can ht)).trans ((quoB_t _ _ h0).trans ((congrArg tB h).trans (of_can hu).symm))
set_option maxRecDepth 100000 in
set_option maxHeartbeats 4000000 in
theorem heads_b (w : World) (env : Env w) : Calls Tryz.prog 15 #[] w fun e w' => e = .returned (.bool true) ∧ Below w.heap.size w w' := by
  have q1 : Hid (∀ W, Env W → Calls Tryz.prog 27 #[.string ⟨#[49, 47, 50]⟩, .string ⟨#[49, 47, 51]⟩] W fun e w' => e = .returned (.string ⟨#[53, 47, 54]⟩) ∧ Below W.heap.size W w') := by
    intro W hW
    have e : addB ⟨#[49, 47, 50]⟩ ⟨#[49, 47, 51]⟩ = ⟨#[53, 47, 54]⟩ := add_const (by decide +kernel) (by decide +kernel) (by decide +kernel) (by decide +kernel)
    rw [← e]
    exact add_b W _ _ (by decide) (by decide) hW
  have q2 : Hid (∀ W, Env W → Calls Tryz.prog 47 #[.string ⟨#[45, 50, 47, 51]⟩, .string ⟨#[51, 47, 50]⟩] W fun e w' => e = .returned (.string ⟨#[45, 49]⟩) ∧ Below W.heap.size W w') := by
    intro W hW
    have e : mulB ⟨#[45, 50, 47, 51]⟩ ⟨#[51, 47, 50]⟩ = ⟨#[45, 49]⟩ := mul_const (by decide +kernel) (by decide +kernel) (by decide +kernel) (by decide +kernel)
    rw [← e]
    exact mul_b W _ _ (by decide) (by decide) hW
  have q3 : Hid (∀ W, Env W → Calls Tryz.prog 28 #[.string ⟨#[45, 49]⟩, .string ⟨#[49, 47, 51]⟩] W fun e w' => e = .returned (.string ⟨#[45, 51]⟩) ∧ Below W.heap.size W w') := by
    intro W hW
    have e : quoB ⟨#[45, 49]⟩ ⟨#[49, 47, 51]⟩ = ⟨#[45, 51]⟩ := quo_const (by decide +kernel) (by decide +kernel) (by decide +kernel) (by decide +kernel) (by decide +kernel)
    rw [← e]
    exact quo_b W _ _ (by decide) (by decide) hW
  have q4 : Hid (∀ W, Env W → Calls Tryz.prog 35 #[.string ⟨#[52, 47, 50]⟩] W fun e w' => e = .returned (.tuple #[.string ⟨#[50]⟩, .int .i64 0]) ∧ Below W.heap.size W w') := by
    intro W hW
    obtain ⟨⟨m, hM⟩, hT, hP⟩ := hW
    have h := canon_calls W ⟨#[52, 47, 50]⟩ [52, 47, 50] rfl (by decide) m hM hT hP
    have e : canonText [52, 47, 50] = ([50], 0) := by decide +kernel
    rw [e] at h
    exact h
  have q5 : Hid (∀ W, Env W → Calls Tryz.prog 10 #[.string ⟨#[45, 49, 50, 47, 53]⟩] W fun e w' => e = .returned (.bool true) ∧ Below W.heap.size W w') := by
    intro W hW
    have e : canB (⟨#[45, 49, 50, 47, 53]⟩ : ByteArray).data.toList = true := by decide +kernel
    rw [← e]
    exact canon_b W _ (by decide) hW
  have q6 : Hid (∀ W, Env W → Calls Tryz.prog 10 #[.string ⟨#[48, 49]⟩] W fun e w' => e = .returned (.bool false) ∧ Below W.heap.size W w') := by
    intro W hW
    have e : canB (⟨#[48, 49]⟩ : ByteArray).data.toList = false := by decide +kernel
    rw [← e]
    exact canon_b W _ (by decide) hW
  have q7 : Hid (∀ W, Env W → Calls Tryz.prog 16 #[.string ⟨#[45, 49, 47, 50]⟩, .string ⟨#[45, 49, 47, 51]⟩] W fun e w' => e = .returned (.int .i64 (-1)) ∧ Below W.heap.size W w') := by
    intro W hW
    have e : cmpV ⟨#[45, 49, 47, 50]⟩ ⟨#[45, 49, 47, 51]⟩ = -1 := by decide +kernel
    rw [← e]
    exact cmp_b W _ _ (by decide) (by decide) hW
  have bw : Hid (Below w.heap.size w w) := Below.refl _ _
  have EE := hide env
  clear env
  go_enter Tryz.func15, Tryz.ntmps15
  go_wp2_with (first
    | (go_at_call 27; refine (q1.out _ (EE.out.below bw.out)).mono ?_; rintro e w1 ⟨rfl, b1⟩; replace bw := hide (bw.out.then_below b1); clear b1)
    | (go_at_call 47; refine (q2.out _ (EE.out.below bw.out)).mono ?_; rintro e w1 ⟨rfl, b1⟩; replace bw := hide (bw.out.then_below b1); clear b1)
    | (go_at_call 28; refine (q3.out _ (EE.out.below bw.out)).mono ?_; rintro e w1 ⟨rfl, b1⟩; replace bw := hide (bw.out.then_below b1); clear b1)
    | (go_at_call 35; refine (q4.out _ (EE.out.below bw.out)).mono ?_; rintro e w1 ⟨rfl, b1⟩; replace bw := hide (bw.out.then_below b1); clear b1)
    | (go_at_call_of 10 (Value.string ⟨#[45, 49, 50, 47, 53]⟩); refine (q5.out _ (EE.out.below bw.out)).mono ?_; rintro e w1 ⟨rfl, b1⟩; replace bw := hide (bw.out.then_below b1); clear b1)
    | (go_at_call_of 10 (Value.string ⟨#[48, 49]⟩); refine (q6.out _ (EE.out.below bw.out)).mono ?_; rintro e w1 ⟨rfl, b1⟩; replace bw := hide (bw.out.then_below b1); clear b1)
    | (go_at_call 16; refine (q7.out _ (EE.out.below bw.out)).mono ?_; rintro e w1 ⟨rfl, b1⟩; replace bw := hide (bw.out.then_below b1); clear b1)
    | (go_at_call 9; refine (no_b _ _).mono ?_; rintro e w2 ⟨rfl, hw⟩; replace hw := hw.symm; subst hw))
  go_ret
  exact ⟨rfl, bw.out⟩
end Go.Proofs.YtebnjolkolobhaaGreatDoor
