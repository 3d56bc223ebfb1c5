/- Laid together of: EnvS, LinQ. -/
import Derived.Test.YtlepicdpelkmlaaGreatDoorAll8
import Derived.Test.YtlepicdpelkmlaaGreatDoorNumA
/- ==== EnvS ==== -/
namespace Go.Proofs.YtlepicdpelkmlaaGreatDoor
open Go.RowKit
set_option linter.unusedVariables false
/-- What the calls want of the world. -/
def Env (w : World) : Prop := (∃ m : Int, w.cell? ⟨3, 0, none⟩ = some (.int .i64 m)) ∧ Tab w ∧ Pows w
theorem Env.below {w W : World} (h : Env w) (b : Below w.heap.size w W) : Env W := by
  obtain ⟨⟨m, hM⟩, hT, hP⟩ := h
  exact ⟨⟨m, by rw [b.cell (World.block_lt_of_cell? w _ hM)]; exact hM⟩, hT.below b, hP.below b⟩
end Go.Proofs.YtlepicdpelkmlaaGreatDoor
/- ==== LinQ ==== -/
namespace Go.Proofs.YtlepicdpelkmlaaGreatDoor
open Go.RowKit
set_option linter.unusedVariables false
theorem slen (s : ByteArray) : s.data.toList.length = s.size := (size_of s _ rfl).symm
/-- The canonical text of a rational, as a string. -/
def tB (q : Rat) : ByteArray := ⟨(qT q).toArray⟩
theorem tB_list (q : Rat) : (tB q).data.toList = qT q := by unfold tB; simp
theorem tB_can (q : Rat) : canB (tB q).data.toList = true := by rw [tB_list]; exact (canB_iff _).2 (qT_can q).1
theorem tB_v (q : Rat) : qV (tB q).data.toList = q := by rw [tB_list]; exact (qT_can q).2
theorem of_can {s : ByteArray} (h : canB s.data.toList = true) : s = tB (qV s.data.toList) := by
  unfold tB
  rw [can_qT ((canB_iff _).1 h)]
theorem tB_inj {p q : Rat} (h : tB p = tB q) : p = q := by rw [← tB_v p, h, tB_v]
theorem tB_ne {p q : Rat} (h : p ≠ q) : tB p ≠ tB q := fun e => h (tB_inj e)
theorem canB_nil : canB (⟨#[]⟩ : ByteArray).data.toList = false := by decide +kernel
theorem t_zero : (⟨#[48]⟩ : ByteArray) = tB 0 := (of_can (s := ⟨#[48]⟩) (by decide +kernel)).trans (congrArg tB (by decide +kernel))
theorem t_one : (⟨#[49]⟩ : ByteArray) = tB 1 := (of_can (s := ⟨#[49]⟩) (by decide +kernel)).trans (congrArg tB (by decide +kernel))
/-- How great a rational's parts are. -/
def Bd (k : Nat) (q : Rat) : Prop := q.num.natAbs < 10 ^ k ∧ q.den < 10 ^ k
theorem mk_le (n : Int) (d : Nat) (hd : d ≠ 0) : (mkRat n d).num.natAbs ≤ n.natAbs ∧ (mkRat n d).den ≤ d := by
  rw [Rat.num_mkRat, Rat.den_mkRat, if_neg hd, if_neg hd]
  refine ⟨?_, Nat.div_le_self _ _⟩
  have h : (d.gcd n.natAbs : Int) ∣ n := Int.ofNat_dvd_left.2 (Nat.gcd_dvd_right _ _)
  rw [Int.natAbs_ediv_of_dvd h]
  exact Nat.div_le_self _ _
theorem Bd.mk {n : Int} {d k : Nat} (hd : d ≠ 0) (h1 : n.natAbs < 10 ^ k) (h2 : d < 10 ^ k) : Bd k (mkRat n d) := by
  obtain ⟨a, b⟩ := mk_le n d hd
  exact ⟨Nat.lt_of_le_of_lt a h1, Nat.lt_of_le_of_lt b h2⟩
theorem pow_prod {a b j k : Nat} (ha : a < 10 ^ j) (hb : b < 10 ^ k) : a * b < 10 ^ (j + k) := by
  rw [Nat.pow_add]
  exact Nat.mul_lt_mul'' ha hb
theorem Bd.add {p q : Rat} {j k : Nat} (hp : Bd j p) (hq : Bd k q) : Bd (j + k + 1) (p + q) := by
  rw [← Rat.mkRat_self p, ← Rat.mkRat_self q, Rat.mkRat_add_mkRat _ _ p.den_nz q.den_nz]
  have h1 := pow_prod hp.1 hq.2
  have h2 := pow_prod hq.1 hp.2
  have h3 := pow_prod hp.2 hq.2
  have e : 10 ^ (j + k + 1) = 10 ^ (j + k) * 10 := Nat.pow_succ _ _
  have e2 : 10 ^ (k + j) = 10 ^ (j + k) := by rw [Nat.add_comm]
  refine Bd.mk (Nat.mul_ne_zero p.den_nz q.den_nz) ?_ (by omega)
  refine Nat.lt_of_le_of_lt (Int.natAbs_add_le _ _) ?_
  rw [Int.natAbs_mul, Int.natAbs_mul, Int.natAbs_natCast, Int.natAbs_natCast]
  omega
theorem Bd.neg {q : Rat} {k : Nat} (hq : Bd k q) : Bd k (-q) := by
  refine ⟨?_, ?_⟩
  · show (-q.num).natAbs < _; rw [Int.natAbs_neg]; exact hq.1
  · exact hq.2
theorem Bd.sub {p q : Rat} {j k : Nat} (hp : Bd j p) (hq : Bd k q) : Bd (j + k + 1) (p - q) := by
  rw [Rat.sub_eq_add_neg]
  exact hp.add hq.neg
theorem Bd.mul {p q : Rat} {j k : Nat} (hp : Bd j p) (hq : Bd k q) : Bd (j + k) (p * q) := by
  rw [← Rat.mkRat_self p, ← Rat.mkRat_self q, Rat.mkRat_mul_mkRat]
  refine Bd.mk (Nat.mul_ne_zero p.den_nz q.den_nz) ?_ (pow_prod hp.2 hq.2)
  rw [Int.natAbs_mul]
  exact pow_prod hp.1 hq.1
theorem Bd.div {p q : Rat} {j k : Nat} (hp : Bd j p) (hq : Bd k q) : Bd (j + k) (p / q) := by
  have h : Bd k q⁻¹ := by
    have e : q = mkRat (M.sg (decide (q.num < 0)) q.num.natAbs) q.den := by
      have : M.sg (decide (q.num < 0)) q.num.natAbs = q.num := by
        unfold M.sg
        by_cases h : q.num < 0
        · rw [decide_eq_true h, if_pos rfl]; omega
        · rw [decide_eq_false h, if_neg (by simp)]; omega
      rw [this, Rat.mkRat_self]
    rw [e, M.mk_inv]
    by_cases h0 : q.num.natAbs = 0
    · rw [h0, Rat.mkRat_zero]
      have h1 : 0 < q.den := q.den_pos
      have := hq.2
      exact ⟨by show 0 < _; omega, by show 1 < _; have h2 := hq.1; rw [h0] at h2; rcases Nat.lt_or_ge 1 (10 ^ k) with h | h
                                      · exact h
                                      · omega⟩
    · exact Bd.mk h0 (by rw [M.sg_abs]; exact hq.2) hq.1
  rw [Rat.div_def]
  exact hp.mul h
theorem Bd.size {q : Rat} {k : Nat} (hk : 1 ≤ k) (h : Bd k q) : (tB q).size ≤ 2 * k + 2 := by
  have e : (tB q).size = (qT q).length := by rw [← slen, tB_list]
  rw [e]
  have h1 := M.decDigits_len_le h.1 hk
  have h2 := M.decDigits_len_le h.2 hk
  unfold qT
  rw [rText_ctext _ _ _ q.den_pos]
  unfold ctext
  simp only [List.length_append]
  have h3 : (if decide (q.num < 0) = true then ([45] : List UInt8) else []).length ≤ 1 := by split <;> simp
  have h4 : (if decide (q.den ≠ 1) = true then (47 :: Lib.decDigits q.den : List UInt8) else []).length ≤ k + 1 := by
    split
    · rw [List.length_cons]; omega
    · simp
  omega
theorem can_Bd {s : ByteArray} {k : Nat} (h : canB s.data.toList = true) (hs : s.size ≤ k) (hk : 1 ≤ k) : Bd k (qV s.data.toList) := by
  have hc := (canB_iff _).1 h
  have hl : s.data.toList.length ≤ k := by rw [slen]; exact hs
  have ht : (Lib.trimPrefix s.data.toList [45]).length ≤ s.data.toList.length := by unfold Lib.trimPrefix; split <;> simp
  have h1 := cut_le1 (Lib.trimPrefix s.data.toList [45])
  have h2 := cut_le2 (Lib.trimPrefix s.data.toList [45])
  have h3 : (cup s.data.toList).length ≤ k := by unfold cup; omega
  have h4 : (clow s.data.toList).length ≤ k := by
    unfold clow
    split
    · omega
    · simp; omega
  have h5 : M.dec (cup s.data.toList) < 10 ^ k := Nat.lt_of_lt_of_le (M.dec_lt hc.1.1.2) (Nat.pow_le_pow_right (by decide) h3)
  have h6 : M.dec (clow s.data.toList) < 10 ^ k := Nat.lt_of_lt_of_le (M.dec_lt (can_low hc).1.1.2) (Nat.pow_le_pow_right (by decide) h4)
  unfold qV
  exact Bd.mk (Nat.ne_of_gt (can_pos hc)) (by rw [M.sg_abs]; exact h5) h6
/-- A text that the calls take. -/
def Sz (q : Rat) : Prop := (tB q).size ≤ 1073741824
theorem Bd.sz {q : Rat} {k : Nat} (hk : 1 ≤ k) (h2 : k ≤ 536870000) (h : Bd k q) : Sz q := by
  have := h.size hk
  unfold Sz
  omega
theorem Sz.len {q : Rat} (h : Sz q) : (tB q).data.toList.length ≤ 1073741824 := by rw [slen]; exact h
theorem nSub (w : World) (x y : Rat) (zx : Sz x) (zy : Sz y) (env : Env w) : Calls Tryz.prog 26 #[.string (tB x), .string (tB y)] w fun e w' => e = .returned (.tuple #[.string (tB (x - y)), .int .i64 0]) ∧ Below w.heap.size w w' := by
  obtain ⟨⟨m, hM⟩, hT, hP⟩ := env
  have h := numSub_calls w _ _ _ _ rfl rfl zx.len zy.len m hM hT hP
  unfold subT at h
  rw [tB_can, tB_can, tB_v, tB_v] at h
  exact h
theorem nQuo (w : World) (x y : Rat) (hy : y ≠ 0) (zx : Sz x) (zy : Sz y) (env : Env w) : Calls Tryz.prog 27 #[.string (tB x), .string (tB y)] w fun e w' => e = .returned (.tuple #[.string (tB (x / y)), .int .i64 0]) ∧ Below w.heap.size w w' := by
  obtain ⟨⟨m, hM⟩, hT, hP⟩ := env
  have h := numQuo_calls w _ _ _ _ rfl rfl zx.len zy.len m hM hT hP
  unfold quoT at h
  rw [tB_can, tB_can, tB_v, tB_v, if_neg hy] at h
  exact h
theorem nCmp (w : World) (x y : Rat) (zx : Sz x) (zy : Sz y) (env : Env w) : Calls Tryz.prog 28 #[.string (tB x), .string (tB y)] w fun e w' => e = .returned (.tuple #[.int .i64 (cmpQ x y), .int .i64 0]) ∧ Below w.heap.size w w' := by
  obtain ⟨⟨m, hM⟩, hT, hP⟩ := env
  have h := numCmp_calls w _ _ _ _ rfl rfl zx.len zy.len m hM hT
  unfold cmpT at h
  rw [tB_can, tB_can, tB_v, tB_v] at h
  exact h
theorem q_neg (x : Rat) : x < 0 ↔ x.num < 0 := by
  rw [← Rat.not_le, ← Rat.num_nonneg]; omega
/-- A canonical text's first byte tells its sign. -/
theorem tB_head (x : Rat) : (x < 0 → (tB x).data.toList.getD 0 0 = 45) ∧ (¬ x < 0 → (tB x).data.toList.getD 0 0 ≠ 45) ∧ 0 < (tB x).size := by
  have hd := M.decDigits_ne x.num.natAbs
  have hg := M.Digs.decDigits x.num.natAbs
  rw [← slen, tB_list]
  unfold qT
  rw [rText_ctext _ _ _ x.den_pos]
  unfold ctext
  obtain ⟨b, l, e⟩ := List.exists_cons_of_ne_nil hd
  have hb := hg b (by rw [e]; exact List.mem_cons_self)
  rw [e]
  by_cases h : x < 0
  · have hn : x.num < 0 := (q_neg x).1 h
    rw [decide_eq_true hn]
    exact ⟨fun _ => rfl, fun q => absurd h q, by simp⟩
  · have hn : ¬ x.num < 0 := fun q => h ((q_neg x).2 q)
    rw [decide_eq_false hn]
    refine ⟨fun q => absurd q h, fun _ q => ?_, by simp⟩
    have q2 : b = 45 := q
    rw [q2] at hb
    exact absurd hb.1 (by decide)
/-- Any text against 0. -/
theorem nLook (w : World) (s : ByteArray) (hs : s.size ≤ 1073741824) (env : Env w) : Calls Tryz.prog 28 #[.string s, .string (tB 0)] w fun e w' => (∃ c : Int, e = .returned (.tuple #[.int .i64 c, .int .i64 (if canB s.data.toList then 0 else 1)])) ∧ Below w.heap.size w w' := by
  obtain ⟨⟨m, hM⟩, hT, hP⟩ := env
  have h := numCmp_calls w s (tB 0) _ _ rfl rfl (by rw [slen]; exact hs) (show Sz 0 by show (tB 0).size ≤ 1073741824; decide +kernel).len m hM hT
  refine h.mono ?_
  rintro e w' ⟨rfl, b⟩
  refine ⟨?_, b⟩
  unfold cmpT
  rw [tB_can, Bool.and_true]
  cases canB s.data.toList
  · exact ⟨0, rfl⟩
  · exact ⟨_, rfl⟩
end Go.Proofs.YtlepicdpelkmlaaGreatDoor
