/- Laid together of: QText, NumQ, NumReckonA, NumReckonS, NumOps, NumOps2. -/
import Derived.Test.YtlepicdpelkmlaaGreatDoorRefE
import Derived.Test.YtlepicdpelkmlaaGreatDoorQAll
import Derived.Test.YtlepicdpelkmlaaGreatDoorMulE
import Derived.Test.YtlepicdpelkmlaaGreatDoorRefC
import Derived.Test.YtlepicdpelkmlaaGreatDoorMulB
/- ==== QText ==== -/
namespace Go.Proofs.YtlepicdpelkmlaaGreatDoor
open Go.RowKit
set_option linter.unusedVariables false
/-- The canonical text of a rational. -/
def qT (q : Rat) : List UInt8 := rText (decide (q.num < 0)) q.num.natAbs q.den
/-- The rational of a canonical text. -/
def qV (l : List UInt8) : Rat := mkRat (M.sg (cneg l) (M.dec (cup l))) (M.dec (clow l))
theorem frac_qT (s : Bool) (n d : Nat) (hd : 0 < d) : rText (s && !decide (n = 0)) (n / Nat.gcd n d) (d / Nat.gcd n d) = qT (mkRat (M.sg s n) d) := by
  obtain ⟨a, b, c⟩ := M.mk_parts s n d hd
  unfold qT
  rw [a, b, c]
theorem can_pos {l : List UInt8} (h : CanT l) : 0 < M.dec (clow l) := by
  have hl := can_low h
  exact Nat.pos_of_ne_zero (fun e => hl.2 ((dec_zero hl.1).1 e))
theorem can_qT {l : List UInt8} (h : CanT l) : qT (qV l) = l := by
  unfold qV
  have hl := can_low h
  rw [← frac_qT _ _ _ (can_pos h)]
  exact (can_text l h.1 hl.1 hl.2).2 h
theorem lit_digits (n : Nat) : Lit (Lib.decDigits n) := by
  refine ⟨good_digits n, ?_⟩
  by_cases h : n = 0
  · subst h
    rw [Lib.decDigits_one (by decide)]
    exact .inl rfl
  · obtain ⟨b, l, e⟩ := List.exists_cons_of_ne_nil (M.decDigits_ne n)
    right
    rw [e]
    simpa using M.decDigits_head n h b l e
theorem qT_can (q : Rat) : CanT (qT q) ∧ qV (qT q) = q := by
  have hd : 0 < q.den := q.den_pos
  have e : qT q = ctext (decide (q.num < 0)) (Lib.decDigits q.num.natAbs) (decide (q.den ≠ 1)) (Lib.decDigits q.den) := rText_ctext _ _ _ hd
  obtain ⟨p1, p2, p3, p4⟩ := ctext_parts (decide (q.num < 0)) (decide (q.den ≠ 1)) (Lib.decDigits q.den) (good_digits q.num.natAbs)
  rw [← e] at p1 p2 p3 p4
  have hlow : M.dec (clow (qT q)) = q.den := by
    rw [p4]
    by_cases h : q.den = 1
    · rw [decide_eq_false (by simpa using h), h]; rfl
    · rw [decide_eq_true h, if_pos rfl, M.dec_decDigits]
  have hup : M.dec (cup (qT q)) = q.num.natAbs := by rw [p2, M.dec_decDigits]
  constructor
  · refine ⟨by rw [p2]; exact lit_digits _, fun hn h0 => ?_, fun hs => ?_⟩
    · rw [p1] at hn
      have := of_decide_eq_true hn
      have h1 : M.dec (cup (qT q)) = 0 := by rw [h0]; rfl
      rw [hup] at h1
      omega
    · rw [p3] at hs
      have h1 : q.den ≠ 1 := of_decide_eq_true hs
      have h2 : clow (qT q) = Lib.decDigits q.den := by rw [p4, hs, if_pos rfl]
      have hL : Lit (clow (qT q)) := by rw [h2]; exact lit_digits _
      refine ⟨hL, fun e0 => ?_, fun e1 => ?_, ?_⟩
      · have := (dec_zero hL).2 e0
        omega
      · have := (dec_one hL).2 e1
        omega
      · rw [hup, hlow]
        exact q.reduced
  · unfold qV
    rw [hlow, hup, p1]
    have : M.sg (decide (q.num < 0)) q.num.natAbs = q.num := by
      unfold M.sg
      by_cases h : q.num < 0
      · rw [decide_eq_true h, if_pos rfl]; omega
      · rw [decide_eq_false h, if_neg (by simp)]; omega
    rw [this, Rat.mkRat_self]
theorem qT_inj {p q : Rat} (h : qT p = qT q) : p = q := by rw [← (qT_can p).2, ← (qT_can q).2, h]
theorem qV_zero : qV [48] = 0 := by
  show mkRat _ _ = 0
  exact Rat.zero_mkRat _
end Go.Proofs.YtlepicdpelkmlaaGreatDoor
/- ==== NumQ ==== -/
namespace Go.Proofs.YtlepicdpelkmlaaGreatDoor
open Go.RowKit
set_option linter.unusedVariables false
/-- Is it a canonical text? -/
def canB (l : List UInt8) : Bool :=
  decide (Lit (cup l)) && (!cneg l || decide (cup l ≠ [48])) && (!cslash l || (decide (Lit (clow l)) && decide (clow l ≠ [48]) && decide (clow l ≠ [49]) && decide (Nat.gcd (M.dec (cup l)) (M.dec (clow l)) = 1)))
theorem canB_iff (l : List UInt8) : canB l = true ↔ CanT l := by
  unfold canB CanT
  rw [Bool.and_eq_true, Bool.and_eq_true, decide_eq_true_eq]
  constructor
  · rintro ⟨⟨h1, h2⟩, h3⟩
    refine ⟨h1, fun hn => ?_, fun hs => ?_⟩
    · rw [hn] at h2
      simpa using h2
    · rw [hs] at h3
      simp only [Bool.not_true, Bool.false_or, Bool.and_eq_true, decide_eq_true_eq] at h3
      exact ⟨h3.1.1.1, h3.1.1.2, h3.1.2, h3.2⟩
  · rintro ⟨h1, h2, h3⟩
    refine ⟨⟨h1, ?_⟩, ?_⟩
    · cases hn : cneg l with
      | false => rfl
      | true => simpa using h2 hn
    · cases hs : cslash l with
      | false => rfl
      | true =>
        obtain ⟨a, b, c, d⟩ := h3 hs
        simp only [Bool.not_true, Bool.false_or, Bool.and_eq_true, decide_eq_true_eq]
        exact ⟨⟨⟨a, b⟩, c⟩, d⟩
/-- The parts of what lowest makes. -/
def lowA (s : Bool) (n d : Nat) : Bool := if n = 0 ∨ d = 1 then (s && !decide (n = 0)) else s
def lowD (n d : Nat) : Nat := if n = 0 ∨ d = 1 then 0 else d
theorem Low.den {w : World} {r : Value} {s : Bool} {n d : Nat} (h : Low w r s n d) : DenR w r (lowA s n d) n (lowD n d) := by
  unfold Low at h
  unfold lowA lowD
  by_cases c : n = 0 ∨ d = 1
  · rw [if_pos c] at h
    rw [if_pos c, if_pos c]
    exact h
  · rw [if_neg c] at h
    rw [if_neg c, if_neg c]
    exact h
theorem lowD_le (n d : Nat) : lowD n d ≤ d := by unfold lowD; split <;> omega
theorem low_text (s : Bool) (n d : Nat) (hd : 0 < d) : ratText (lowA s (n / Nat.gcd n d) (d / Nat.gcd n d)) (n / Nat.gcd n d) (lowD (n / Nat.gcd n d) (d / Nat.gcd n d)) = qT (mkRat (M.sg s n) d) := by
  rw [← frac_qT s n d hd, text_same s n d hd]
  unfold lowText lowA lowD
  split <;> rfl
/-- The number under the stroke, as a rational holds it. -/
abbrev cden (l : List UInt8) : Nat := if cslash l then M.dec (clow l) else 0
theorem lowN_can {l : List UInt8} (h : CanT l) : lowN (cden l) = M.dec (clow l) := by
  unfold lowN cden
  cases hs : cslash l with
  | true =>
    have := can_pos h
    rw [if_pos rfl, if_neg (by omega)]
  | false =>
    simp only [Bool.false_eq_true, if_false, if_true]
    rw [clow_plain hs]
    rfl
theorem cden_one {l : List UInt8} (h : CanT l) : cden l ≠ 1 := by
  unfold cden
  cases hs : cslash l with
  | true =>
    rw [if_pos rfl]
    have := h.2.2 hs
    intro e
    exact this.2.2.1 ((dec_one this.1).1 e)
  | false => simp
theorem cneg_zero {l : List UInt8} (h : CanT l) : M.dec (cup l) = 0 → cneg l = false := by
  intro e
  cases hn : cneg l
  · rfl
  · exact absurd ((dec_zero h.1).1 e) (h.2.1 hn)
theorem gcd_can {l : List UInt8} (h : CanT l) : Nat.gcd (M.dec (cup l)) (M.dec (clow l)) = 1 := by
  cases hs : cslash l with
  | true => exact (h.2.2 hs).2.2.2
  | false => rw [clow_plain hs]; exact Nat.gcd_one_right _
theorem can_BB {l : List UInt8} (h : CanT l) {K : Nat} (hK : l.length + 1 ≤ K) : ((M.dec (cup l) : Nat) : Int) < M.BB ^ K ∧ ((M.dec (clow l) : Nat) : Int) < M.BB ^ K := by
  have ht : (Lib.trimPrefix l [45]).length ≤ l.length := by unfold Lib.trimPrefix; split <;> simp
  have h1 := cut_le1 (Lib.trimPrefix l [45])
  have h2 := cut_le2 (Lib.trimPrefix l [45])
  have h3 : (cup l).length ≤ K := by unfold cup; omega
  have h4 : (clow l).length ≤ K := by
    unfold clow
    split
    · omega
    · simp; omega
  exact ⟨dec_bb h.1.1.2 h3, dec_bb (can_low h).1.1.2 h4⟩
/-- What the calls answer. -/
def mulT (la lb : List UInt8) : List UInt8 × Int := if canB la && canB lb then (qT (qV la * qV lb), 0) else ([], 1)
def addT (la lb : List UInt8) : List UInt8 × Int := if canB la && canB lb then (qT (qV la + qV lb), 0) else ([], 1)
def subT (la lb : List UInt8) : List UInt8 × Int := if canB la && canB lb then (qT (qV la - qV lb), 0) else ([], 1)
def quoT (la lb : List UInt8) : List UInt8 × Int := if canB la && canB lb then (if qV lb = 0 then ([], 2) else (qT (qV la / qV lb), 0)) else ([], 1)
def cmpQ (p q : Rat) : Int := if p < q then -1 else if p = q then 0 else 1
def cmpT (la lb : List UInt8) : Int × Int := if canB la && canB lb then (cmpQ (qV la) (qV lb), 0) else (0, 1)
theorem neg_up {l : List UInt8} (h : CanT l) : cneg l = true → M.dec (cup l) ≠ 0 := fun hn e => h.2.1 hn ((dec_zero h.1).1 e)
theorem cmpR_eq (s1 s2 : Bool) (n1 D1 n2 D2 : Nat) (h1 : 0 < D1) (h2 : 0 < D2) (z1 : s1 = true → n1 ≠ 0) (z2 : s2 = true → n2 ≠ 0) : cmpR s1 n1 D1 s2 n2 D2 = M.cmp (M.sg s1 n1 * D2) (M.sg s2 n2 * D1) := by
  have e1 : 0 < n1 → 0 < n1 * D2 := fun h => Nat.mul_pos h h2
  have e2 : 0 < n2 → 0 < n2 * D1 := fun h => Nat.mul_pos h h1
  unfold cmpR
  rw [M.sg_scale, M.sg_scale]
  have p1 : s1 = true → 0 < n1 * D2 := fun h => e1 (Nat.pos_of_ne_zero (z1 h))
  have p2 : s2 = true → 0 < n2 * D1 := fun h => e2 (Nat.pos_of_ne_zero (z2 h))
  generalize n1 * D2 = x at *
  generalize n2 * D1 = y at *
  cases s1 <;> cases s2
  · rfl
  · have q := p2 rfl
    show (1 : Int) = M.cmp x (-(y : Int))
    unfold M.cmp
    rw [if_neg (by omega), if_neg (by omega)]
  · have q := p1 rfl
    show (-1 : Int) = M.cmp (-(x : Int)) y
    unfold M.cmp
    rw [if_pos (by omega)]
  · show - M.cmp x y = M.cmp (-(x : Int)) (-(y : Int))
    unfold M.cmp
    by_cases h : (x : Int) < y
    · rw [if_pos h, if_neg (by omega), if_neg (by omega)]; rfl
    · by_cases h' : (x : Int) = y
      · rw [if_neg h, if_pos h', if_neg (by omega), if_pos (by omega)]; rfl
      · rw [if_neg h, if_neg h', if_pos (by omega)]
theorem cmp_qV {la lb : List UInt8} (ha : CanT la) (hb : CanT lb) : cmpR (cneg la) (M.dec (cup la)) (M.dec (clow la)) (cneg lb) (M.dec (cup lb)) (M.dec (clow lb)) = cmpQ (qV la) (qV lb) := by
  rw [cmpR_eq _ _ _ _ _ _ (can_pos ha) (can_pos hb) (neg_up ha) (neg_up hb)]
  have num : ∀ {l : List UInt8}, CanT l → (qV l).num = M.sg (cneg l) (M.dec (cup l)) ∧ (qV l).den = M.dec (clow l) := by
    intro l h
    have hg := gcd_can h
    have hp := can_pos h
    unfold qV
    constructor
    · rw [Rat.num_mkRat, if_neg (by omega), M.sg_abs, Nat.gcd_comm, hg]; simp
    · rw [Rat.den_mkRat, if_neg (by omega), M.sg_abs, Nat.gcd_comm, hg, Nat.div_one]
  unfold cmpQ M.cmp
  have e1 : (qV la < qV lb) ↔ M.sg (cneg la) (M.dec (cup la)) * (M.dec (clow lb) : Nat) < M.sg (cneg lb) (M.dec (cup lb)) * (M.dec (clow la) : Nat) := by
    rw [Rat.lt_iff, (num ha).1, (num ha).2, (num hb).1, (num hb).2]
  have e2 : (qV la = qV lb) ↔ M.sg (cneg la) (M.dec (cup la)) * (M.dec (clow lb) : Nat) = M.sg (cneg lb) (M.dec (cup lb)) * (M.dec (clow la) : Nat) := by
    unfold qV
    exact Rat.mkRat_eq_iff (Nat.ne_of_gt (can_pos ha)) (Nat.ne_of_gt (can_pos hb))
  simp only [e1, e2]
theorem qV_zero_iff {l : List UInt8} (h : CanT l) : qV l = 0 ↔ M.dec (cup l) = 0 := by
  unfold qV
  rw [Rat.mkRat_eq_zero (Nat.ne_of_gt (can_pos h))]
  unfold M.sg
  cases cneg l <;> simp
theorem mul_q (la lb : List UInt8) : mkRat (M.sg (cneg la != cneg lb) (M.dec (cup la) * M.dec (cup lb))) (M.dec (clow la) * M.dec (clow lb)) = qV la * qV lb := M.mk_mul _ _ _ _ _ _
theorem quo_q (la lb : List UInt8) : mkRat (M.sg (cneg la != cneg lb) (M.dec (cup la) * M.dec (clow lb))) (M.dec (clow la) * M.dec (cup lb)) = qV la / qV lb := M.mk_div _ _ _ _ _ _
theorem add_q {la lb : List UInt8} (ha : CanT la) (hb : CanT lb) : mkRat (M.sg (M.addS (cneg la) (M.dec (cup la) * M.dec (clow lb)) (cneg lb) (M.dec (cup lb) * M.dec (clow la))).1 (M.addS (cneg la) (M.dec (cup la) * M.dec (clow lb)) (cneg lb) (M.dec (cup lb) * M.dec (clow la))).2) (M.dec (clow la) * M.dec (clow lb)) = qV la + qV lb := M.mk_add _ _ _ _ _ _ (can_pos ha) (can_pos hb)
theorem sub_q {la lb : List UInt8} (ha : CanT la) (hb : CanT lb) : mkRat (M.sg (M.addS (cneg la) (M.dec (cup la) * M.dec (clow lb)) (!cneg lb && !decide (M.dec (cup lb) = 0)) (M.dec (cup lb) * M.dec (clow la))).1 (M.addS (cneg la) (M.dec (cup la) * M.dec (clow lb)) (!cneg lb && !decide (M.dec (cup lb) = 0)) (M.dec (cup lb) * M.dec (clow la))).2) (M.dec (clow la) * M.dec (clow lb)) = qV la - qV lb := by
  rw [M.mk_add _ _ _ _ _ _ (can_pos ha) (can_pos hb), M.mk_neg, ← Rat.sub_eq_add_neg]
  rfl
end Go.Proofs.YtlepicdpelkmlaaGreatDoor
/- ==== NumReckonA ==== -/
namespace Go.Proofs.YtlepicdpelkmlaaGreatDoor
open Go.RowKit
set_option linter.unusedVariables false
set_option maxRecDepth 100000 in
set_option maxHeartbeats 4000000 in
theorem reckonA_no (w : World) (sa sb : ByteArray) (la lb : List UInt8) (ha : sa.data.toList = la) (hb : sb.data.toList = lb) (hla : la.length ≤ 1073741824) (hlb : lb.length ≤ 1073741824) (g cap : Nat) (hc0 : w.cell? ⟨g, 0, none⟩ = some (.string sa)) (hc1 : w.cell? ⟨g, 1, none⟩ = some (.string sb))
    (m : Int) (hM : w.cell? ⟨3, 0, none⟩ = some (.int .i64 m)) (hT : Tab w) (ka kb : Bool) (hka : ka = true ↔ CanT la) (hkb : kb = true ↔ CanT lb) (hk : (ka && kb) = false) :
    Calls Tryz.prog 37 #[.func (.func 54) #[] #[], .slice (some ⟨g, 0, none⟩) 2 cap] w fun e w' => e = .returned (.tuple #[.string ⟨#[]⟩, .int .i64 1]) ∧ Below w.heap.size w w' := by
  have q1 := hide ((parse_two w sa sb la lb ha hb hla hlb g cap hc0 hc1 m hM hT ka kb hka hkb).mono (fun e w' ⟨⟨_, h2⟩, h3⟩ => (⟨h2 hk, h3⟩ : e = Ending.returned (.tuple #[.slice none 0 0, .bool false]) ∧ Below w.heap.size w w')))
  clear hka hkb hk ha hb hc0 hc1 hM hT
  go_enter Tryz.func37, Tryz.ntmps37
  go_wp2_with (go_at_call 39; (with_reducible refine q1.out.mono ?_); rintro e w1 ⟨rfl, b1⟩; replace b1 := hide b1)
  go_ret2
  exact ⟨rfl, b1.out⟩
set_option maxRecDepth 100000 in
set_option maxHeartbeats 4000000 in
theorem reckonA_yes (w : World) (sa sb : ByteArray) (la lb : List UInt8) (ha : sa.data.toList = la) (hb : sb.data.toList = lb) (hla : la.length ≤ 1073741824) (hlb : lb.length ≤ 1073741824) (g cap : Nat) (hc0 : w.cell? ⟨g, 0, none⟩ = some (.string sa)) (hc1 : w.cell? ⟨g, 1, none⟩ = some (.string sb))
    (m : Int) (hM : w.cell? ⟨3, 0, none⟩ = some (.int .i64 m)) (hT : Tab w) (hP : Pows w) (hca : CanT la) (hcb : CanT lb) (s : Bool) (n d K : Nat) (hn : (n : Int) < M.BB ^ K) (hd : (d : Int) < M.BB ^ K) (hK : K ≤ 54975581388)
    (step : ∀ W va vb, DenR W va (cneg la) (M.dec (cup la)) (if cslash la then M.dec (clow la) else 0) → DenR W vb (cneg lb) (M.dec (cup lb)) (if cslash lb then M.dec (clow lb) else 0) → Tab W → Calls Tryz.prog 54 #[va, vb] W fun e w' => (∃ r, e = .returned r ∧ DenR w' r s n d) ∧ Below W.heap.size W w') :
    Calls Tryz.prog 37 #[.func (.func 54) #[] #[], .slice (some ⟨g, 0, none⟩) 2 cap] w fun e w' => e = .returned (.tuple #[.string ⟨(ratText s n d).toArray⟩, .int .i64 0]) ∧ Below w.heap.size w w' := by
  have q1 := hide ((parse_two w sa sb la lb ha hb hla hlb g cap hc0 hc1 m hM hT true true ⟨fun _ => hca, fun _ => rfl⟩ ⟨fun _ => hcb, fun _ => rfl⟩).mono (fun e w' ⟨⟨h1, _⟩, h3⟩ => (⟨h1 rfl, h3⟩ : (e = Ending.returned (.tuple #[.slice (some ⟨w.heap.size, 0, none⟩) 2 2, .bool true]) ∧ TwoR w w' la lb) ∧ Below w.heap.size w w')))
  have TT := hide hT
  have PP := hide hP
  have ST := hide step
  replace hn := hide hn
  replace hd := hide hd
  clear ha hb hc0 hc1 hM hT hP hca hcb step
  go_enter Tryz.func37, Tryz.ntmps37
  go_wp2_with (go_at_call 39; (with_reducible refine q1.out.mono ?_); rintro e w1 ⟨⟨rfl, h1⟩, b1_1⟩; obtain ⟨b1, x1, x2, x3, x4, y1, y2, y3, y4, b2, p1, p2, p3, p4, r1, r2, r3, r4, A1, da, db, B1⟩ := h1; obtain ⟨⟨z0, z1, z2, z3, z4, z5, z6, z7, z8, z9⟩, -⟩ := cells10 A1; replace A1 := hide A1; replace da := hide da; replace db := hide db; replace B1 := hide B1)
  obtain ⟨W2, hW2⟩ : ∃ W2, w1.alloc (.cells #[.bool b1, .int .u64 x1, .slice x2 x3 x4, .int .u64 y1, .slice y2 y3 y4] 92) = W2 := ⟨_, rfl⟩
  have bA : Below w1.heap.size w1 W2 := by rw [← hW2]; exact alloc_below w1 _
  have P2 : Hid (W2.heap[w1.heap.size]? = some (.cells #[.bool b1, .int .u64 x1, .slice x2 x3 x4, .int .u64 y1, .slice y2 y3 y4] 92 (0, 0))) := by rw [← hW2]; exact heap_alloc_new w1 _
  have A2 := hide (kept_block A1.out bA)
  have DA := hide (da.out.below bA)
  have DB := hide (db.out.below bA)
  have B2 := hide (B1.out.then_below bA)
  have hG : w.heap.size ≤ w1.heap.size := B1.out.size
  clear z0 z1 z2 z3 z4 z5 z6 z7 z8 z9 bA da db A1 b1_1
  rw [hW2]
  clear hW2
  generalize w1.heap.size = G at *
  go_loopw [24] (fun i wr => (i = .int .i64 0 ∧ wr = W2) ∨ (i = .int .i64 1 ∧ Hid (Done w wr G s n d))) (fun i _ => 2 - (intOf i).toNat)
  case atStart => exact .inl ⟨rfl, rfl⟩
  case round =>
    rcases hrel with ⟨rfl, hw⟩ | ⟨rfl, h1⟩
    · replace hw := hw.symm
      subst hw
      obtain ⟨⟨z0, z1, z2, z3, z4, z5, z6, z7, z8, z9⟩, -⟩ := cells10 A2.out
      have bB := alloc_below W2 (.cells #[.bool b2, .int .u64 p1, .slice p2 p3 p4, .int .u64 r1, .slice r2 r3 r4] 92)
      have P3 := hide (kept_block P2.out bB)
      obtain ⟨⟨v0, v1, v2, v3, v4⟩, -⟩ := ratBox P3.out
      have DA3 := hide (DA.out.below bB)
      have DB3 := hide (DB.out.below bB)
      have B3 := hide (B2.out.then_below bB)
      have T3 := hide (TT.out.below B3.out)
      clear bB
      go_wp2_with (go_at_call 54; refine (ST.out _ _ _ DA3.out DB3.out T3.out).mono ?_; rintro e wa ⟨⟨r, rfl, hr⟩, ba⟩; obtain ⟨e1, e2, e3, e4, g1, g2, g3, g4, rfl, m1, m2⟩ := hr; have P4 := hide (kept_block P3.out ba); obtain ⟨⟨t0, t1, t2, t3, t4⟩, f0, f1, f2, f3, f4⟩ := ratBox P4.out; replace m1 := hide m1; replace m2 := hide m2; replace ba := hide (B3.out.then_below ba))
      refine ⟨.inr ⟨rfl, ?_⟩, by decide⟩
      have q := set5 wa G (.bool s) (.int .u64 e1) (.slice e2 e3 e4) (.int .u64 g1) (.slice g2 g3 g4)
      exact ⟨s, e1, e2, e3, e4, g1, g2, g3, g4, lo5 P4.out _ _ _ _ _, DenR.make m1.out m2.out P4.out (nopair5 _ _ _ _ _ _ _ _ _) q, ba.out.then_grown q (by rintro g ⟨⟩; exact hG)⟩
    · obtain ⟨c0, e1, e2, e3, e4, g1, g2, g3, g4, o1, o2, o3⟩ := h1.out
      obtain ⟨⟨v0, v1, v2, v3, v4⟩, -⟩ := ratBox o1
      have P5 := hide (PP.out.below o3)
      replace o1 := hide o1
      replace o2 := hide o2
      replace o3 := hide o3
      go_wp2_with (go_at_call 42; refine (ratText_calls _ _ s n d K o2.out hn.out hd.out hK P5.out).mono ?_; rintro e wd ⟨rfl, bd⟩; replace bd := hide bd)
      go_ret2
      exact ⟨rfl, o3.out.then_below bd.out⟩
end Go.Proofs.YtlepicdpelkmlaaGreatDoor
/- ==== NumReckonS ==== -/
namespace Go.Proofs.YtlepicdpelkmlaaGreatDoor
open Go.RowKit
set_option linter.unusedVariables false
set_option maxRecDepth 100000 in
set_option maxHeartbeats 4000000 in
theorem reckonS_no (w : World) (sa sb : ByteArray) (la lb : List UInt8) (ha : sa.data.toList = la) (hb : sb.data.toList = lb) (hla : la.length ≤ 1073741824) (hlb : lb.length ≤ 1073741824) (g cap : Nat) (hc0 : w.cell? ⟨g, 0, none⟩ = some (.string sa)) (hc1 : w.cell? ⟨g, 1, none⟩ = some (.string sb))
    (m : Int) (hM : w.cell? ⟨3, 0, none⟩ = some (.int .i64 m)) (hT : Tab w) (ka kb : Bool) (hka : ka = true ↔ CanT la) (hkb : kb = true ↔ CanT lb) (hk : (ka && kb) = false) :
    Calls Tryz.prog 37 #[.func (.func 38) #[] #[], .slice (some ⟨g, 0, none⟩) 2 cap] w fun e w' => e = .returned (.tuple #[.string ⟨#[]⟩, .int .i64 1]) ∧ Below w.heap.size w w' := by
  have q1 := hide ((parse_two w sa sb la lb ha hb hla hlb g cap hc0 hc1 m hM hT ka kb hka hkb).mono (fun e w' ⟨⟨_, h2⟩, h3⟩ => (⟨h2 hk, h3⟩ : e = Ending.returned (.tuple #[.slice none 0 0, .bool false]) ∧ Below w.heap.size w w')))
  clear hka hkb hk ha hb hc0 hc1 hM hT
  go_enter Tryz.func37, Tryz.ntmps37
  go_wp2_with (go_at_call 39; (with_reducible refine q1.out.mono ?_); rintro e w1 ⟨rfl, b1⟩; replace b1 := hide b1)
  go_ret2
  exact ⟨rfl, b1.out⟩
set_option maxRecDepth 100000 in
set_option maxHeartbeats 4000000 in
theorem reckonS_yes (w : World) (sa sb : ByteArray) (la lb : List UInt8) (ha : sa.data.toList = la) (hb : sb.data.toList = lb) (hla : la.length ≤ 1073741824) (hlb : lb.length ≤ 1073741824) (g cap : Nat) (hc0 : w.cell? ⟨g, 0, none⟩ = some (.string sa)) (hc1 : w.cell? ⟨g, 1, none⟩ = some (.string sb))
    (m : Int) (hM : w.cell? ⟨3, 0, none⟩ = some (.int .i64 m)) (hT : Tab w) (hP : Pows w) (hca : CanT la) (hcb : CanT lb) (s : Bool) (n d K : Nat) (hn : (n : Int) < M.BB ^ K) (hd : (d : Int) < M.BB ^ K) (hK : K ≤ 54975581388)
    (step : ∀ W va vb, DenR W va (cneg la) (M.dec (cup la)) (if cslash la then M.dec (clow la) else 0) → DenR W vb (cneg lb) (M.dec (cup lb)) (if cslash lb then M.dec (clow lb) else 0) → Tab W → Calls Tryz.prog 38 #[va, vb] W fun e w' => (∃ r, e = .returned r ∧ DenR w' r s n d) ∧ Below W.heap.size W w') :
    Calls Tryz.prog 37 #[.func (.func 38) #[] #[], .slice (some ⟨g, 0, none⟩) 2 cap] w fun e w' => e = .returned (.tuple #[.string ⟨(ratText s n d).toArray⟩, .int .i64 0]) ∧ Below w.heap.size w w' := by
  have q1 := hide ((parse_two w sa sb la lb ha hb hla hlb g cap hc0 hc1 m hM hT true true ⟨fun _ => hca, fun _ => rfl⟩ ⟨fun _ => hcb, fun _ => rfl⟩).mono (fun e w' ⟨⟨h1, _⟩, h3⟩ => (⟨h1 rfl, h3⟩ : (e = Ending.returned (.tuple #[.slice (some ⟨w.heap.size, 0, none⟩) 2 2, .bool true]) ∧ TwoR w w' la lb) ∧ Below w.heap.size w w')))
  have TT := hide hT
  have PP := hide hP
  have ST := hide step
  replace hn := hide hn
  replace hd := hide hd
  clear ha hb hc0 hc1 hM hT hP hca hcb step
  go_enter Tryz.func37, Tryz.ntmps37
  go_wp2_with (go_at_call 39; (with_reducible refine q1.out.mono ?_); rintro e w1 ⟨⟨rfl, h1⟩, b1_1⟩; obtain ⟨b1, x1, x2, x3, x4, y1, y2, y3, y4, b2, p1, p2, p3, p4, r1, r2, r3, r4, A1, da, db, B1⟩ := h1; obtain ⟨⟨z0, z1, z2, z3, z4, z5, z6, z7, z8, z9⟩, -⟩ := cells10 A1; replace A1 := hide A1; replace da := hide da; replace db := hide db; replace B1 := hide B1)
  obtain ⟨W2, hW2⟩ : ∃ W2, w1.alloc (.cells #[.bool b1, .int .u64 x1, .slice x2 x3 x4, .int .u64 y1, .slice y2 y3 y4] 92) = W2 := ⟨_, rfl⟩
  have bA : Below w1.heap.size w1 W2 := by rw [← hW2]; exact alloc_below w1 _
  have P2 : Hid (W2.heap[w1.heap.size]? = some (.cells #[.bool b1, .int .u64 x1, .slice x2 x3 x4, .int .u64 y1, .slice y2 y3 y4] 92 (0, 0))) := by rw [← hW2]; exact heap_alloc_new w1 _
  have A2 := hide (kept_block A1.out bA)
  have DA := hide (da.out.below bA)
  have DB := hide (db.out.below bA)
  have B2 := hide (B1.out.then_below bA)
  have hG : w.heap.size ≤ w1.heap.size := B1.out.size
  clear z0 z1 z2 z3 z4 z5 z6 z7 z8 z9 bA da db A1 b1_1
  rw [hW2]
  clear hW2
  generalize w1.heap.size = G at *
  go_loopw [24] (fun i wr => (i = .int .i64 0 ∧ wr = W2) ∨ (i = .int .i64 1 ∧ Hid (Done w wr G s n d))) (fun i _ => 2 - (intOf i).toNat)
  case atStart => exact .inl ⟨rfl, rfl⟩
  case round =>
    rcases hrel with ⟨rfl, hw⟩ | ⟨rfl, h1⟩
    · replace hw := hw.symm
      subst hw
      obtain ⟨⟨z0, z1, z2, z3, z4, z5, z6, z7, z8, z9⟩, -⟩ := cells10 A2.out
      have bB := alloc_below W2 (.cells #[.bool b2, .int .u64 p1, .slice p2 p3 p4, .int .u64 r1, .slice r2 r3 r4] 92)
      have P3 := hide (kept_block P2.out bB)
      obtain ⟨⟨v0, v1, v2, v3, v4⟩, -⟩ := ratBox P3.out
      have DA3 := hide (DA.out.below bB)
      have DB3 := hide (DB.out.below bB)
      have B3 := hide (B2.out.then_below bB)
      have T3 := hide (TT.out.below B3.out)
      clear bB
      go_wp2_with (go_at_call 38; refine (ST.out _ _ _ DA3.out DB3.out T3.out).mono ?_; rintro e wa ⟨⟨r, rfl, hr⟩, ba⟩; obtain ⟨e1, e2, e3, e4, g1, g2, g3, g4, rfl, m1, m2⟩ := hr; have P4 := hide (kept_block P3.out ba); obtain ⟨⟨t0, t1, t2, t3, t4⟩, f0, f1, f2, f3, f4⟩ := ratBox P4.out; replace m1 := hide m1; replace m2 := hide m2; replace ba := hide (B3.out.then_below ba))
      refine ⟨.inr ⟨rfl, ?_⟩, by decide⟩
      have q := set5 wa G (.bool s) (.int .u64 e1) (.slice e2 e3 e4) (.int .u64 g1) (.slice g2 g3 g4)
      exact ⟨s, e1, e2, e3, e4, g1, g2, g3, g4, lo5 P4.out _ _ _ _ _, DenR.make m1.out m2.out P4.out (nopair5 _ _ _ _ _ _ _ _ _) q, ba.out.then_grown q (by rintro g ⟨⟩; exact hG)⟩
    · obtain ⟨c0, e1, e2, e3, e4, g1, g2, g3, g4, o1, o2, o3⟩ := h1.out
      obtain ⟨⟨v0, v1, v2, v3, v4⟩, -⟩ := ratBox o1
      have P5 := hide (PP.out.below o3)
      replace o1 := hide o1
      replace o2 := hide o2
      replace o3 := hide o3
      go_wp2_with (go_at_call 42; refine (ratText_calls _ _ s n d K o2.out hn.out hd.out hK P5.out).mono ?_; rintro e wd ⟨rfl, bd⟩; replace bd := hide bd)
      go_ret2
      exact ⟨rfl, o3.out.then_below bd.out⟩
end Go.Proofs.YtlepicdpelkmlaaGreatDoor
/- ==== NumOps ==== -/
namespace Go.Proofs.YtlepicdpelkmlaaGreatDoor
open Go.RowKit
set_option linter.unusedVariables false
theorem BB_mono {a j k : Nat} (h : (a : Int) < M.BB ^ j) (hjk : j ≤ k) : (a : Int) < M.BB ^ k := Int.lt_of_lt_of_le h (M.pow_le M.BB_pos hjk)
theorem lowD_BB {n d K : Nat} (h : (d : Int) < M.BB ^ K) : ((lowD n d : Nat) : Int) < M.BB ^ K := Int.lt_of_le_of_lt (by exact_mod_cast lowD_le n d) h
theorem mulT_no {la lb : List UInt8} (h : (canB la && canB lb) = false) : mulT la lb = ([], 1) := by unfold mulT; rw [h]; rfl
theorem addT_no {la lb : List UInt8} (h : (canB la && canB lb) = false) : addT la lb = ([], 1) := by unfold addT; rw [h]; rfl
theorem subT_no {la lb : List UInt8} (h : (canB la && canB lb) = false) : subT la lb = ([], 1) := by unfold subT; rw [h]; rfl
theorem mulT_yes {la lb : List UInt8} (ha : CanT la) (hb : CanT lb) : mulT la lb = (qT (qV la * qV lb), 0) := by unfold mulT; rw [(canB_iff la).2 ha, (canB_iff lb).2 hb]; rfl
theorem addT_yes {la lb : List UInt8} (ha : CanT la) (hb : CanT lb) : addT la lb = (qT (qV la + qV lb), 0) := by unfold addT; rw [(canB_iff la).2 ha, (canB_iff lb).2 hb]; rfl
theorem subT_yes {la lb : List UInt8} (ha : CanT la) (hb : CanT lb) : subT la lb = (qT (qV la - qV lb), 0) := by unfold subT; rw [(canB_iff la).2 ha, (canB_iff lb).2 hb]; rfl
theorem both_of {la lb : List UInt8} (h : (canB la && canB lb) = true) : CanT la ∧ CanT lb := by
  rw [Bool.and_eq_true] at h
  exact ⟨(canB_iff la).1 h.1, (canB_iff lb).1 h.2⟩
set_option maxRecDepth 100000 in
theorem numSub_go (w : World) (sa sb : ByteArray) (T : ByteArray) (c : Int) (Q : Calls Tryz.prog 37 #[.func (.func 38) #[] #[], .slice (some ⟨w.heap.size, 0, none⟩) 2 2] (w.alloc (.cells #[.string sa, .string sb] 9)) fun e w' => e = .returned (.tuple #[.string T, .int .i64 c]) ∧ Below (w.alloc (.cells #[.string sa, .string sb] 9)).heap.size (w.alloc (.cells #[.string sa, .string sb] 9)) w') :
    Calls Tryz.prog 26 #[.string sa, .string sb] w fun e w' => e = .returned (.tuple #[.string T, .int .i64 c]) ∧ Below w.heap.size w w' := by
  replace Q := hide Q
  go_enter Tryz.func26, Tryz.ntmps26
  go_wp2_with (go_at_call 37; (with_reducible refine Q.out.mono ?_); rintro e w1 ⟨rfl, b1⟩; replace b1 := hide b1)
  go_ret2
  exact ⟨rfl, (alloc_below w _).then_below b1.out⟩
theorem numSub_calls (w : World) (sa sb : ByteArray) (la lb : List UInt8) (ha : sa.data.toList = la) (hb : sb.data.toList = lb) (hla : la.length ≤ 1073741824) (hlb : lb.length ≤ 1073741824) (m : Int) (hM : w.cell? ⟨3, 0, none⟩ = some (.int .i64 m)) (hT : Tab w) (hP : Pows w) :
    Calls Tryz.prog 26 #[.string sa, .string sb] w fun e w' => e = .returned (.tuple #[.string ⟨(subT la lb).1.toArray⟩, .int .i64 (subT la lb).2]) ∧ Below w.heap.size w w' := by
  have bA := alloc_below w (.cells #[.string sa, .string sb] 9)
  obtain ⟨t0, t1⟩ := two_cells w (.string sa) (.string sb) 9
  have hM' : (w.alloc (.cells #[.string sa, .string sb] 9)).cell? ⟨3, 0, none⟩ = some (.int .i64 m) := by rw [bA.cell (World.block_lt_of_cell? w _ hM)]; exact hM
  refine numSub_go w sa sb _ _ ?_
  cases hk : canB la && canB lb with
  | false =>
    rw [subT_no hk]
    exact reckonS_no _ sa sb la lb ha hb hla hlb _ 2 t0 t1 m hM' (hT.below bA) _ _ (canB_iff la) (canB_iff lb) hk
  | true =>
    obtain ⟨hca, hcb⟩ := both_of hk
    rw [subT_yes hca hcb, ← sub_q hca hcb]
    have pa := can_pos hca
    have pb := can_pos hcb
    rw [← low_text (M.addS (cneg la) (M.dec (cup la) * M.dec (clow lb)) (!cneg lb && !decide (M.dec (cup lb) = 0)) (M.dec (cup lb) * M.dec (clow la))).1 (M.addS (cneg la) (M.dec (cup la) * M.dec (clow lb)) (!cneg lb && !decide (M.dec (cup lb) = 0)) (M.dec (cup lb) * M.dec (clow la))).2 (M.dec (clow la) * M.dec (clow lb)) (Nat.mul_pos pa pb)]
    obtain ⟨K, hKe⟩ : ∃ K, K = la.length + lb.length + 1 := ⟨_, rfl⟩
    obtain ⟨k1, l1'⟩ := can_BB hca (K := K) (by omega)
    obtain ⟨k2, l2'⟩ := can_BB hcb (K := K) (by omega)
    have l1 := l1'
    have l2 := l2'
    have c1 := gcd_can hca
    have c2 := gcd_can hcb
    rw [← lowN_can hca] at l1 c1
    rw [← lowN_can hcb] at l2 c2
    have kn : (((M.addS (cneg la) (M.dec (cup la) * M.dec (clow lb)) (!cneg lb && !decide (M.dec (cup lb) = 0)) (M.dec (cup lb) * M.dec (clow la))).2 : Nat) : Int) < M.BB ^ (2 * K + 1) := addS_BB (mul_BB k1 l2') (mul_BB k2 l1')
    have kd : (((M.dec (clow la) * M.dec (clow lb)) : Nat) : Int) < M.BB ^ (2 * K + 1) := BB_mono (mul_BB l1' l2') (by omega)
    refine reckonS_yes _ sa sb la lb ha hb hla hlb _ 2 t0 t1 m hM' (hT.below bA) (hP.below bA) hca hcb _ _ _ (2 * K + 1) (div_BB kn) (lowD_BB (div_BB kd)) (by omega) ?_
    intro W va vb hva hvb hTW
    refine (psub_calls W va vb _ _ _ _ _ _ K hva hvb k1 l1 k2 l2 c1 c2 (by omega) hTW (cden_one hca) (cden_one hcb) (cneg_zero hca)).mono ?_
    rintro e w' ⟨⟨r, rfl, hr⟩, b⟩
    rw [lowN_can hca, lowN_can hcb] at hr
    exact ⟨⟨r, rfl, hr.den⟩, b⟩
end Go.Proofs.YtlepicdpelkmlaaGreatDoor
/- ==== NumOps2 ==== -/
namespace Go.Proofs.YtlepicdpelkmlaaGreatDoor
open Go.RowKit
set_option linter.unusedVariables false
theorem DenR.sign {w : World} {b s : Bool} {n d : Nat} {x1 : Int} {x2 : Option Addr} {x3 x4 : Nat} {y1 : Int} {y2 : Option Addr} {y3 y4 : Nat} (h : DenR w (.agg #[.bool b, .int .u64 x1, .slice x2 x3 x4, .int .u64 y1, .slice y2 y3 y4]) s n d) : b = s := by
  obtain ⟨_, _, _, _, _, _, _, _, e, -, -⟩ := h
  simp at e
  exact e.1
set_option maxRecDepth 100000 in
set_option maxHeartbeats 4000000 in
theorem numQuo_no (w : World) (sa sb : ByteArray) (la lb : List UInt8) (ha : sa.data.toList = la) (hb : sb.data.toList = lb) (hla : la.length ≤ 1073741824) (hlb : lb.length ≤ 1073741824) (m : Int) (hM : w.cell? ⟨3, 0, none⟩ = some (.int .i64 m)) (hT : Tab w) (hk : (canB la && canB lb) = false) :
    Calls Tryz.prog 27 #[.string sa, .string sb] w fun e w' => e = .returned (.tuple #[.string ⟨#[]⟩, .int .i64 1]) ∧ Below w.heap.size w w' := by
  have bA := alloc_below w (.cells #[.string sa, .string sb] 9)
  obtain ⟨t0, t1⟩ := two_cells w (.string sa) (.string sb) 9
  have hM' : (w.alloc (.cells #[.string sa, .string sb] 9)).cell? ⟨3, 0, none⟩ = some (.int .i64 m) := by rw [bA.cell (World.block_lt_of_cell? w _ hM)]; exact hM
  have q1 := hide ((parse_two (w.alloc (.cells #[.string sa, .string sb] 9)) sa sb la lb ha hb hla hlb w.heap.size 2 t0 t1 m hM' (hT.below bA) _ _ (canB_iff la) (canB_iff lb)).mono (fun e w' ⟨⟨_, h2⟩, h3⟩ => (⟨h2 hk, h3⟩ : e = Ending.returned (.tuple #[.slice none 0 0, .bool false]) ∧ Below (w.alloc (.cells #[.string sa, .string sb] 9)).heap.size (w.alloc (.cells #[.string sa, .string sb] 9)) w')))
  clear ha hb t0 t1 hM hM' hT hk bA
  go_enter Tryz.func27, Tryz.ntmps27
  go_wp2_with (go_at_call 39; (with_reducible refine q1.out.mono ?_); rintro e w1 ⟨rfl, b1⟩; replace b1 := hide b1)
  go_ret2
  exact ⟨rfl, (alloc_below w _).then_below b1.out⟩
set_option maxRecDepth 100000 in
set_option maxHeartbeats 4000000 in
theorem numCmp_no (w : World) (sa sb : ByteArray) (la lb : List UInt8) (ha : sa.data.toList = la) (hb : sb.data.toList = lb) (hla : la.length ≤ 1073741824) (hlb : lb.length ≤ 1073741824) (m : Int) (hM : w.cell? ⟨3, 0, none⟩ = some (.int .i64 m)) (hT : Tab w) (hk : (canB la && canB lb) = false) :
    Calls Tryz.prog 28 #[.string sa, .string sb] w fun e w' => e = .returned (.tuple #[.int .i64 0, .int .i64 1]) ∧ Below w.heap.size w w' := by
  have bA := alloc_below w (.cells #[.string sa, .string sb] 9)
  obtain ⟨t0, t1⟩ := two_cells w (.string sa) (.string sb) 9
  have hM' : (w.alloc (.cells #[.string sa, .string sb] 9)).cell? ⟨3, 0, none⟩ = some (.int .i64 m) := by rw [bA.cell (World.block_lt_of_cell? w _ hM)]; exact hM
  have q1 := hide ((parse_two (w.alloc (.cells #[.string sa, .string sb] 9)) sa sb la lb ha hb hla hlb w.heap.size 2 t0 t1 m hM' (hT.below bA) _ _ (canB_iff la) (canB_iff lb)).mono (fun e w' ⟨⟨_, h2⟩, h3⟩ => (⟨h2 hk, h3⟩ : e = Ending.returned (.tuple #[.slice none 0 0, .bool false]) ∧ Below (w.alloc (.cells #[.string sa, .string sb] 9)).heap.size (w.alloc (.cells #[.string sa, .string sb] 9)) w')))
  clear ha hb t0 t1 hM hM' hT hk bA
  go_enter Tryz.func28, Tryz.ntmps28
  go_wp2_with (go_at_call 39; (with_reducible refine q1.out.mono ?_); rintro e w1 ⟨rfl, b1⟩; replace b1 := hide b1)
  go_ret2
  exact ⟨rfl, (alloc_below w _).then_below b1.out⟩
set_option maxRecDepth 100000 in
set_option maxHeartbeats 4000000 in
theorem numQuo_zero (w : World) (sa sb : ByteArray) (la lb : List UInt8) (ha : sa.data.toList = la) (hb : sb.data.toList = lb) (hla : la.length ≤ 1073741824) (hlb : lb.length ≤ 1073741824) (m : Int) (hM : w.cell? ⟨3, 0, none⟩ = some (.int .i64 m)) (hT : Tab w) (hca : CanT la) (hcb : CanT lb) (hzero : M.dec (cup lb) = 0) :
    Calls Tryz.prog 27 #[.string sa, .string sb] w fun e w' => e = .returned (.tuple #[.string ⟨#[]⟩, .int .i64 2]) ∧ Below w.heap.size w w' := by
  have bA := alloc_below w (.cells #[.string sa, .string sb] 9)
  obtain ⟨t0, t1⟩ := two_cells w (.string sa) (.string sb) 9
  have hM' : (w.alloc (.cells #[.string sa, .string sb] 9)).cell? ⟨3, 0, none⟩ = some (.int .i64 m) := by rw [bA.cell (World.block_lt_of_cell? w _ hM)]; exact hM
  obtain ⟨W0, hW0⟩ : ∃ W0, (w.alloc (.cells #[.string sa, .string sb] 9)) = W0 := ⟨_, rfl⟩
  have hz : W0.heap.size = w.heap.size + 1 := by rw [← hW0]; show (w.heap.push _).size = _; simp
  rw [hW0] at bA t0 t1 hM'
  have q0 := (parse_two W0 sa sb la lb ha hb hla hlb w.heap.size 2 t0 t1 m hM' (hT.below bA) true true ⟨fun _ => hca, fun _ => rfl⟩ ⟨fun _ => hcb, fun _ => rfl⟩).mono (fun e w' ⟨⟨h1, _⟩, h3⟩ => (⟨h1 rfl, h3⟩ : (e = Ending.returned (.tuple #[.slice (some ⟨W0.heap.size, 0, none⟩) 2 2, .bool true]) ∧ TwoR W0 w' la lb) ∧ Below W0.heap.size W0 w'))
  unfold TwoR at q0
  have HZ := hide hz
  rw [hz] at q0
  have q1 := hide q0
  clear q0
  have TT := hide (hT.below bA)
  have hneg : cneg lb = false := by
    cases hn : cneg lb with
    | false => rfl
    | true => exact absurd hzero (neg_up hcb hn)
  have hs : Hid ((if cneg lb = true then (-1 : Int) else if M.dec (cup lb) = 0 then 0 else 1) = 0) := by show _ = _; rw [hneg, if_neg (by simp), if_pos hzero]
  replace bA := hide bA
  clear ha hb t0 t1 hM hM' hT hca hcb hzero hneg hz TT
  go_enter Tryz.func27, Tryz.ntmps27
  go_wp2_with (first
    | (go_at_call 39; (with_reducible refine q1.out.mono ?_); rintro e w1 ⟨⟨rfl, h1⟩, b1_1⟩; obtain ⟨b1, x1, x2, x3, x4, y1, y2, y3, y4, b2, p1, p2, p3, p4, r1, r2, r3, r4, A1, da, db, B1⟩ := h1; obtain rfl : b1 = cneg la := DenR.sign da; obtain rfl : b2 = cneg lb := DenR.sign db; obtain ⟨⟨z0, z1, z2, z3, z4, z5, z6, z7, z8, z9⟩, -⟩ := cells10 A1; replace A1 := hide A1; replace da := hide da; replace db := hide db; replace B1 := hide B1; replace b1_1 : Below W0.heap.size W0 w1 := (by rw [HZ.out]; exact b1_1))
    | (go_at_call 40; refine (psign_calls _ _ (cneg lb) (M.dec (cup lb)) _ db.out).mono ?_; rintro e w2 ⟨rfl, b2⟩; rw [hs.out]; replace b2 := hide b2))
  go_ret2
  exact ⟨rfl, (bA.out.then_below b1_1).then_below b2.out⟩
set_option maxRecDepth 100000 in
set_option maxHeartbeats 8000000 in
theorem numQuo_yes (w : World) (sa sb : ByteArray) (la lb : List UInt8) (ha : sa.data.toList = la) (hb : sb.data.toList = lb) (hla : la.length ≤ 1073741824) (hlb : lb.length ≤ 1073741824) (m : Int) (hM : w.cell? ⟨3, 0, none⟩ = some (.int .i64 m)) (hT : Tab w) (hP : Pows w) (hca : CanT la) (hcb : CanT lb) (hpos : 0 < M.dec (cup lb)) :
    Calls Tryz.prog 27 #[.string sa, .string sb] w fun e w' => e = .returned (.tuple #[.string ⟨(qT (qV la / qV lb)).toArray⟩, .int .i64 0]) ∧ Below w.heap.size w w' := by
  have bA := alloc_below w (.cells #[.string sa, .string sb] 9)
  obtain ⟨t0, t1⟩ := two_cells w (.string sa) (.string sb) 9
  have hM' : (w.alloc (.cells #[.string sa, .string sb] 9)).cell? ⟨3, 0, none⟩ = some (.int .i64 m) := by rw [bA.cell (World.block_lt_of_cell? w _ hM)]; exact hM
  obtain ⟨W0, hW0⟩ : ∃ W0, (w.alloc (.cells #[.string sa, .string sb] 9)) = W0 := ⟨_, rfl⟩
  have hz : W0.heap.size = w.heap.size + 1 := by rw [← hW0]; show (w.heap.push _).size = _; simp
  rw [hW0] at bA t0 t1 hM'
  have q0 := (parse_two W0 sa sb la lb ha hb hla hlb w.heap.size 2 t0 t1 m hM' (hT.below bA) true true ⟨fun _ => hca, fun _ => rfl⟩ ⟨fun _ => hcb, fun _ => rfl⟩).mono (fun e w' ⟨⟨h1, _⟩, h3⟩ => (⟨h1 rfl, h3⟩ : (e = Ending.returned (.tuple #[.slice (some ⟨W0.heap.size, 0, none⟩) 2 2, .bool true]) ∧ TwoR W0 w' la lb) ∧ Below W0.heap.size W0 w'))
  unfold TwoR at q0
  have HZ := hide hz
  rw [hz] at q0
  have q1 := hide q0
  clear q0
  have TT := hide (hT.below bA)
  obtain ⟨K, hKe⟩ : ∃ K, K = la.length + lb.length + 1 := ⟨_, rfl⟩
  have hK1 : 2 * K + 1 ≤ 4398046511104 := by omega
  have hK2 : 2 * K + 1 ≤ 54975581388 := by omega
  obtain ⟨k1, l1⟩ := can_BB hca (K := K) (by omega)
  obtain ⟨k2, l2⟩ := can_BB hcb (K := K) (by omega)
  have c1 := gcd_can hca
  have c2 := gcd_can hcb
  have e1 := lowN_can hca
  have e2 := lowN_can hcb
  have hs : Hid (∃ c : Int, (if cneg lb = true then (-1 : Int) else if M.dec (cup lb) = 0 then 0 else 1) = c ∧ (c == 0) = false) := by
    refine ⟨_, rfl, ?_⟩
    rw [if_neg (by omega : ¬ M.dec (cup lb) = 0)]
    cases cneg lb <;> rfl
  obtain ⟨c, hs, hc0⟩ := hs.out
  replace hs := hide hs
  have kn : Hid ((((M.dec (cup la) * M.dec (clow lb)) : Nat) : Int) < M.BB ^ (2 * K + 1)) := BB_mono (mul_BB k1 l2) (by omega)
  have kd : Hid ((((M.dec (clow la) * M.dec (cup lb)) : Nat) : Int) < M.BB ^ (2 * K + 1)) := BB_mono (mul_BB l1 k2) (by omega)
  have ht : Hid (ratText (lowA (cneg la != cneg lb) ((M.dec (cup la) * M.dec (clow lb)) / Nat.gcd (M.dec (cup la) * M.dec (clow lb)) (M.dec (clow la) * M.dec (cup lb))) ((M.dec (clow la) * M.dec (cup lb)) / Nat.gcd (M.dec (cup la) * M.dec (clow lb)) (M.dec (clow la) * M.dec (cup lb)))) ((M.dec (cup la) * M.dec (clow lb)) / Nat.gcd (M.dec (cup la) * M.dec (clow lb)) (M.dec (clow la) * M.dec (cup lb))) (lowD ((M.dec (cup la) * M.dec (clow lb)) / Nat.gcd (M.dec (cup la) * M.dec (clow lb)) (M.dec (clow la) * M.dec (cup lb))) ((M.dec (clow la) * M.dec (cup lb)) / Nat.gcd (M.dec (cup la) * M.dec (clow lb)) (M.dec (clow la) * M.dec (cup lb)))) = qT (qV la / qV lb)) := by
    show _ = _
    rw [low_text _ _ _ (Nat.mul_pos (can_pos hca) hpos), quo_q la lb]
  have QQ : Hid (∀ W va vb, DenR W va (cneg la) (M.dec (cup la)) (cden la) → DenR W vb (cneg lb) (M.dec (cup lb)) (cden lb) → Tab W → Calls Tryz.prog 41 #[va, vb] W fun e w' => (∃ r, e = .returned r ∧ DenR w' r (lowA (cneg la != cneg lb) ((M.dec (cup la) * M.dec (clow lb)) / Nat.gcd (M.dec (cup la) * M.dec (clow lb)) (M.dec (clow la) * M.dec (cup lb))) ((M.dec (clow la) * M.dec (cup lb)) / Nat.gcd (M.dec (cup la) * M.dec (clow lb)) (M.dec (clow la) * M.dec (cup lb)))) ((M.dec (cup la) * M.dec (clow lb)) / Nat.gcd (M.dec (cup la) * M.dec (clow lb)) (M.dec (clow la) * M.dec (cup lb))) (lowD ((M.dec (cup la) * M.dec (clow lb)) / Nat.gcd (M.dec (cup la) * M.dec (clow lb)) (M.dec (clow la) * M.dec (cup lb))) ((M.dec (clow la) * M.dec (cup lb)) / Nat.gcd (M.dec (cup la) * M.dec (clow lb)) (M.dec (clow la) * M.dec (cup lb))))) ∧ Below W.heap.size W w') := by
    intro W va vb hva hvb hTW
    refine (pquo_calls W va vb _ _ _ _ _ _ K hva hvb k1 (by rw [e1]; exact l1) k2 (by rw [e2]; exact l2) (by rw [e1]; exact c1) (by rw [e2]; exact c2) hpos (by omega) hTW).mono ?_
    rintro e w' ⟨⟨r, rfl, hr⟩, b⟩
    rw [e1, e2] at hr
    exact ⟨⟨r, rfl, hr.den⟩, b⟩
  have PP := hide (hP.below bA)
  have kN := hide (div_BB (b := Nat.gcd (M.dec (cup la) * M.dec (clow lb)) (M.dec (clow la) * M.dec (cup lb))) kn.out)
  have kD := hide (lowD_BB (n := (M.dec (cup la) * M.dec (clow lb)) / Nat.gcd (M.dec (cup la) * M.dec (clow lb)) (M.dec (clow la) * M.dec (cup lb))) (div_BB (b := Nat.gcd (M.dec (cup la) * M.dec (clow lb)) (M.dec (clow la) * M.dec (cup lb))) kd.out))
  replace bA := hide bA
  clear ha hb t0 t1 hM hM' hT hP hca hcb hz k1 k2 l1 l2 c1 c2 e1 e2 hpos kn kd hKe
  generalize lowA (cneg la != cneg lb) ((M.dec (cup la) * M.dec (clow lb)) / Nat.gcd (M.dec (cup la) * M.dec (clow lb)) (M.dec (clow la) * M.dec (cup lb))) ((M.dec (clow la) * M.dec (cup lb)) / Nat.gcd (M.dec (cup la) * M.dec (clow lb)) (M.dec (clow la) * M.dec (cup lb))) = sn at *
  generalize lowD ((M.dec (cup la) * M.dec (clow lb)) / Nat.gcd (M.dec (cup la) * M.dec (clow lb)) (M.dec (clow la) * M.dec (cup lb))) ((M.dec (clow la) * M.dec (cup lb)) / Nat.gcd (M.dec (cup la) * M.dec (clow lb)) (M.dec (clow la) * M.dec (cup lb))) = dn at *
  generalize (M.dec (cup la) * M.dec (clow lb)) / Nat.gcd (M.dec (cup la) * M.dec (clow lb)) (M.dec (clow la) * M.dec (cup lb)) = nn at *
  go_enter Tryz.func27, Tryz.ntmps27
  go_upto_region 6 with (first
    | (go_at_call 39; (with_reducible refine q1.out.mono ?_); rintro e w1 ⟨⟨rfl, h1⟩, b1_1⟩; obtain ⟨b1, x1, x2, x3, x4, y1, y2, y3, y4, b2, p1, p2, p3, p4, r1, r2, r3, r4, A1, da, db, B1⟩ := h1; obtain rfl : b1 = cneg la := DenR.sign da; obtain rfl : b2 = cneg lb := DenR.sign db; obtain ⟨⟨z0, z1, z2, z3, z4, z5, z6, z7, z8, z9⟩, -⟩ := cells10 A1; replace A1 := hide A1; replace da := hide da; replace db := hide db; replace B1 := hide B1; replace b1_1 : Below W0.heap.size W0 w1 := (by rw [HZ.out]; exact b1_1))
    | (go_at_call 40; refine (psign_calls _ _ (cneg lb) (M.dec (cup lb)) _ db.out).mono ?_; rintro e w2 ⟨rfl, b2⟩; rw [hs.out]; replace b2 := hide b2))
  have DA := hide (da.out.below b2.out)
  have DB := hide (db.out.below b2.out)
  have T2 := hide ((TT.out.below b1_1).below b2.out)
  have P2 := hide ((PP.out.below b1_1).below b2.out)
  obtain ⟨⟨v0, v1, v2, v3, v4, v5, v6, v7, v8, v9⟩, -⟩ := cells10 (kept_block A1.out b2.out)
  have S0 := hide (And.intro v0 (And.intro v1 (And.intro v2 (And.intro v3 (And.intro v4 (And.intro v5 (And.intro v6 (And.intro v7 (And.intro v8 v9)))))))))
  clear z0 z1 z2 z3 z4 z5 z6 z7 z8 z9 v0 v1 v2 v3 v4 v5 v6 v7 v8 v9 q1 da db A1 TT PP
  go_region_held3
    (fun w' => w'.cell? ⟨w.heap.size + 1, 0, none⟩ = some (.bool (cneg la)) ∧ w'.cell? ⟨w.heap.size + 1, 1, none⟩ = some (.int .u64 x1) ∧ w'.cell? ⟨w.heap.size + 1, 2, none⟩ = some (.slice x2 x3 x4) ∧ w'.cell? ⟨w.heap.size + 1, 3, none⟩ = some (.int .u64 y1) ∧ w'.cell? ⟨w.heap.size + 1, 4, none⟩ = some (.slice y2 y3 y4) ∧ w'.cell? ⟨w.heap.size + 1, 5, none⟩ = some (.bool (cneg lb)) ∧ w'.cell? ⟨w.heap.size + 1, 6, none⟩ = some (.int .u64 p1) ∧ w'.cell? ⟨w.heap.size + 1, 7, none⟩ = some (.slice p2 p3 p4) ∧ w'.cell? ⟨w.heap.size + 1, 8, none⟩ = some (.int .u64 r1) ∧ w'.cell? ⟨w.heap.size + 1, 9, none⟩ = some (.slice r2 r3 r4))
    ((repeat (first | with_reducible exact S0.out | with_reducible refine bare10_keep ?_ bd | with_reducible refine bare10_keep ?_ bc | with_reducible refine bare10_keep ?_ ((Below.refl _ _).drew))))
    (first
      | (go_at_call 41; refine (QQ.out _ _ _ (DA.out.below (by repeat (first | with_reducible exact Below.refl _ _ | with_reducible refine Below.drew ?_ | with_reducible refine Below.then_below ?_ (alloc_below _ _)))) (DB.out.below (by repeat (first | with_reducible exact Below.refl _ _ | with_reducible refine Below.drew ?_ | with_reducible refine Below.then_below ?_ (alloc_below _ _)))) (T2.out.below (by repeat (first | with_reducible exact Below.refl _ _ | with_reducible refine Below.drew ?_ | with_reducible refine Below.then_below ?_ (alloc_below _ _))))).mono ?_; rintro e wc ⟨⟨rc, rfl, dc⟩, bc⟩)
      | (go_at_call 42; refine (ratText_calls _ _ sn nn dn (2 * K + 1) dc kN.out kD.out hK2 (P2.out.below (by repeat (first | with_reducible exact Below.refl _ _ | with_reducible refine Below.drew ?_ | with_reducible refine Below.then_below ?_ (alloc_below _ _) | with_reducible refine Below.then_below ?_ bc)))).mono ?_; rintro e wd ⟨rfl, bd⟩))
  go_wp2_with fail
  go_ret2
  rw [ht.out]
  exact ⟨rfl, ((bA.out.then_below b1_1).then_below b2.out).then_below (by repeat (first | with_reducible exact Below.refl _ _ | with_reducible refine Below.drew ?_ | with_reducible refine Below.then_below ?_ (alloc_below _ _) | with_reducible refine Below.then_below ?_ bd | with_reducible refine Below.then_below ?_ bc))⟩
set_option maxRecDepth 100000 in
set_option maxHeartbeats 8000000 in
theorem numCmp_yes (w : World) (sa sb : ByteArray) (la lb : List UInt8) (ha : sa.data.toList = la) (hb : sb.data.toList = lb) (hla : la.length ≤ 1073741824) (hlb : lb.length ≤ 1073741824) (m : Int) (hM : w.cell? ⟨3, 0, none⟩ = some (.int .i64 m)) (hT : Tab w) (hca : CanT la) (hcb : CanT lb) :
    Calls Tryz.prog 28 #[.string sa, .string sb] w fun e w' => e = .returned (.tuple #[.int .i64 (cmpQ (qV la) (qV lb)), .int .i64 0]) ∧ Below w.heap.size w w' := by
  have bA := alloc_below w (.cells #[.string sa, .string sb] 9)
  obtain ⟨t0, t1⟩ := two_cells w (.string sa) (.string sb) 9
  have hM' : (w.alloc (.cells #[.string sa, .string sb] 9)).cell? ⟨3, 0, none⟩ = some (.int .i64 m) := by rw [bA.cell (World.block_lt_of_cell? w _ hM)]; exact hM
  obtain ⟨W0, hW0⟩ : ∃ W0, (w.alloc (.cells #[.string sa, .string sb] 9)) = W0 := ⟨_, rfl⟩
  have hz : W0.heap.size = w.heap.size + 1 := by rw [← hW0]; show (w.heap.push _).size = _; simp
  rw [hW0] at bA t0 t1 hM'
  have q0 := (parse_two W0 sa sb la lb ha hb hla hlb w.heap.size 2 t0 t1 m hM' (hT.below bA) true true ⟨fun _ => hca, fun _ => rfl⟩ ⟨fun _ => hcb, fun _ => rfl⟩).mono (fun e w' ⟨⟨h1, _⟩, h3⟩ => (⟨h1 rfl, h3⟩ : (e = Ending.returned (.tuple #[.slice (some ⟨W0.heap.size, 0, none⟩) 2 2, .bool true]) ∧ TwoR W0 w' la lb) ∧ Below W0.heap.size W0 w'))
  unfold TwoR at q0
  have HZ := hide hz
  rw [hz] at q0
  have q1 := hide q0
  clear q0
  have TT := hide (hT.below bA)
  obtain ⟨K, hKe⟩ : ∃ K, K = la.length + lb.length + 1 := ⟨_, rfl⟩
  have hK1 : 2 * K + 1 ≤ 4398046511104 := by omega
  have hK2 : 2 * K + 1 ≤ 54975581388 := by omega
  obtain ⟨k1, l1⟩ := can_BB hca (K := K) (by omega)
  obtain ⟨k2, l2⟩ := can_BB hcb (K := K) (by omega)
  have c1 := gcd_can hca
  have c2 := gcd_can hcb
  have e1 := lowN_can hca
  have e2 := lowN_can hcb
  have QQ : Hid (∀ W va vb, DenR W va (cneg la) (M.dec (cup la)) (cden la) → DenR W vb (cneg lb) (M.dec (cup lb)) (cden lb) → Calls Tryz.prog 43 #[va, vb] W fun e w' => e = .returned (.int .i64 (cmpQ (qV la) (qV lb))) ∧ Below W.heap.size W w') := by
    intro W va vb hva hvb
    have h := pcmp_calls W va vb _ _ _ _ _ _ K hva hvb k1 (by rw [e1]; exact l1) k2 (by rw [e2]; exact l2) (by omega)
    rw [e1, e2, cmp_qV hca hcb] at h
    exact h
  generalize cmpQ (qV la) (qV lb) = c at *
  replace bA := hide bA
  clear ha hb t0 t1 hM hM' hT hca hcb hz k1 k2 l1 l2 c1 c2 e1 e2 TT hKe
  go_enter Tryz.func28, Tryz.ntmps28
  go_upto_region 4 with (go_at_call 39; (with_reducible refine q1.out.mono ?_); rintro e w1 ⟨⟨rfl, h1⟩, b1_1⟩; obtain ⟨b1, x1, x2, x3, x4, y1, y2, y3, y4, b2, p1, p2, p3, p4, r1, r2, r3, r4, A1, da, db, B1⟩ := h1; obtain rfl : b1 = cneg la := DenR.sign da; obtain rfl : b2 = cneg lb := DenR.sign db; obtain ⟨⟨z0, z1, z2, z3, z4, z5, z6, z7, z8, z9⟩, -⟩ := cells10 A1; replace A1 := hide A1; replace da := hide da; replace db := hide db; replace B1 := hide B1; replace b1_1 : Below W0.heap.size W0 w1 := (by rw [HZ.out]; exact b1_1))
  have S0 := hide (And.intro z0 (And.intro z1 (And.intro z2 (And.intro z3 (And.intro z4 (And.intro z5 (And.intro z6 (And.intro z7 (And.intro z8 z9)))))))))
  clear z0 z1 z2 z3 z4 z5 z6 z7 z8 z9 q1 A1
  go_region_held3
    (fun w' => w'.cell? ⟨w.heap.size + 1, 0, none⟩ = some (.bool (cneg la)) ∧ w'.cell? ⟨w.heap.size + 1, 1, none⟩ = some (.int .u64 x1) ∧ w'.cell? ⟨w.heap.size + 1, 2, none⟩ = some (.slice x2 x3 x4) ∧ w'.cell? ⟨w.heap.size + 1, 3, none⟩ = some (.int .u64 y1) ∧ w'.cell? ⟨w.heap.size + 1, 4, none⟩ = some (.slice y2 y3 y4) ∧ w'.cell? ⟨w.heap.size + 1, 5, none⟩ = some (.bool (cneg lb)) ∧ w'.cell? ⟨w.heap.size + 1, 6, none⟩ = some (.int .u64 p1) ∧ w'.cell? ⟨w.heap.size + 1, 7, none⟩ = some (.slice p2 p3 p4) ∧ w'.cell? ⟨w.heap.size + 1, 8, none⟩ = some (.int .u64 r1) ∧ w'.cell? ⟨w.heap.size + 1, 9, none⟩ = some (.slice r2 r3 r4))
    ((repeat (first | with_reducible exact S0.out | with_reducible refine bare10_keep ?_ bc | with_reducible refine bare10_keep ?_ ((Below.refl _ _).drew))))
    (first
      | (go_at_call 43; refine (QQ.out _ _ _ (da.out.below (by repeat (first | with_reducible exact Below.refl _ _ | with_reducible refine Below.drew ?_ | with_reducible refine Below.then_below ?_ (alloc_below _ _)))) (db.out.below (by repeat (first | with_reducible exact Below.refl _ _ | with_reducible refine Below.drew ?_ | with_reducible refine Below.then_below ?_ (alloc_below _ _))))).mono ?_; rintro e wc ⟨rfl, bc⟩))
  go_wp2_with fail
  go_ret2
  exact ⟨rfl, (bA.out.then_below b1_1).then_below (by repeat (first | with_reducible exact Below.refl _ _ | with_reducible refine Below.drew ?_ | with_reducible refine Below.then_below ?_ (alloc_below _ _) | with_reducible refine Below.then_below ?_ bc))⟩
theorem quoT_no {la lb : List UInt8} (h : (canB la && canB lb) = false) : quoT la lb = ([], 1) := by unfold quoT; rw [h]; rfl
theorem cmpT_no {la lb : List UInt8} (h : (canB la && canB lb) = false) : cmpT la lb = (0, 1) := by unfold cmpT; rw [h]; rfl
theorem cmpT_yes {la lb : List UInt8} (ha : CanT la) (hb : CanT lb) : cmpT la lb = (cmpQ (qV la) (qV lb), 0) := by unfold cmpT; rw [(canB_iff la).2 ha, (canB_iff lb).2 hb]; rfl
theorem quoT_zero {la lb : List UInt8} (ha : CanT la) (hb : CanT lb) (hz : qV lb = 0) : quoT la lb = ([], 2) := by unfold quoT; rw [(canB_iff la).2 ha, (canB_iff lb).2 hb, Bool.and_self, if_pos rfl, if_pos hz]
theorem quoT_yes {la lb : List UInt8} (ha : CanT la) (hb : CanT lb) (hz : qV lb ≠ 0) : quoT la lb = (qT (qV la / qV lb), 0) := by unfold quoT; rw [(canB_iff la).2 ha, (canB_iff lb).2 hb, Bool.and_self, if_pos rfl, if_neg hz]
theorem numQuo_calls (w : World) (sa sb : ByteArray) (la lb : List UInt8) (ha : sa.data.toList = la) (hb : sb.data.toList = lb) (hla : la.length ≤ 1073741824) (hlb : lb.length ≤ 1073741824) (m : Int) (hM : w.cell? ⟨3, 0, none⟩ = some (.int .i64 m)) (hT : Tab w) (hP : Pows w) :
    Calls Tryz.prog 27 #[.string sa, .string sb] w fun e w' => e = .returned (.tuple #[.string ⟨(quoT la lb).1.toArray⟩, .int .i64 (quoT la lb).2]) ∧ Below w.heap.size w w' := by
  cases hk : canB la && canB lb with
  | false =>
    rw [quoT_no hk]
    exact numQuo_no w sa sb la lb ha hb hla hlb m hM hT hk
  | true =>
    obtain ⟨hca, hcb⟩ := both_of hk
    by_cases hz : qV lb = 0
    · rw [quoT_zero hca hcb hz]
      exact numQuo_zero w sa sb la lb ha hb hla hlb m hM hT hca hcb ((qV_zero_iff hcb).1 hz)
    · rw [quoT_yes hca hcb hz]
      exact numQuo_yes w sa sb la lb ha hb hla hlb m hM hT hP hca hcb (Nat.pos_of_ne_zero (fun e => hz ((qV_zero_iff hcb).2 e)))
theorem numCmp_calls (w : World) (sa sb : ByteArray) (la lb : List UInt8) (ha : sa.data.toList = la) (hb : sb.data.toList = lb) (hla : la.length ≤ 1073741824) (hlb : lb.length ≤ 1073741824) (m : Int) (hM : w.cell? ⟨3, 0, none⟩ = some (.int .i64 m)) (hT : Tab w) :
    Calls Tryz.prog 28 #[.string sa, .string sb] w fun e w' => e = .returned (.tuple #[.int .i64 (cmpT la lb).1, .int .i64 (cmpT la lb).2]) ∧ Below w.heap.size w w' := by
  cases hk : canB la && canB lb with
  | false =>
    rw [cmpT_no hk]
    exact numCmp_no w sa sb la lb ha hb hla hlb m hM hT hk
  | true =>
    obtain ⟨hca, hcb⟩ := both_of hk
    rw [cmpT_yes hca hcb]
    exact numCmp_yes w sa sb la lb ha hb hla hlb m hM hT hca hcb
end Go.Proofs.YtlepicdpelkmlaaGreatDoor
