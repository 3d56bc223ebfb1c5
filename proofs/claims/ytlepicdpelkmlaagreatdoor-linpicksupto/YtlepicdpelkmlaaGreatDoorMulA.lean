/- Laid together of: CanMath, RatNumeral, RatParse, RatParse2. -/
import Derived.Test.YtlepicdpelkmlaaGreatDoorRefD
/- ==== CanMath ==== -/
namespace Go.Proofs.YtlepicdpelkmlaaGreatDoor
open Go.RowKit
set_option linter.unusedVariables false
/-- Is there a stroke? -/
def cslash (l : List UInt8) : Bool := (Lib.cut (Lib.trimPrefix l [45]) [47]).2.2
/-- A canonical text. -/
def CanT (l : List UInt8) : Prop :=
  Lit (cup l) ∧ (cneg l = true → cup l ≠ [48]) ∧ (cslash l = true → Lit (clow l) ∧ clow l ≠ [48] ∧ clow l ≠ [49] ∧ Nat.gcd (M.dec (cup l)) (M.dec (clow l)) = 1)
def ctext (neg : Bool) (u : List UInt8) (b : Bool) (lo : List UInt8) : List UInt8 := (if neg then [45] else []) ++ (u ++ (if b then 47 :: lo else []))
theorem minus_cases (l : List UInt8) : (l = 45 :: Lib.trimPrefix l [45] ∧ cneg l = true) ∨ (l = Lib.trimPrefix l [45] ∧ cneg l = false) := by
  unfold cneg
  cases l with
  | nil => exact .inr ⟨minus_nil.symm, by rw [minus_nil]; rfl⟩
  | cons b t =>
    by_cases hb : b = 45
    · subst hb
      exact .inl ⟨by rw [minus_yes], by rw [minus_yes]; exact decide_eq_true (by simp)⟩
    · exact .inr ⟨by rw [minus_no b t hb], by rw [minus_no b t hb]; exact decide_eq_false (by omega)⟩
theorem cut_struct (t : List UInt8) : t = (Lib.cut t [47]).1 ++ (if (Lib.cut t [47]).2.2 then 47 :: (Lib.cut t [47]).2.1 else []) := by
  rcases first_at 47 t with h | ⟨q, hq, hb, hno⟩
  · rw [cut_none t h]
    simp
  · rw [cut_at t q hno hq hb]
    have : t[q]'hq = 47 := by rw [List.getD_eq_getElem?_getD, List.getElem?_eq_getElem hq] at hb; simpa using hb
    rw [if_pos rfl, ← this, ← List.drop_eq_getElem_cons hq, List.take_append_drop]
theorem cstruct (l : List UInt8) : l = ctext (cneg l) (cup l) (cslash l) (clow l) := by
  have h := cut_struct (Lib.trimPrefix l [45])
  have e : (if cslash l then 47 :: clow l else []) = (if (Lib.cut (Lib.trimPrefix l [45]) [47]).2.2 then 47 :: (Lib.cut (Lib.trimPrefix l [45]) [47]).2.1 else []) := by
    unfold cslash clow
    cases (Lib.cut (Lib.trimPrefix l [45]) [47]).2.2 <;> simp
  unfold ctext
  rw [e, show cup l = (Lib.cut (Lib.trimPrefix l [45]) [47]).1 from rfl, ← h]
  rcases minus_cases l with ⟨h1, h2⟩ | ⟨h1, h2⟩
  · rw [h2]; simpa using h1
  · rw [h2]; simpa using h1
theorem digs_no {u : List UInt8} (h : M.Digs u) (j : Nat) (hj : j < u.length) : u.getD j 0 ≠ 47 ∧ u.getD j 0 ≠ 45 := by
  have := digit_at h hj
  constructor <;> (intro e; rw [e] at this; exact absurd this (by decide))
theorem ctext_trim (neg : Bool) {u : List UInt8} (b : Bool) (lo : List UInt8) (hu : Good u) : Lib.trimPrefix (ctext neg u b lo) [45] = u ++ (if b then 47 :: lo else []) := by
  unfold ctext
  cases neg with
  | true => simpa using minus_yes _
  | false =>
    obtain ⟨hne, hd⟩ := hu
    cases u with
    | nil => exact absurd rfl hne
    | cons c r =>
      have hc : c ≠ 45 := by simpa using (digs_no hd 0 (by simp)).2
      simpa using minus_no c _ hc
theorem ctext_cut {u : List UInt8} (b : Bool) (lo : List UInt8) (hu : Good u) : Lib.cut (u ++ (if b then 47 :: lo else [])) [47] = (u, if b then lo else [], b) := by
  have hno : ∀ (r : List UInt8) j, j < u.length → (u ++ r).getD j 0 ≠ 47 := fun r j hj => by
    rw [List.getD_eq_getElem?_getD, List.getElem?_append_left hj, ← List.getD_eq_getElem?_getD]
    exact (digs_no hu.2 j hj).1
  cases b with
  | true =>
    rw [if_pos rfl, cut_at _ u.length (hno _) (by simp) (by simp [List.getD_eq_getElem?_getD])]
    simp
  | false =>
    rw [if_neg (by simp), List.append_nil, cut_none u (fun j hj => (digs_no hu.2 j hj).1)]
    simp
theorem ctext_parts (neg : Bool) {u : List UInt8} (b : Bool) (lo : List UInt8) (hu : Good u) :
    cneg (ctext neg u b lo) = neg ∧ cup (ctext neg u b lo) = u ∧ cslash (ctext neg u b lo) = b ∧ clow (ctext neg u b lo) = if b then lo else [49] := by
  have h := ctext_trim neg b lo hu
  have h2 := ctext_cut b lo hu
  refine ⟨?_, ?_, ?_, ?_⟩
  · unfold cneg
    rw [h]
    unfold ctext
    cases neg <;> simp
  · unfold cup
    rw [h, h2]
  · unfold cslash
    rw [h, h2]
  · unfold clow
    rw [h, h2]
    cases b <;> rfl
theorem lit_numeral {u : List UInt8} (h : Lit u) : u = Lib.decDigits (M.dec u) := by
  refine M.numeral h.1.2 h.1.1 (fun x l' e hx => ?_)
  rcases h.2 with h1 | h1
  · rw [e] at h1
    exact List.length_eq_zero_iff.1 (by simpa using h1)
  · rw [e, hx] at h1
    exact absurd rfl h1
theorem good_digits (n : Nat) : Good (Lib.decDigits n) := ⟨M.decDigits_ne n, M.Digs.decDigits n⟩
theorem rText_ctext (neg : Bool) (n d : Nat) (hd : 0 < d) : rText neg n d = ctext neg (Lib.decDigits n) (decide (d ≠ 1)) (Lib.decDigits d) := by
  unfold rText ctext
  by_cases h : d = 1
  · rw [if_pos h, ratText_whole _ _ _ rfl, decide_eq_false (fun h2 => h2 h)]
    simp
  · rw [if_neg h, ratText_frac _ _ _ (by omega), decide_eq_true h]
    simp
theorem dec_zero {u : List UInt8} (h : Lit u) : M.dec u = 0 ↔ u = [48] := by
  constructor
  · intro e
    rw [lit_numeral h, e, Lib.decDigits_one (by decide)]
    rfl
  · intro e
    rw [e]
    rfl
theorem dec_one {u : List UInt8} (h : Lit u) : M.dec u = 1 ↔ u = [49] := by
  constructor
  · intro e
    rw [lit_numeral h, e, Lib.decDigits_one (by decide)]
    rfl
  · intro e
    rw [e]
    rfl
theorem clow_plain {l : List UInt8} (h : cslash l = false) : clow l = [49] := by
  unfold cslash at h
  unfold clow
  rw [h]
  rfl
theorem can_text (l : List UInt8) (hu : Lit (cup l)) (hlo : Lit (clow l)) (h0 : clow l ≠ [48]) :
    rText (cneg l && !decide (M.dec (cup l) = 0)) (M.dec (cup l) / Nat.gcd (M.dec (cup l)) (M.dec (clow l))) (M.dec (clow l) / Nat.gcd (M.dec (cup l)) (M.dec (clow l))) = l ↔ CanT l := by
  have hd : 0 < M.dec (clow l) := Nat.pos_of_ne_zero (fun e => h0 ((dec_zero hlo).1 e))
  have hg : 0 < Nat.gcd (M.dec (cup l)) (M.dec (clow l)) := Nat.gcd_pos_of_pos_right _ hd
  have hd' : 0 < M.dec (clow l) / Nat.gcd (M.dec (cup l)) (M.dec (clow l)) := Nat.div_pos (Nat.gcd_le_right _ hd) hg
  rw [rText_ctext _ _ _ hd']
  constructor
  · intro h
    obtain ⟨p1, p2, p3, p4⟩ := ctext_parts (cneg l && !decide (M.dec (cup l) = 0)) (decide (M.dec (clow l) / Nat.gcd (M.dec (cup l)) (M.dec (clow l)) ≠ 1)) (Lib.decDigits (M.dec (clow l) / Nat.gcd (M.dec (cup l)) (M.dec (clow l)))) (good_digits (M.dec (cup l) / Nat.gcd (M.dec (cup l)) (M.dec (clow l))))
    rw [h] at p1 p2 p3 p4
    refine ⟨hu, fun hn => ?_, fun hs => ?_⟩
    · rw [hn] at p1
      intro e
      rw [(dec_zero hu).2 e] at p1
      simp at p1
    · rw [hs] at p3
      have p5 := of_decide_eq_true p3.symm
      rw [← p3, if_pos rfl] at p4
      have p6 : M.dec (clow l) = M.dec (clow l) / Nat.gcd (M.dec (cup l)) (M.dec (clow l)) := by
        have := congrArg M.dec p4
        rwa [M.dec_decDigits] at this
      refine ⟨hlo, h0, fun e => ?_, ?_⟩
      · rw [← p6] at p5
        exact p5 ((dec_one hlo).2 e)
      · generalize Nat.gcd (M.dec (cup l)) (M.dec (clow l)) = g at *
        rcases Nat.lt_or_ge g 2 with h2 | h2
        · omega
        · have := Nat.div_lt_self hd h2
          omega
  · rintro ⟨_, h1, h2⟩
    have hn : (cneg l && !decide (M.dec (cup l) = 0)) = cneg l := by
      cases hc : cneg l with
      | false => rfl
      | true => simpa using fun e => h1 hc ((dec_zero hu).1 e)
    rw [hn]
    cases hs : cslash l with
    | true =>
      obtain ⟨_, _, h3, h4⟩ := h2 hs
      have h5 : M.dec (clow l) ≠ 1 := fun e => h3 ((dec_one hlo).1 e)
      rw [h4, Nat.div_one, Nat.div_one, decide_eq_true h5, ← lit_numeral hu, ← lit_numeral hlo]
      have := cstruct l
      rw [hs] at this
      exact this.symm
    | false =>
      have e := clow_plain hs
      rw [e, show M.dec [49] = 1 from rfl, Nat.gcd_one_right, Nat.div_one, Nat.div_one, decide_eq_false (by simp), ← lit_numeral hu]
      have := cstruct l
      rw [hs] at this
      rw [show ctext (cneg l) (cup l) false (Lib.decDigits 1) = ctext (cneg l) (cup l) false (clow l) from by unfold ctext; simp]
      exact this.symm
end Go.Proofs.YtlepicdpelkmlaaGreatDoor
/- ==== RatNumeral ==== -/
namespace Go.Proofs.YtlepicdpelkmlaaGreatDoor
open Go.RowKit
set_option linter.unusedVariables false
set_option maxRecDepth 100000 in
set_option maxHeartbeats 4000000 in
theorem isNumeral_calls (w : World) (s : ByteArray) (l : List UInt8) (hs : s.data.toList = l) (hlen : l.length ≤ 1099511627776) :
    Calls Tryz.prog 78 #[.string s] w fun e w' => e = .returned (.bool (decide (Lit l))) ∧ w' = w := by
  obtain ⟨gb, hgb⟩ : ∃ gb, decide (Lit l) = gb := ⟨_, rfl⟩
  rw [hgb]
  replace hgb := hide hgb
  have hz := size_of s l hs
  have HL := hide hs
  clear hs
  by_cases he : l = []
  · have hG : Hid (gb = false) := by rw [← hgb.out]; exact decide_eq_false (fun hA => hA.1.1 he)
    have hse : s = ⟨#[]⟩ := by
      have := HL.out
      rw [he] at this
      cases s with
      | mk data => simp at this; rw [this]
    subst hse
    clear he
    go_enter Tryz.func78, Tryz.ntmps78
    go_wp2
    go_ret
    exact ⟨congrArg (fun b => Ending.returned (.bool b)) hG.out.symm, rfl⟩
  · have h0 : 0 < l.length := List.length_pos_iff.2 he
    have hqs : 0 < s.size := by omega
    have hb0 := byteAt s l HL.out 0 hqs
    have hse : (s.toList == []) = false := by
      rw [← str_toList, HL.out]
      cases l with
      | nil => exact absurd rfl he
      | cons a b => rfl
    have hse2 : ¬ s.toList = [] := by rw [← str_toList, HL.out]; exact he
    have hse3 : ¬ s.data.toList = [] := by rw [HL.out]; exact he
    have hse4 : ¬ s = ⟨#[]⟩ := by rintro rfl; exact hse3 rfl
    have hgen : Hid (∀ b : UInt8, b.toNat = 48 ↔ b = 48) := fun b => ⟨fun h => UInt8.toNat_inj.1 (by simpa using h), fun h => by rw [h]; rfl⟩
    have hLit : Hid (∀ c, l.getD 0 0 = c → (gb = true ↔ M.Digs l ∧ (l.length = 1 ∨ c ≠ 48))) := fun c hc => by
      rw [← hgb.out, ← hc]
      exact ⟨fun h => ⟨(of_decide_eq_true h).1.2, (of_decide_eq_true h).2⟩, fun h => decide_eq_true ⟨⟨he, h.1⟩, h.2⟩⟩
    have hb256 : (l.getD 0 0).toNat < 256 := UInt8.toNat_lt _
    clear hgb he
    obtain ⟨c, hc⟩ : ∃ c, l.getD 0 0 = c := ⟨_, rfl⟩
    have hL2 := hide (hLit.out c hc)
    rw [hc] at hb0 hb256
    replace hc := hide hc
    clear hLit
    by_cases h1 : c.toNat = 48 ∧ 1 < l.length
    · obtain ⟨h48, h1⟩ := h1
      have hG : Hid (gb = false) := by
        cases hq : gb with
        | false => rfl
        | true =>
          rcases (hL2.out.1 hq).2 with h | h
          · omega
          · exact absurd ((hgen.out c).1 h48) h
      have h2 : (1 : Int) < (l.length : Int) := by omega
      go_enter Tryz.func78, Tryz.ntmps78
      go_wp2
      go_ret
      exact ⟨congrArg (fun b => Ending.returned (.bool b)) hG.out.symm, rfl⟩
    · have hL3 : Hid (gb = true ↔ M.Digs l) := by
        show _ ↔ _
        rw [hL2.out]
        refine ⟨fun h => h.1, fun h => ⟨h, ?_⟩⟩
        by_cases h48 : c.toNat = 48
        · left; omega
        · right; exact fun e => h48 ((hgen.out c).2 e)
      have hsplit : (c.toNat = 48 ∧ ¬ (1 : Int) < (l.length : Int)) ∨ ¬ c.toNat = 48 := by omega
      clear hL2 h1
      rcases hsplit with ⟨k1, k2⟩ | k1
      ·
        go_enter Tryz.func78, Tryz.ntmps78
        go_wp2
        go_loopw [18] (fun j wr' => ∃ q : Nat, q ≤ l.length ∧ j = .int .i64 q ∧ Hid (M.Digs (l.take q)) ∧ wr' = w) (fun j _ => l.length - (intOf j).toNat)
        case atStart => exact ⟨0, Nat.zero_le _, rfl, fun b hb => by simp at hb, rfl⟩
        case round =>
          obtain ⟨q, hq, rfl, hd, hw⟩ := hrel
          subst hw
          by_cases hlt2 : q < l.length
          · have hqs : q < s.size := by omega
            have hb := byteAt s l HL.out q hqs
            have hgo := hide (fun h1 h2 => digs_take_succ hd.out hlt2 h1 h2)
            have hno := hide (fun h => not_digs hlt2 h)
            have hbb : (l.getD q 0).toNat < 256 := UInt8.toNat_lt _
            generalize l.getD q 0 = b at *
            have hbad : Hid (¬ (48 ≤ b.toNat ∧ b.toNat ≤ 57) → gb = false) := fun h => by
              cases hq : gb with
              | false => rfl
              | true => exact absurd (hL3.out.1 hq) (hno.out h)
            by_cases h48 : b.toNat < 48
            · go_wp2
              go_ret
              exact ⟨congrArg (fun b => Ending.returned (.bool b)) (hbad.out (by omega)).symm, rfl⟩
            · by_cases h57 : 57 < b.toNat
              · go_wp2
                go_ret
                exact ⟨congrArg (fun b => Ending.returned (.bool b)) (hbad.out (by omega)).symm, rfl⟩
              · go_wp2
                go_roundw
                case rel => exact ⟨q + 1, by omega, by simp, hgo.out (by omega) (by omega), trivial⟩
                case measure => simp [intOf]; omega
          · obtain rfl : q = l.length := by omega
            rw [List.take_length] at hd
            have hG : Hid (gb = true) := hL3.out.2 hd.out
            go_wp2
            go_ret
            exact ⟨congrArg (fun b => Ending.returned (.bool b)) hG.out.symm, rfl⟩
      ·
        go_enter Tryz.func78, Tryz.ntmps78
        go_wp2
        go_loopw [18] (fun j wr' => ∃ q : Nat, q ≤ l.length ∧ j = .int .i64 q ∧ Hid (M.Digs (l.take q)) ∧ wr' = w) (fun j _ => l.length - (intOf j).toNat)
        case atStart => exact ⟨0, Nat.zero_le _, rfl, fun b hb => by simp at hb, rfl⟩
        case round =>
          obtain ⟨q, hq, rfl, hd, hw⟩ := hrel
          subst hw
          by_cases hlt2 : q < l.length
          · have hqs : q < s.size := by omega
            have hb := byteAt s l HL.out q hqs
            have hgo := hide (fun h1 h2 => digs_take_succ hd.out hlt2 h1 h2)
            have hno := hide (fun h => not_digs hlt2 h)
            have hbb : (l.getD q 0).toNat < 256 := UInt8.toNat_lt _
            generalize l.getD q 0 = b at *
            have hbad : Hid (¬ (48 ≤ b.toNat ∧ b.toNat ≤ 57) → gb = false) := fun h => by
              cases hq : gb with
              | false => rfl
              | true => exact absurd (hL3.out.1 hq) (hno.out h)
            by_cases h48 : b.toNat < 48
            · go_wp2
              go_ret
              exact ⟨congrArg (fun b => Ending.returned (.bool b)) (hbad.out (by omega)).symm, rfl⟩
            · by_cases h57 : 57 < b.toNat
              · go_wp2
                go_ret
                exact ⟨congrArg (fun b => Ending.returned (.bool b)) (hbad.out (by omega)).symm, rfl⟩
              · go_wp2
                go_roundw
                case rel => exact ⟨q + 1, by omega, by simp, hgo.out (by omega) (by omega), trivial⟩
                case measure => simp [intOf]; omega
          · obtain rfl : q = l.length := by omega
            rw [List.take_length] at hd
            have hG : Hid (gb = true) := hL3.out.2 hd.out
            go_wp2
            go_ret
            exact ⟨congrArg (fun b => Ending.returned (.bool b)) hG.out.symm, rfl⟩
end Go.Proofs.YtlepicdpelkmlaaGreatDoor
/- ==== RatParse ==== -/
namespace Go.Proofs.YtlepicdpelkmlaaGreatDoor
open Go.RowKit
set_option linter.unusedVariables false
theorem str_ne {S : ByteArray} {u v : List UInt8} (hs : S.data.toList = u) (h : u ≠ v) : (S.toList == v) = false ∧ ¬ S.toList = v ∧ ¬ S.data.toList = v ∧ ¬ S = ⟨v.toArray⟩ := by
  have h3 : ¬ S.data.toList = v := by rw [hs]; exact h
  have h2 : ¬ S.toList = v := by rw [← str_toList]; exact h3
  refine ⟨by simpa using h2, h2, h3, ?_⟩
  rintro rfl
  exact h3 (by simp)
theorem str_is {S : ByteArray} {v : List UInt8} (hs : S.data.toList = v) : S = ⟨v.toArray⟩ := by
  cases S with
  | mk data => simp at hs; rw [← hs]
set_option maxRecDepth 100000 in
set_option maxHeartbeats 4000000 in
theorem parse_bad_u (w : World) (s : ByteArray) (l t u lo : List UInt8) (b : Bool) (hs : s.data.toList = l) (hl : l.length ≤ 1073741824) (m : Int) (hM : w.cell? ⟨3, 0, none⟩ = some (.int .i64 m)) (ht : Lib.trimPrefix l [45] = t)
    (hc : Lib.cut t [47] = (u, lo, b)) (hG : ¬ Lit u) :
    Calls Tryz.prog 56 #[.string s] w fun e w' => e = .returned (.tuple #[.agg #[.bool false, .int .u64 0, .slice none 0 0, .int .u64 0, .slice none 0 0], .bool false]) ∧ Below w.heap.size w w' := by
  obtain ⟨W0, hW0⟩ : ∃ W0, w.alloc (.cells #[.bool false, .int .u64 0, .slice none 0 0, .int .u64 0, .slice none 0 0] 92) = W0 := ⟨_, rfl⟩
  have B0 : Hid (Below w.heap.size w W0) := by rw [← hW0]; exact (Below.refl _ w).alloc (Nat.le_refl _) _
  have A0 : Hid (W0.heap[w.heap.size]? = some (.cells #[.bool false, .int .u64 0, .slice none 0 0, .int .u64 0, .slice none 0 0] 92 (0, 0))) := by rw [← hW0]; exact heap_alloc_new w _
  have hM0 : W0.cell? ⟨3, 0, none⟩ = some (.int .i64 m) := by rw [B0.out.cell (World.block_lt_of_cell? w _ hM)]; exact hM
  have q1 := hide (Tryz.strings_TrimPrefix s ⟨#[45]⟩ W0)
  rw [hs, show (ByteArray.mk #[45]).data.toList = [45] from rfl, ht] at q1
  have hlt : t.length ≤ l.length := by rw [← ht]; unfold Lib.trimPrefix; split <;> simp
  have hcut1 := cut_le1 t
  have hcut2 := cut_le2 t
  have hts : (ByteArray.mk t.toArray).data.toList = t := by simp
  have hsz := size_of s l hs
  have htz := size_of (ByteArray.mk t.toArray) t hts
  have q2 := hide (Tryz.strings_Cut (ByteArray.mk t.toArray) ⟨#[47]⟩ m W0 (by omega) hM0)
  rw [hts, show (ByteArray.mk #[47]).data.toList = [47] from rfl, hc] at q2
  rw [hc] at hcut1 hcut2
  simp only at hcut1 hcut2 q2
  generalize ByteArray.mk t.toArray = S at *
  have hus : (ByteArray.mk u.toArray).data.toList = u := by simp
  have huz := size_of (ByteArray.mk u.toArray) u hus
  generalize ByteArray.mk u.toArray = SU at *
  have hls : (ByteArray.mk lo.toArray).data.toList = lo := by simp
  generalize ByteArray.mk lo.toArray = SL at *
  have hlz := size_of SL lo hls
  clear hM0 hM hc
  go_enter Tryz.func56, Tryz.ntmps56
  go_wp2_with fail
  refine q1.out.mono ?_
  rintro e w1 ⟨rfl, hw1⟩
  rw [hw1]
  clear hw1 w1
  go_wp2_with fail
  refine q2.out.mono ?_
  rintro e w1 ⟨rfl, nd, hw1⟩
  have B1 : Hid (Below W0.heap.size W0 w1) := by rw [hw1]; exact drewN_below W0 nd
  clear hw1 q1 q2 hW0
  have q3 := hide (isNumeral_calls w1 SU u hus (by omega))
  rw [decide_eq_false hG] at q3
  clear hG
  have A1 := hide (kept_block A0.out B1.out)
  obtain ⟨⟨z0, z1, z2, z3, z4⟩, f0, f1, f2, f3, f4⟩ := ratBox A1.out
  go_wp2_with (go_at_call 78; (with_reducible refine q3.out.mono ?_); rintro e wx ⟨rfl, hwx⟩; rw [hwx])
  refine bodyPost_ret (v := .tuple #[.agg #[.bool false, .int .u64 0, .slice none 0 0, .int .u64 0, .slice none 0 0], .bool false]) (by simp [results, Tryz.results56, go_sem, z0, z1, z2, z3, z4]) rfl ?_
  exact ⟨rfl, (B0.out.then_below B1.out).then_grown (set5 _ _ _ _ _ _ _) (by rintro g ⟨⟩; exact Nat.le_refl _)⟩
set_option maxRecDepth 100000 in
set_option maxHeartbeats 4000000 in
theorem parse_bad_z (w : World) (s : ByteArray) (l t u lo : List UInt8) (b : Bool) (hs : s.data.toList = l) (hl : l.length ≤ 1073741824) (m : Int) (hM : w.cell? ⟨3, 0, none⟩ = some (.int .i64 m)) (ht : Lib.trimPrefix l [45] = t)
    (hc : Lib.cut t [47] = (u, lo, b)) (hG : Lit u) (hn : t.length < l.length) (hu : u = [48]) :
    Calls Tryz.prog 56 #[.string s] w fun e w' => e = .returned (.tuple #[.agg #[.bool false, .int .u64 0, .slice none 0 0, .int .u64 0, .slice none 0 0], .bool false]) ∧ Below w.heap.size w w' := by
  obtain ⟨W0, hW0⟩ : ∃ W0, w.alloc (.cells #[.bool false, .int .u64 0, .slice none 0 0, .int .u64 0, .slice none 0 0] 92) = W0 := ⟨_, rfl⟩
  have B0 : Hid (Below w.heap.size w W0) := by rw [← hW0]; exact (Below.refl _ w).alloc (Nat.le_refl _) _
  have A0 : Hid (W0.heap[w.heap.size]? = some (.cells #[.bool false, .int .u64 0, .slice none 0 0, .int .u64 0, .slice none 0 0] 92 (0, 0))) := by rw [← hW0]; exact heap_alloc_new w _
  have hM0 : W0.cell? ⟨3, 0, none⟩ = some (.int .i64 m) := by rw [B0.out.cell (World.block_lt_of_cell? w _ hM)]; exact hM
  have q1 := hide (Tryz.strings_TrimPrefix s ⟨#[45]⟩ W0)
  rw [hs, show (ByteArray.mk #[45]).data.toList = [45] from rfl, ht] at q1
  have hlt : t.length ≤ l.length := by rw [← ht]; unfold Lib.trimPrefix; split <;> simp
  have hcut1 := cut_le1 t
  have hcut2 := cut_le2 t
  have hts : (ByteArray.mk t.toArray).data.toList = t := by simp
  have hsz := size_of s l hs
  have htz := size_of (ByteArray.mk t.toArray) t hts
  have q2 := hide (Tryz.strings_Cut (ByteArray.mk t.toArray) ⟨#[47]⟩ m W0 (by omega) hM0)
  rw [hts, show (ByteArray.mk #[47]).data.toList = [47] from rfl, hc] at q2
  rw [hc] at hcut1 hcut2
  simp only at hcut1 hcut2 q2
  generalize ByteArray.mk t.toArray = S at *
  have hus : (ByteArray.mk u.toArray).data.toList = u := by simp
  have huz := size_of (ByteArray.mk u.toArray) u hus
  generalize ByteArray.mk u.toArray = SU at *
  have hls : (ByteArray.mk lo.toArray).data.toList = lo := by simp
  generalize ByteArray.mk lo.toArray = SL at *
  have hlz := size_of SL lo hls
  clear hM0 hM hc
  go_enter Tryz.func56, Tryz.ntmps56
  go_wp2_with fail
  refine q1.out.mono ?_
  rintro e w1 ⟨rfl, hw1⟩
  rw [hw1]
  clear hw1 w1
  go_wp2_with fail
  refine q2.out.mono ?_
  rintro e w1 ⟨rfl, nd, hw1⟩
  have B1 : Hid (Below W0.heap.size W0 w1) := by rw [hw1]; exact drewN_below W0 nd
  clear hw1 q1 q2 hW0
  have q3 := hide (isNumeral_calls w1 SU u hus (by omega))
  rw [decide_eq_true hG] at q3
  clear hG
  have hn' : (t.length : Int) < (l.length : Int) := by omega
  have hSU : SU = ⟨#[48]⟩ := by rw [hu] at hus; exact str_is hus
  subst hSU
  clear huz hus hu hcut1
  have A1 := hide (kept_block A0.out B1.out)
  obtain ⟨⟨z0, z1, z2, z3, z4⟩, f0, f1, f2, f3, f4⟩ := ratBox A1.out
  go_wp2_with (go_at_call 78; (with_reducible refine q3.out.mono ?_); rintro e wx ⟨rfl, hwx⟩; rw [hwx])
  refine bodyPost_ret (v := .tuple #[.agg #[.bool false, .int .u64 0, .slice none 0 0, .int .u64 0, .slice none 0 0], .bool false]) (by simp [results, Tryz.results56, go_sem, z0, z1, z2, z3, z4]) rfl ?_
  exact ⟨rfl, (B0.out.then_below B1.out).then_grown (set5 _ _ _ _ _ _ _) (by rintro g ⟨⟩; exact Nat.le_refl _)⟩
set_option maxRecDepth 100000 in
set_option maxHeartbeats 4000000 in
theorem parse_whole (w : World) (s : ByteArray) (l t u lo : List UInt8) (neg : Bool) (hs : s.data.toList = l) (hl : l.length ≤ 1073741824) (m : Int) (hM : w.cell? ⟨3, 0, none⟩ = some (.int .i64 m)) (ht : Lib.trimPrefix l [45] = t)
    (hc : Lib.cut t [47] = (u, lo, false)) (hG : Lit u) (hn : decide (t.length < l.length) = neg) (hz : neg = true → u ≠ [48]) :
    Calls Tryz.prog 56 #[.string s] w fun e w' => (∃ r, e = .returned (.tuple #[r, .bool true]) ∧ DenR w' r neg (M.dec u) 0) ∧ Below w.heap.size w w' := by
  obtain ⟨W0, hW0⟩ : ∃ W0, w.alloc (.cells #[.bool false, .int .u64 0, .slice none 0 0, .int .u64 0, .slice none 0 0] 92) = W0 := ⟨_, rfl⟩
  have B0 : Hid (Below w.heap.size w W0) := by rw [← hW0]; exact (Below.refl _ w).alloc (Nat.le_refl _) _
  have A0 : Hid (W0.heap[w.heap.size]? = some (.cells #[.bool false, .int .u64 0, .slice none 0 0, .int .u64 0, .slice none 0 0] 92 (0, 0))) := by rw [← hW0]; exact heap_alloc_new w _
  have hM0 : W0.cell? ⟨3, 0, none⟩ = some (.int .i64 m) := by rw [B0.out.cell (World.block_lt_of_cell? w _ hM)]; exact hM
  have q1 := hide (Tryz.strings_TrimPrefix s ⟨#[45]⟩ W0)
  rw [hs, show (ByteArray.mk #[45]).data.toList = [45] from rfl, ht] at q1
  have hlt : t.length ≤ l.length := by rw [← ht]; unfold Lib.trimPrefix; split <;> simp
  have hcut1 := cut_le1 t
  have hcut2 := cut_le2 t
  have hts : (ByteArray.mk t.toArray).data.toList = t := by simp
  have hsz := size_of s l hs
  have htz := size_of (ByteArray.mk t.toArray) t hts
  have q2 := hide (Tryz.strings_Cut (ByteArray.mk t.toArray) ⟨#[47]⟩ m W0 (by omega) hM0)
  rw [hts, show (ByteArray.mk #[47]).data.toList = [47] from rfl, hc] at q2
  rw [hc] at hcut1 hcut2
  simp only at hcut1 hcut2 q2
  generalize ByteArray.mk t.toArray = S at *
  have hus : (ByteArray.mk u.toArray).data.toList = u := by simp
  have huz := size_of (ByteArray.mk u.toArray) u hus
  generalize ByteArray.mk u.toArray = SU at *
  have hls : (ByteArray.mk lo.toArray).data.toList = lo := by simp
  generalize ByteArray.mk lo.toArray = SL at *
  have hlz := size_of SL lo hls
  clear hM0 hM hc
  go_enter Tryz.func56, Tryz.ntmps56
  go_wp2_with fail
  refine q1.out.mono ?_
  rintro e w1 ⟨rfl, hw1⟩
  rw [hw1]
  clear hw1 w1
  go_wp2_with fail
  refine q2.out.mono ?_
  rintro e w1 ⟨rfl, nd, hw1⟩
  have B1 : Hid (Below W0.heap.size W0 w1) := by rw [hw1]; exact drewN_below W0 nd
  clear hw1 q1 q2 hW0
  have q3 := hide (isNumeral_calls w1 SU u hus (by omega))
  rw [decide_eq_true hG] at q3
  have q4 := hide (parseNat_calls w1 SU u hus hG.1.2 (by omega))
  have hz2 : Hid ((neg && !decide (M.dec u = 0)) = neg) := by
    show _ = _
    cases hq : neg with
    | false => rfl
    | true => simpa using fun e => hz hq ((dec_zero hG).1 e)
  clear hG
  cases neg with
  | false =>
    have hn2 : ¬ t.length < l.length := of_decide_eq_false hn
    clear hn hz
    go_wp2_with (first
      | (go_at_call 78; (with_reducible refine q3.out.mono ?_); rintro e wx ⟨rfl, hwx⟩; rw [hwx])
      | (go_at_call 79; (with_reducible refine q4.out.mono ?_); rintro e wa ⟨⟨ra, rfl, na⟩, ba⟩; obtain ⟨x1, x2, x3, x4, rfl⟩ := na.shape2; replace na := hide na; replace ba := hide ba)
      | (go_at_call 71; refine (whole_calls _ false _ (M.dec u) (na.out.below (alloc_below wa _))).mono ?_; rintro e wb ⟨⟨rb, rfl, nb⟩, bb⟩; rw [hz2.out] at nb; obtain ⟨p1, p2, p3, p4, r1, r2, r3, r4, rfl, d1, d2⟩ := nb; have BW : Hid (Below W0.heap.size W0 wb) := ((B1.out.then_below ba.out).then_below (alloc_below wa _)).then_below bb; have A1 := hide (kept_block A0.out BW.out); obtain ⟨⟨z0, z1, z2, z3, z4⟩, f0, f1, f2, f3, f4⟩ := ratBox A1.out; replace d1 := hide d1; replace d2 := hide d2; clear bb))
    refine bodyPost_ret (v := .tuple #[.agg #[.bool false, .int .u64 p1, .slice p2 p3 p4, .int .u64 r1, .slice r2 r3 r4], .bool true]) (by simp [results, Tryz.results56, go_sem, z0, z1, z2, z3, z4]) rfl ?_
    have q := set5 wb w.heap.size (.bool false) (.int .u64 p1) (.slice p2 p3 p4) (.int .u64 r1) (.slice r2 r3 r4)
    exact ⟨⟨_, rfl, DenR.make d1.out d2.out A1.out (nopair5 _ _ _ _ _ _ _ _ _) q⟩, (B0.out.then_below BW.out).then_grown q (by rintro g ⟨⟩; exact Nat.le_refl _)⟩
  | true =>
    have hn2 : t.length < l.length := of_decide_eq_true hn
    obtain ⟨e1, e2, e3, e4⟩ := str_ne hus (hz rfl)
    clear hn hz
    go_wp2_with (first
      | (go_at_call 78; (with_reducible refine q3.out.mono ?_); rintro e wx ⟨rfl, hwx⟩; rw [hwx])
      | (go_at_call 79; (with_reducible refine q4.out.mono ?_); rintro e wa ⟨⟨ra, rfl, na⟩, ba⟩; obtain ⟨x1, x2, x3, x4, rfl⟩ := na.shape2; replace na := hide na; replace ba := hide ba)
      | (go_at_call 71; refine (whole_calls _ true _ (M.dec u) (na.out.below (alloc_below wa _))).mono ?_; rintro e wb ⟨⟨rb, rfl, nb⟩, bb⟩; rw [hz2.out] at nb; obtain ⟨p1, p2, p3, p4, r1, r2, r3, r4, rfl, d1, d2⟩ := nb; have BW : Hid (Below W0.heap.size W0 wb) := ((B1.out.then_below ba.out).then_below (alloc_below wa _)).then_below bb; have A1 := hide (kept_block A0.out BW.out); obtain ⟨⟨z0, z1, z2, z3, z4⟩, f0, f1, f2, f3, f4⟩ := ratBox A1.out; replace d1 := hide d1; replace d2 := hide d2; clear bb))
    refine bodyPost_ret (v := .tuple #[.agg #[.bool true, .int .u64 p1, .slice p2 p3 p4, .int .u64 r1, .slice r2 r3 r4], .bool true]) (by simp [results, Tryz.results56, go_sem, z0, z1, z2, z3, z4]) rfl ?_
    have q := set5 wb w.heap.size (.bool true) (.int .u64 p1) (.slice p2 p3 p4) (.int .u64 r1) (.slice r2 r3 r4)
    exact ⟨⟨_, rfl, DenR.make d1.out d2.out A1.out (nopair5 _ _ _ _ _ _ _ _ _) q⟩, (B0.out.then_below BW.out).then_grown q (by rintro g ⟨⟩; exact Nat.le_refl _)⟩
set_option maxRecDepth 100000 in
set_option maxHeartbeats 4000000 in
theorem parse_lo_bad (w : World) (s : ByteArray) (l t u lo : List UInt8) (neg : Bool) (hs : s.data.toList = l) (hl : l.length ≤ 1073741824) (m : Int) (hM : w.cell? ⟨3, 0, none⟩ = some (.int .i64 m)) (ht : Lib.trimPrefix l [45] = t)
    (hc : Lib.cut t [47] = (u, lo, true)) (hG : Lit u) (hn : decide (t.length < l.length) = neg) (hz : neg = true → u ≠ [48]) (hL : ¬ Lit lo) :
    Calls Tryz.prog 56 #[.string s] w fun e w' => e = .returned (.tuple #[.agg #[.bool false, .int .u64 0, .slice none 0 0, .int .u64 0, .slice none 0 0], .bool false]) ∧ Below w.heap.size w w' := by
  obtain ⟨W0, hW0⟩ : ∃ W0, w.alloc (.cells #[.bool false, .int .u64 0, .slice none 0 0, .int .u64 0, .slice none 0 0] 92) = W0 := ⟨_, rfl⟩
  have B0 : Hid (Below w.heap.size w W0) := by rw [← hW0]; exact (Below.refl _ w).alloc (Nat.le_refl _) _
  have A0 : Hid (W0.heap[w.heap.size]? = some (.cells #[.bool false, .int .u64 0, .slice none 0 0, .int .u64 0, .slice none 0 0] 92 (0, 0))) := by rw [← hW0]; exact heap_alloc_new w _
  have hM0 : W0.cell? ⟨3, 0, none⟩ = some (.int .i64 m) := by rw [B0.out.cell (World.block_lt_of_cell? w _ hM)]; exact hM
  have q1 := hide (Tryz.strings_TrimPrefix s ⟨#[45]⟩ W0)
  rw [hs, show (ByteArray.mk #[45]).data.toList = [45] from rfl, ht] at q1
  have hlt : t.length ≤ l.length := by rw [← ht]; unfold Lib.trimPrefix; split <;> simp
  have hcut1 := cut_le1 t
  have hcut2 := cut_le2 t
  have hts : (ByteArray.mk t.toArray).data.toList = t := by simp
  have hsz := size_of s l hs
  have htz := size_of (ByteArray.mk t.toArray) t hts
  have q2 := hide (Tryz.strings_Cut (ByteArray.mk t.toArray) ⟨#[47]⟩ m W0 (by omega) hM0)
  rw [hts, show (ByteArray.mk #[47]).data.toList = [47] from rfl, hc] at q2
  rw [hc] at hcut1 hcut2
  simp only at hcut1 hcut2 q2
  generalize ByteArray.mk t.toArray = S at *
  have hus : (ByteArray.mk u.toArray).data.toList = u := by simp
  have huz := size_of (ByteArray.mk u.toArray) u hus
  generalize ByteArray.mk u.toArray = SU at *
  have hls : (ByteArray.mk lo.toArray).data.toList = lo := by simp
  generalize ByteArray.mk lo.toArray = SL at *
  have hlz := size_of SL lo hls
  clear hM0 hM hc
  go_enter Tryz.func56, Tryz.ntmps56
  go_wp2_with fail
  refine q1.out.mono ?_
  rintro e w1 ⟨rfl, hw1⟩
  rw [hw1]
  clear hw1 w1
  go_wp2_with fail
  refine q2.out.mono ?_
  rintro e w1 ⟨rfl, nd, hw1⟩
  have B1 : Hid (Below W0.heap.size W0 w1) := by rw [hw1]; exact drewN_below W0 nd
  clear hw1 q1 q2 hW0
  have q3 := hide (isNumeral_calls w1 SU u hus (by omega))
  rw [decide_eq_true hG] at q3
  have q4 := hide (parseNat_calls w1 SU u hus hG.1.2 (by omega))
  have q5 := hide (fun W => isNumeral_calls W SL lo hls (by omega))
  rw [decide_eq_false hL] at q5
  clear hG hL
  cases neg with
  | false =>
    have hn2 : ¬ t.length < l.length := of_decide_eq_false hn
    clear hn hz
    go_wp2_with (first
      | (go_at_call 78; (with_reducible refine q3.out.mono ?_); rintro e wx ⟨rfl, hwx⟩; rw [hwx])
      | (go_at_call 79; (with_reducible refine q4.out.mono ?_); rintro e wa ⟨⟨ra, rfl, na⟩, ba⟩; obtain ⟨x1, x2, x3, x4, rfl⟩ := na.shape2; clear na; replace ba := hide ba)
      | (go_at_call 78; refine (q5.out _).mono ?_; rintro e wx ⟨rfl, hwx⟩; rw [hwx]; have BW : Hid (Below W0.heap.size W0 (wa.alloc (.cells #[.int .u64 x1, .slice x2 x3 x4] 90))) := (B1.out.then_below ba.out).then_below (alloc_below wa _); have A1 := hide (kept_block A0.out BW.out); obtain ⟨⟨z0, z1, z2, z3, z4⟩, f0, f1, f2, f3, f4⟩ := ratBox A1.out))
    refine bodyPost_ret (v := .tuple #[.agg #[.bool false, .int .u64 0, .slice none 0 0, .int .u64 0, .slice none 0 0], .bool false]) (by simp [results, Tryz.results56, go_sem, z0, z1, z2, z3, z4]) rfl ?_
    exact ⟨rfl, (B0.out.then_below BW.out).then_grown (set5 _ _ _ _ _ _ _) (by rintro g ⟨⟩; exact Nat.le_refl _)⟩
  | true =>
    have hn2 : t.length < l.length := of_decide_eq_true hn
    obtain ⟨e1, e2, e3, e4⟩ := str_ne hus (hz rfl)
    clear hn hz
    go_wp2_with (first
      | (go_at_call 78; (with_reducible refine q3.out.mono ?_); rintro e wx ⟨rfl, hwx⟩; rw [hwx])
      | (go_at_call 79; (with_reducible refine q4.out.mono ?_); rintro e wa ⟨⟨ra, rfl, na⟩, ba⟩; obtain ⟨x1, x2, x3, x4, rfl⟩ := na.shape2; clear na; replace ba := hide ba)
      | (go_at_call 78; refine (q5.out _).mono ?_; rintro e wx ⟨rfl, hwx⟩; rw [hwx]; have BW : Hid (Below W0.heap.size W0 (wa.alloc (.cells #[.int .u64 x1, .slice x2 x3 x4] 90))) := (B1.out.then_below ba.out).then_below (alloc_below wa _); have A1 := hide (kept_block A0.out BW.out); obtain ⟨⟨z0, z1, z2, z3, z4⟩, f0, f1, f2, f3, f4⟩ := ratBox A1.out))
    refine bodyPost_ret (v := .tuple #[.agg #[.bool false, .int .u64 0, .slice none 0 0, .int .u64 0, .slice none 0 0], .bool false]) (by simp [results, Tryz.results56, go_sem, z0, z1, z2, z3, z4]) rfl ?_
    exact ⟨rfl, (B0.out.then_below BW.out).then_grown (set5 _ _ _ _ _ _ _) (by rintro g ⟨⟩; exact Nat.le_refl _)⟩
set_option maxRecDepth 100000 in
set_option maxHeartbeats 4000000 in
theorem parse_lo_01 (w : World) (s : ByteArray) (l t u lo : List UInt8) (neg : Bool) (hs : s.data.toList = l) (hl : l.length ≤ 1073741824) (m : Int) (hM : w.cell? ⟨3, 0, none⟩ = some (.int .i64 m)) (ht : Lib.trimPrefix l [45] = t)
    (hc : Lib.cut t [47] = (u, lo, true)) (hG : Lit u) (hn : decide (t.length < l.length) = neg) (hz : neg = true → u ≠ [48]) (hL : Lit lo) (h01 : lo = [48] ∨ lo = [49]) :
    Calls Tryz.prog 56 #[.string s] w fun e w' => e = .returned (.tuple #[.agg #[.bool false, .int .u64 0, .slice none 0 0, .int .u64 0, .slice none 0 0], .bool false]) ∧ Below w.heap.size w w' := by
  obtain ⟨W0, hW0⟩ : ∃ W0, w.alloc (.cells #[.bool false, .int .u64 0, .slice none 0 0, .int .u64 0, .slice none 0 0] 92) = W0 := ⟨_, rfl⟩
  have B0 : Hid (Below w.heap.size w W0) := by rw [← hW0]; exact (Below.refl _ w).alloc (Nat.le_refl _) _
  have A0 : Hid (W0.heap[w.heap.size]? = some (.cells #[.bool false, .int .u64 0, .slice none 0 0, .int .u64 0, .slice none 0 0] 92 (0, 0))) := by rw [← hW0]; exact heap_alloc_new w _
  have hM0 : W0.cell? ⟨3, 0, none⟩ = some (.int .i64 m) := by rw [B0.out.cell (World.block_lt_of_cell? w _ hM)]; exact hM
  have q1 := hide (Tryz.strings_TrimPrefix s ⟨#[45]⟩ W0)
  rw [hs, show (ByteArray.mk #[45]).data.toList = [45] from rfl, ht] at q1
  have hlt : t.length ≤ l.length := by rw [← ht]; unfold Lib.trimPrefix; split <;> simp
  have hcut1 := cut_le1 t
  have hcut2 := cut_le2 t
  have hts : (ByteArray.mk t.toArray).data.toList = t := by simp
  have hsz := size_of s l hs
  have htz := size_of (ByteArray.mk t.toArray) t hts
  have q2 := hide (Tryz.strings_Cut (ByteArray.mk t.toArray) ⟨#[47]⟩ m W0 (by omega) hM0)
  rw [hts, show (ByteArray.mk #[47]).data.toList = [47] from rfl, hc] at q2
  rw [hc] at hcut1 hcut2
  simp only at hcut1 hcut2 q2
  generalize ByteArray.mk t.toArray = S at *
  have hus : (ByteArray.mk u.toArray).data.toList = u := by simp
  have huz := size_of (ByteArray.mk u.toArray) u hus
  generalize ByteArray.mk u.toArray = SU at *
  have hls : (ByteArray.mk lo.toArray).data.toList = lo := by simp
  generalize ByteArray.mk lo.toArray = SL at *
  have hlz := size_of SL lo hls
  clear hM0 hM hc
  go_enter Tryz.func56, Tryz.ntmps56
  go_wp2_with fail
  refine q1.out.mono ?_
  rintro e w1 ⟨rfl, hw1⟩
  rw [hw1]
  clear hw1 w1
  go_wp2_with fail
  refine q2.out.mono ?_
  rintro e w1 ⟨rfl, nd, hw1⟩
  have B1 : Hid (Below W0.heap.size W0 w1) := by rw [hw1]; exact drewN_below W0 nd
  clear hw1 q1 q2 hW0
  have q3 := hide (isNumeral_calls w1 SU u hus (by omega))
  rw [decide_eq_true hG] at q3
  have q4 := hide (parseNat_calls w1 SU u hus hG.1.2 (by omega))
  have q5 := hide (fun W => isNumeral_calls W SL lo hls (by omega))
  rw [decide_eq_true hL] at q5
  clear hG hL
  rcases h01 with h | h
  · have hSL : SL = ⟨#[48]⟩ := by rw [h] at hls; exact str_is hls
    subst hSL
    clear hlz hls h hcut2
    cases neg with
    | false =>
      have hn2 : ¬ t.length < l.length := of_decide_eq_false hn
      clear hn hz
      go_wp2_with (first
        | (go_at_call 78; (with_reducible refine q3.out.mono ?_); rintro e wx ⟨rfl, hwx⟩; rw [hwx])
        | (go_at_call 79; (with_reducible refine q4.out.mono ?_); rintro e wa ⟨⟨ra, rfl, na⟩, ba⟩; obtain ⟨x1, x2, x3, x4, rfl⟩ := na.shape2; clear na; replace ba := hide ba)
        | (go_at_call 78; refine (q5.out _).mono ?_; rintro e wx ⟨rfl, hwx⟩; rw [hwx]; have BW : Hid (Below W0.heap.size W0 (wa.alloc (.cells #[.int .u64 x1, .slice x2 x3 x4] 90))) := (B1.out.then_below ba.out).then_below (alloc_below wa _); have A1 := hide (kept_block A0.out BW.out); obtain ⟨⟨z0, z1, z2, z3, z4⟩, f0, f1, f2, f3, f4⟩ := ratBox A1.out))
      refine bodyPost_ret (v := .tuple #[.agg #[.bool false, .int .u64 0, .slice none 0 0, .int .u64 0, .slice none 0 0], .bool false]) (by simp [results, Tryz.results56, go_sem, z0, z1, z2, z3, z4]) rfl ?_
      exact ⟨rfl, (B0.out.then_below BW.out).then_grown (set5 _ _ _ _ _ _ _) (by rintro g ⟨⟩; exact Nat.le_refl _)⟩
    | true =>
      have hn2 : t.length < l.length := of_decide_eq_true hn
      obtain ⟨e1, e2, e3, e4⟩ := str_ne hus (hz rfl)
      clear hn hz
      go_wp2_with (first
        | (go_at_call 78; (with_reducible refine q3.out.mono ?_); rintro e wx ⟨rfl, hwx⟩; rw [hwx])
        | (go_at_call 79; (with_reducible refine q4.out.mono ?_); rintro e wa ⟨⟨ra, rfl, na⟩, ba⟩; obtain ⟨x1, x2, x3, x4, rfl⟩ := na.shape2; clear na; replace ba := hide ba)
        | (go_at_call 78; refine (q5.out _).mono ?_; rintro e wx ⟨rfl, hwx⟩; rw [hwx]; have BW : Hid (Below W0.heap.size W0 (wa.alloc (.cells #[.int .u64 x1, .slice x2 x3 x4] 90))) := (B1.out.then_below ba.out).then_below (alloc_below wa _); have A1 := hide (kept_block A0.out BW.out); obtain ⟨⟨z0, z1, z2, z3, z4⟩, f0, f1, f2, f3, f4⟩ := ratBox A1.out))
      refine bodyPost_ret (v := .tuple #[.agg #[.bool false, .int .u64 0, .slice none 0 0, .int .u64 0, .slice none 0 0], .bool false]) (by simp [results, Tryz.results56, go_sem, z0, z1, z2, z3, z4]) rfl ?_
      exact ⟨rfl, (B0.out.then_below BW.out).then_grown (set5 _ _ _ _ _ _ _) (by rintro g ⟨⟩; exact Nat.le_refl _)⟩
  · have hSL : SL = ⟨#[49]⟩ := by rw [h] at hls; exact str_is hls
    subst hSL
    clear hlz hls h hcut2
    cases neg with
    | false =>
      have hn2 : ¬ t.length < l.length := of_decide_eq_false hn
      clear hn hz
      go_wp2_with (first
        | (go_at_call 78; (with_reducible refine q3.out.mono ?_); rintro e wx ⟨rfl, hwx⟩; rw [hwx])
        | (go_at_call 79; (with_reducible refine q4.out.mono ?_); rintro e wa ⟨⟨ra, rfl, na⟩, ba⟩; obtain ⟨x1, x2, x3, x4, rfl⟩ := na.shape2; clear na; replace ba := hide ba)
        | (go_at_call 78; refine (q5.out _).mono ?_; rintro e wx ⟨rfl, hwx⟩; rw [hwx]; have BW : Hid (Below W0.heap.size W0 (wa.alloc (.cells #[.int .u64 x1, .slice x2 x3 x4] 90))) := (B1.out.then_below ba.out).then_below (alloc_below wa _); have A1 := hide (kept_block A0.out BW.out); obtain ⟨⟨z0, z1, z2, z3, z4⟩, f0, f1, f2, f3, f4⟩ := ratBox A1.out))
      refine bodyPost_ret (v := .tuple #[.agg #[.bool false, .int .u64 0, .slice none 0 0, .int .u64 0, .slice none 0 0], .bool false]) (by simp [results, Tryz.results56, go_sem, z0, z1, z2, z3, z4]) rfl ?_
      exact ⟨rfl, (B0.out.then_below BW.out).then_grown (set5 _ _ _ _ _ _ _) (by rintro g ⟨⟩; exact Nat.le_refl _)⟩
    | true =>
      have hn2 : t.length < l.length := of_decide_eq_true hn
      obtain ⟨e1, e2, e3, e4⟩ := str_ne hus (hz rfl)
      clear hn hz
      go_wp2_with (first
        | (go_at_call 78; (with_reducible refine q3.out.mono ?_); rintro e wx ⟨rfl, hwx⟩; rw [hwx])
        | (go_at_call 79; (with_reducible refine q4.out.mono ?_); rintro e wa ⟨⟨ra, rfl, na⟩, ba⟩; obtain ⟨x1, x2, x3, x4, rfl⟩ := na.shape2; clear na; replace ba := hide ba)
        | (go_at_call 78; refine (q5.out _).mono ?_; rintro e wx ⟨rfl, hwx⟩; rw [hwx]; have BW : Hid (Below W0.heap.size W0 (wa.alloc (.cells #[.int .u64 x1, .slice x2 x3 x4] 90))) := (B1.out.then_below ba.out).then_below (alloc_below wa _); have A1 := hide (kept_block A0.out BW.out); obtain ⟨⟨z0, z1, z2, z3, z4⟩, f0, f1, f2, f3, f4⟩ := ratBox A1.out))
      refine bodyPost_ret (v := .tuple #[.agg #[.bool false, .int .u64 0, .slice none 0 0, .int .u64 0, .slice none 0 0], .bool false]) (by simp [results, Tryz.results56, go_sem, z0, z1, z2, z3, z4]) rfl ?_
      exact ⟨rfl, (B0.out.then_below BW.out).then_grown (set5 _ _ _ _ _ _ _) (by rintro g ⟨⟩; exact Nat.le_refl _)⟩
end Go.Proofs.YtlepicdpelkmlaaGreatDoor
/- ==== RatParse2 ==== -/
namespace Go.Proofs.YtlepicdpelkmlaaGreatDoor
open Go.RowKit
set_option linter.unusedVariables false
set_option maxRecDepth 100000 in
set_option maxHeartbeats 4000000 in
theorem parse_gcd (w : World) (s : ByteArray) (l t u lo : List UInt8) (neg : Bool) (hs : s.data.toList = l) (hl : l.length ≤ 1073741824) (m : Int) (hM : w.cell? ⟨3, 0, none⟩ = some (.int .i64 m)) (hT0 : Tab w) (ht : Lib.trimPrefix l [45] = t)
    (hc : Lib.cut t [47] = (u, lo, true)) (hG : Lit u) (hn : decide (t.length < l.length) = neg) (hz : neg = true → u ≠ [48]) (hL : Lit lo) (h0 : lo ≠ [48]) (h1 : lo ≠ [49]) (hg : ¬ Nat.gcd (M.dec u) (M.dec lo) = 1) :
    Calls Tryz.prog 56 #[.string s] w fun e w' => e = .returned (.tuple #[.agg #[.bool false, .int .u64 0, .slice none 0 0, .int .u64 0, .slice none 0 0], .bool false]) ∧ Below w.heap.size w w' := by
  have hT := hide hT0
  clear hT0
  obtain ⟨W0, hW0⟩ : ∃ W0, w.alloc (.cells #[.bool false, .int .u64 0, .slice none 0 0, .int .u64 0, .slice none 0 0] 92) = W0 := ⟨_, rfl⟩
  have B0 : Hid (Below w.heap.size w W0) := by rw [← hW0]; exact (Below.refl _ w).alloc (Nat.le_refl _) _
  have A0 : Hid (W0.heap[w.heap.size]? = some (.cells #[.bool false, .int .u64 0, .slice none 0 0, .int .u64 0, .slice none 0 0] 92 (0, 0))) := by rw [← hW0]; exact heap_alloc_new w _
  have hM0 : W0.cell? ⟨3, 0, none⟩ = some (.int .i64 m) := by rw [B0.out.cell (World.block_lt_of_cell? w _ hM)]; exact hM
  have q1 := hide (Tryz.strings_TrimPrefix s ⟨#[45]⟩ W0)
  rw [hs, show (ByteArray.mk #[45]).data.toList = [45] from rfl, ht] at q1
  have hlt : t.length ≤ l.length := by rw [← ht]; unfold Lib.trimPrefix; split <;> simp
  have hcut1 := cut_le1 t
  have hcut2 := cut_le2 t
  have hts : (ByteArray.mk t.toArray).data.toList = t := by simp
  have hsz := size_of s l hs
  have htz := size_of (ByteArray.mk t.toArray) t hts
  have q2 := hide (Tryz.strings_Cut (ByteArray.mk t.toArray) ⟨#[47]⟩ m W0 (by omega) hM0)
  rw [hts, show (ByteArray.mk #[47]).data.toList = [47] from rfl, hc] at q2
  rw [hc] at hcut1 hcut2
  simp only at hcut1 hcut2 q2
  generalize ByteArray.mk t.toArray = S at *
  have hus : (ByteArray.mk u.toArray).data.toList = u := by simp
  have huz := size_of (ByteArray.mk u.toArray) u hus
  generalize ByteArray.mk u.toArray = SU at *
  have hls : (ByteArray.mk lo.toArray).data.toList = lo := by simp
  generalize ByteArray.mk lo.toArray = SL at *
  have hlz := size_of SL lo hls
  clear hM0 hM hc
  go_enter Tryz.func56, Tryz.ntmps56
  go_wp2_with fail
  refine q1.out.mono ?_
  rintro e w1 ⟨rfl, hw1⟩
  rw [hw1]
  clear hw1 w1
  go_wp2_with fail
  refine q2.out.mono ?_
  rintro e w1 ⟨rfl, nd, hw1⟩
  have B1 : Hid (Below W0.heap.size W0 w1) := by rw [hw1]; exact drewN_below W0 nd
  clear hw1 q1 q2 hW0
  have q3 := hide (isNumeral_calls w1 SU u hus (by omega))
  rw [decide_eq_true hG] at q3
  have q4 := hide (parseNat_calls w1 SU u hus hG.1.2 (by omega))
  have q5 := hide (fun W => isNumeral_calls W SL lo hls (by omega))
  rw [decide_eq_true hL] at q5
  have q6 := hide (fun W => parseNat_calls W SL lo hls hL.1.2 (by omega))
  obtain ⟨i1, i2, i3, i4⟩ := str_ne hls h0
  obtain ⟨j1, j2, j3, j4⟩ := str_ne hls h1
  have bu : Hid (((M.dec u : Nat) : Int) < M.BB ^ (l.length + 1)) := dec_bb hG.1.2 (by omega)
  have blo : Hid (((M.dec lo : Nat) : Int) < M.BB ^ (l.length + 1)) := dec_bb hL.1.2 (by omega)
  have hK2 : l.length + 1 ≤ 4398046511104 := by omega
  clear hG hL h0 h1
  cases neg with
  | false =>
    have hn2 : ¬ t.length < l.length := of_decide_eq_false hn
    clear hn hz
    go_wp2_with (first
      | (go_at_call 78; (with_reducible refine q3.out.mono ?_); rintro e wx ⟨rfl, hwx⟩; rw [hwx])
      | (go_at_call 79; (with_reducible refine q4.out.mono ?_); rintro e wa ⟨⟨ra, rfl, na⟩, ba⟩; obtain ⟨x1, x2, x3, x4, rfl⟩ := na.shape2; replace na := hide na; replace ba := hide ba)
      | (go_at_call 78; refine (q5.out _).mono ?_; rintro e wx ⟨rfl, hwx⟩; rw [hwx])
      | (go_at_call 79; (with_reducible refine (q6.out _).mono ?_); rintro e wb ⟨⟨rb, rfl, nb⟩, bb⟩; obtain ⟨y1, y2, y3, y4, rfl⟩ := nb.shape2
         have An := hide (kept_block (kept_block (heap_alloc_new wa (.cells #[.int .u64 x1, .slice x2 x3 x4] 90)) bb) (alloc_below wb (.cells #[.int .u64 y1, .slice y2 y3 y4] 90)))
         have Ad := hide (heap_alloc_new wb (.cells #[.int .u64 y1, .slice y2 y3 y4] 90))
         have BW : Hid (Below W0.heap.size W0 (wb.alloc (.cells #[.int .u64 y1, .slice y2 y3 y4] 90))) := (((B1.out.then_below ba.out).then_below (alloc_below wa _)).then_below bb).then_below (alloc_below wb _)
         have Dn := hide (((na.out.below (alloc_below wa (.cells #[.int .u64 x1, .slice x2 x3 x4] 90))).below bb).below (alloc_below wb (.cells #[.int .u64 y1, .slice y2 y3 y4] 90)))
         have Dd := hide (nb.below (alloc_below wb (.cells #[.int .u64 y1, .slice y2 y3 y4] 90)))
         have TT := hide (hT.out.below (B0.out.then_below BW.out))
         obtain ⟨g0, g1, -, -⟩ := box_facts An.out
         clear bb nb na ba)
      | (go_at_call 73; refine (natGcd_calls _ _ _ (M.dec u) (M.dec lo) (l.length + 1) Dn.out Dd.out bu.out blo.out hK2 TT.out).mono ?_; rintro e wc ⟨⟨rc, rfl, nc⟩, bc⟩; obtain ⟨c1, c2, c3, c4, rfl⟩ := nc.shape2; replace nc := hide nc; replace bc := hide bc; clear TT)
      | (go_at_call 80; refine (isOne_calls _ _ _ nc.out).mono ?_; rintro e wd ⟨rfl, bd⟩; replace bd := hide (bc.out.then_below bd); clear bc nc
         have A1 := hide (kept_block A0.out (BW.out.then_below bd.out))
         obtain ⟨⟨z0, z1, z2, z3, z4⟩, f0, f1, f2, f3, f4⟩ := ratBox A1.out
         obtain ⟨n0, n1, -, -⟩ := box_facts (kept_block An.out bd.out)
         obtain ⟨m0, m1, -, -⟩ := box_facts (kept_block Ad.out bd.out)))
    refine bodyPost_ret (v := .tuple #[.agg #[.bool false, .int .u64 0, .slice none 0 0, .int .u64 0, .slice none 0 0], .bool false]) (by simp [results, Tryz.results56, go_sem, z0, z1, z2, z3, z4]) rfl ?_
    exact ⟨rfl, (B0.out.then_below (BW.out.then_below bd.out)).then_grown (set5 _ _ _ _ _ _ _) (by rintro g ⟨⟩; exact Nat.le_refl _)⟩
  | true =>
    have hn2 : t.length < l.length := of_decide_eq_true hn
    obtain ⟨e1, e2, e3, e4⟩ := str_ne hus (hz rfl)
    clear hn hz
    go_wp2_with (first
      | (go_at_call 78; (with_reducible refine q3.out.mono ?_); rintro e wx ⟨rfl, hwx⟩; rw [hwx])
      | (go_at_call 79; (with_reducible refine q4.out.mono ?_); rintro e wa ⟨⟨ra, rfl, na⟩, ba⟩; obtain ⟨x1, x2, x3, x4, rfl⟩ := na.shape2; replace na := hide na; replace ba := hide ba)
      | (go_at_call 78; refine (q5.out _).mono ?_; rintro e wx ⟨rfl, hwx⟩; rw [hwx])
      | (go_at_call 79; (with_reducible refine (q6.out _).mono ?_); rintro e wb ⟨⟨rb, rfl, nb⟩, bb⟩; obtain ⟨y1, y2, y3, y4, rfl⟩ := nb.shape2
         have An := hide (kept_block (kept_block (heap_alloc_new wa (.cells #[.int .u64 x1, .slice x2 x3 x4] 90)) bb) (alloc_below wb (.cells #[.int .u64 y1, .slice y2 y3 y4] 90)))
         have Ad := hide (heap_alloc_new wb (.cells #[.int .u64 y1, .slice y2 y3 y4] 90))
         have BW : Hid (Below W0.heap.size W0 (wb.alloc (.cells #[.int .u64 y1, .slice y2 y3 y4] 90))) := (((B1.out.then_below ba.out).then_below (alloc_below wa _)).then_below bb).then_below (alloc_below wb _)
         have Dn := hide (((na.out.below (alloc_below wa (.cells #[.int .u64 x1, .slice x2 x3 x4] 90))).below bb).below (alloc_below wb (.cells #[.int .u64 y1, .slice y2 y3 y4] 90)))
         have Dd := hide (nb.below (alloc_below wb (.cells #[.int .u64 y1, .slice y2 y3 y4] 90)))
         have TT := hide (hT.out.below (B0.out.then_below BW.out))
         obtain ⟨g0, g1, -, -⟩ := box_facts An.out
         clear bb nb na ba)
      | (go_at_call 73; refine (natGcd_calls _ _ _ (M.dec u) (M.dec lo) (l.length + 1) Dn.out Dd.out bu.out blo.out hK2 TT.out).mono ?_; rintro e wc ⟨⟨rc, rfl, nc⟩, bc⟩; obtain ⟨c1, c2, c3, c4, rfl⟩ := nc.shape2; replace nc := hide nc; replace bc := hide bc; clear TT)
      | (go_at_call 80; refine (isOne_calls _ _ _ nc.out).mono ?_; rintro e wd ⟨rfl, bd⟩; replace bd := hide (bc.out.then_below bd); clear bc nc
         have A1 := hide (kept_block A0.out (BW.out.then_below bd.out))
         obtain ⟨⟨z0, z1, z2, z3, z4⟩, f0, f1, f2, f3, f4⟩ := ratBox A1.out
         obtain ⟨n0, n1, -, -⟩ := box_facts (kept_block An.out bd.out)
         obtain ⟨m0, m1, -, -⟩ := box_facts (kept_block Ad.out bd.out)))
    refine bodyPost_ret (v := .tuple #[.agg #[.bool false, .int .u64 0, .slice none 0 0, .int .u64 0, .slice none 0 0], .bool false]) (by simp [results, Tryz.results56, go_sem, z0, z1, z2, z3, z4]) rfl ?_
    exact ⟨rfl, (B0.out.then_below (BW.out.then_below bd.out)).then_grown (set5 _ _ _ _ _ _ _) (by rintro g ⟨⟩; exact Nat.le_refl _)⟩
set_option maxRecDepth 100000 in
set_option maxHeartbeats 4000000 in
theorem parse_frac (w : World) (s : ByteArray) (l t u lo : List UInt8) (neg : Bool) (hs : s.data.toList = l) (hl : l.length ≤ 1073741824) (m : Int) (hM : w.cell? ⟨3, 0, none⟩ = some (.int .i64 m)) (hT0 : Tab w) (ht : Lib.trimPrefix l [45] = t)
    (hc : Lib.cut t [47] = (u, lo, true)) (hG : Lit u) (hn : decide (t.length < l.length) = neg) (hz : neg = true → u ≠ [48]) (hL : Lit lo) (h0 : lo ≠ [48]) (h1 : lo ≠ [49]) (hg : Nat.gcd (M.dec u) (M.dec lo) = 1) :
    Calls Tryz.prog 56 #[.string s] w fun e w' => (∃ r, e = .returned (.tuple #[r, .bool true]) ∧ DenR w' r neg (M.dec u) (M.dec lo)) ∧ Below w.heap.size w w' := by
  have hT := hide hT0
  clear hT0
  obtain ⟨W0, hW0⟩ : ∃ W0, w.alloc (.cells #[.bool false, .int .u64 0, .slice none 0 0, .int .u64 0, .slice none 0 0] 92) = W0 := ⟨_, rfl⟩
  have B0 : Hid (Below w.heap.size w W0) := by rw [← hW0]; exact (Below.refl _ w).alloc (Nat.le_refl _) _
  have A0 : Hid (W0.heap[w.heap.size]? = some (.cells #[.bool false, .int .u64 0, .slice none 0 0, .int .u64 0, .slice none 0 0] 92 (0, 0))) := by rw [← hW0]; exact heap_alloc_new w _
  have hM0 : W0.cell? ⟨3, 0, none⟩ = some (.int .i64 m) := by rw [B0.out.cell (World.block_lt_of_cell? w _ hM)]; exact hM
  have q1 := hide (Tryz.strings_TrimPrefix s ⟨#[45]⟩ W0)
  rw [hs, show (ByteArray.mk #[45]).data.toList = [45] from rfl, ht] at q1
  have hlt : t.length ≤ l.length := by rw [← ht]; unfold Lib.trimPrefix; split <;> simp
  have hcut1 := cut_le1 t
  have hcut2 := cut_le2 t
  have hts : (ByteArray.mk t.toArray).data.toList = t := by simp
  have hsz := size_of s l hs
  have htz := size_of (ByteArray.mk t.toArray) t hts
  have q2 := hide (Tryz.strings_Cut (ByteArray.mk t.toArray) ⟨#[47]⟩ m W0 (by omega) hM0)
  rw [hts, show (ByteArray.mk #[47]).data.toList = [47] from rfl, hc] at q2
  rw [hc] at hcut1 hcut2
  simp only at hcut1 hcut2 q2
  generalize ByteArray.mk t.toArray = S at *
  have hus : (ByteArray.mk u.toArray).data.toList = u := by simp
  have huz := size_of (ByteArray.mk u.toArray) u hus
  generalize ByteArray.mk u.toArray = SU at *
  have hls : (ByteArray.mk lo.toArray).data.toList = lo := by simp
  generalize ByteArray.mk lo.toArray = SL at *
  have hlz := size_of SL lo hls
  clear hM0 hM hc
  go_enter Tryz.func56, Tryz.ntmps56
  go_wp2_with fail
  refine q1.out.mono ?_
  rintro e w1 ⟨rfl, hw1⟩
  rw [hw1]
  clear hw1 w1
  go_wp2_with fail
  refine q2.out.mono ?_
  rintro e w1 ⟨rfl, nd, hw1⟩
  have B1 : Hid (Below W0.heap.size W0 w1) := by rw [hw1]; exact drewN_below W0 nd
  clear hw1 q1 q2 hW0
  have q3 := hide (isNumeral_calls w1 SU u hus (by omega))
  rw [decide_eq_true hG] at q3
  have q4 := hide (parseNat_calls w1 SU u hus hG.1.2 (by omega))
  have q5 := hide (fun W => isNumeral_calls W SL lo hls (by omega))
  rw [decide_eq_true hL] at q5
  have q6 := hide (fun W => parseNat_calls W SL lo hls hL.1.2 (by omega))
  obtain ⟨i1, i2, i3, i4⟩ := str_ne hls h0
  obtain ⟨j1, j2, j3, j4⟩ := str_ne hls h1
  have bu : Hid (((M.dec u : Nat) : Int) < M.BB ^ (l.length + 1)) := dec_bb hG.1.2 (by omega)
  have blo : Hid (((M.dec lo : Nat) : Int) < M.BB ^ (l.length + 1)) := dec_bb hL.1.2 (by omega)
  have hK2 : l.length + 1 ≤ 4398046511104 := by omega
  clear hG hL h0 h1
  cases neg with
  | false =>
    have hn2 : ¬ t.length < l.length := of_decide_eq_false hn
    clear hn hz
    go_wp2_with (first
      | (go_at_call 78; (with_reducible refine q3.out.mono ?_); rintro e wx ⟨rfl, hwx⟩; rw [hwx])
      | (go_at_call 79; (with_reducible refine q4.out.mono ?_); rintro e wa ⟨⟨ra, rfl, na⟩, ba⟩; obtain ⟨x1, x2, x3, x4, rfl⟩ := na.shape2; replace na := hide na; replace ba := hide ba)
      | (go_at_call 78; refine (q5.out _).mono ?_; rintro e wx ⟨rfl, hwx⟩; rw [hwx])
      | (go_at_call 79; (with_reducible refine (q6.out _).mono ?_); rintro e wb ⟨⟨rb, rfl, nb⟩, bb⟩; obtain ⟨y1, y2, y3, y4, rfl⟩ := nb.shape2
         have An := hide (kept_block (kept_block (heap_alloc_new wa (.cells #[.int .u64 x1, .slice x2 x3 x4] 90)) bb) (alloc_below wb (.cells #[.int .u64 y1, .slice y2 y3 y4] 90)))
         have Ad := hide (heap_alloc_new wb (.cells #[.int .u64 y1, .slice y2 y3 y4] 90))
         have BW : Hid (Below W0.heap.size W0 (wb.alloc (.cells #[.int .u64 y1, .slice y2 y3 y4] 90))) := (((B1.out.then_below ba.out).then_below (alloc_below wa _)).then_below bb).then_below (alloc_below wb _)
         have Dn := hide (((na.out.below (alloc_below wa (.cells #[.int .u64 x1, .slice x2 x3 x4] 90))).below bb).below (alloc_below wb (.cells #[.int .u64 y1, .slice y2 y3 y4] 90)))
         have Dd := hide (nb.below (alloc_below wb (.cells #[.int .u64 y1, .slice y2 y3 y4] 90)))
         have TT := hide (hT.out.below (B0.out.then_below BW.out))
         obtain ⟨g0, g1, -, -⟩ := box_facts An.out
         clear bb nb na ba)
      | (go_at_call 73; refine (natGcd_calls _ _ _ (M.dec u) (M.dec lo) (l.length + 1) Dn.out Dd.out bu.out blo.out hK2 TT.out).mono ?_; rintro e wc ⟨⟨rc, rfl, nc⟩, bc⟩; obtain ⟨c1, c2, c3, c4, rfl⟩ := nc.shape2; replace nc := hide nc; replace bc := hide bc; clear TT)
      | (go_at_call 80; refine (isOne_calls _ _ _ nc.out).mono ?_; rintro e wd ⟨rfl, bd⟩; replace bd := hide (bc.out.then_below bd); clear bc nc
         have A1 := hide (kept_block A0.out (BW.out.then_below bd.out))
         obtain ⟨⟨z0, z1, z2, z3, z4⟩, f0, f1, f2, f3, f4⟩ := ratBox A1.out
         obtain ⟨n0, n1, -, -⟩ := box_facts (kept_block An.out bd.out)
         obtain ⟨m0, m1, -, -⟩ := box_facts (kept_block Ad.out bd.out)))
    refine bodyPost_ret (v := .tuple #[.agg #[.bool false, .int .u64 x1, .slice x2 x3 x4, .int .u64 y1, .slice y2 y3 y4], .bool true]) (by simp [results, Tryz.results56, go_sem, z0, z1, z2, z3, z4]) rfl ?_
    have q := set5 wd w.heap.size (.bool false) (.int .u64 x1) (.slice x2 x3 x4) (.int .u64 y1) (.slice y2 y3 y4)
    exact ⟨⟨_, rfl, DenR.make (Dn.out.below bd.out) (Dd.out.below bd.out) A1.out (nopair5 _ _ _ _ _ _ _ _ _) q⟩, (B0.out.then_below (BW.out.then_below bd.out)).then_grown q (by rintro g ⟨⟩; exact Nat.le_refl _)⟩
  | true =>
    have hn2 : t.length < l.length := of_decide_eq_true hn
    obtain ⟨e1, e2, e3, e4⟩ := str_ne hus (hz rfl)
    clear hn hz
    go_wp2_with (first
      | (go_at_call 78; (with_reducible refine q3.out.mono ?_); rintro e wx ⟨rfl, hwx⟩; rw [hwx])
      | (go_at_call 79; (with_reducible refine q4.out.mono ?_); rintro e wa ⟨⟨ra, rfl, na⟩, ba⟩; obtain ⟨x1, x2, x3, x4, rfl⟩ := na.shape2; replace na := hide na; replace ba := hide ba)
      | (go_at_call 78; refine (q5.out _).mono ?_; rintro e wx ⟨rfl, hwx⟩; rw [hwx])
      | (go_at_call 79; (with_reducible refine (q6.out _).mono ?_); rintro e wb ⟨⟨rb, rfl, nb⟩, bb⟩; obtain ⟨y1, y2, y3, y4, rfl⟩ := nb.shape2
         have An := hide (kept_block (kept_block (heap_alloc_new wa (.cells #[.int .u64 x1, .slice x2 x3 x4] 90)) bb) (alloc_below wb (.cells #[.int .u64 y1, .slice y2 y3 y4] 90)))
         have Ad := hide (heap_alloc_new wb (.cells #[.int .u64 y1, .slice y2 y3 y4] 90))
         have BW : Hid (Below W0.heap.size W0 (wb.alloc (.cells #[.int .u64 y1, .slice y2 y3 y4] 90))) := (((B1.out.then_below ba.out).then_below (alloc_below wa _)).then_below bb).then_below (alloc_below wb _)
         have Dn := hide (((na.out.below (alloc_below wa (.cells #[.int .u64 x1, .slice x2 x3 x4] 90))).below bb).below (alloc_below wb (.cells #[.int .u64 y1, .slice y2 y3 y4] 90)))
         have Dd := hide (nb.below (alloc_below wb (.cells #[.int .u64 y1, .slice y2 y3 y4] 90)))
         have TT := hide (hT.out.below (B0.out.then_below BW.out))
         obtain ⟨g0, g1, -, -⟩ := box_facts An.out
         clear bb nb na ba)
      | (go_at_call 73; refine (natGcd_calls _ _ _ (M.dec u) (M.dec lo) (l.length + 1) Dn.out Dd.out bu.out blo.out hK2 TT.out).mono ?_; rintro e wc ⟨⟨rc, rfl, nc⟩, bc⟩; obtain ⟨c1, c2, c3, c4, rfl⟩ := nc.shape2; replace nc := hide nc; replace bc := hide bc; clear TT)
      | (go_at_call 80; refine (isOne_calls _ _ _ nc.out).mono ?_; rintro e wd ⟨rfl, bd⟩; replace bd := hide (bc.out.then_below bd); clear bc nc
         have A1 := hide (kept_block A0.out (BW.out.then_below bd.out))
         obtain ⟨⟨z0, z1, z2, z3, z4⟩, f0, f1, f2, f3, f4⟩ := ratBox A1.out
         obtain ⟨n0, n1, -, -⟩ := box_facts (kept_block An.out bd.out)
         obtain ⟨m0, m1, -, -⟩ := box_facts (kept_block Ad.out bd.out)))
    refine bodyPost_ret (v := .tuple #[.agg #[.bool true, .int .u64 x1, .slice x2 x3 x4, .int .u64 y1, .slice y2 y3 y4], .bool true]) (by simp [results, Tryz.results56, go_sem, z0, z1, z2, z3, z4]) rfl ?_
    have q := set5 wd w.heap.size (.bool true) (.int .u64 x1) (.slice x2 x3 x4) (.int .u64 y1) (.slice y2 y3 y4)
    exact ⟨⟨_, rfl, DenR.make (Dn.out.below bd.out) (Dd.out.below bd.out) A1.out (nopair5 _ _ _ _ _ _ _ _ _) q⟩, (B0.out.then_below (BW.out.then_below bd.out)).then_grown q (by rintro g ⟨⟩; exact Nat.le_refl _)⟩
theorem parse_calls (w : World) (s : ByteArray) (l : List UInt8) (hs : s.data.toList = l) (hl : l.length ≤ 1073741824) (m : Int) (hM : w.cell? ⟨3, 0, none⟩ = some (.int .i64 m)) (hT : Tab w) :
    Calls Tryz.prog 56 #[.string s] w fun e w' => ((CanT l → ∃ r, e = .returned (.tuple #[r, .bool true]) ∧ DenR w' r (cneg l) (M.dec (cup l)) (if cslash l then M.dec (clow l) else 0)) ∧
      (¬ CanT l → e = .returned (.tuple #[.agg #[.bool false, .int .u64 0, .slice none 0 0, .int .u64 0, .slice none 0 0], .bool false]))) ∧ Below w.heap.size w w' := by
  obtain ⟨t, ht⟩ : ∃ t, Lib.trimPrefix l [45] = t := ⟨_, rfl⟩
  obtain ⟨u, lo, b, hc⟩ : ∃ u lo b, Lib.cut t [47] = (u, lo, b) := ⟨_, _, _, rfl⟩
  have e1 : cup l = u := by unfold cup; rw [ht, hc]
  have e2 : cslash l = b := by unfold cslash; rw [ht, hc]
  have e3 : decide (t.length < l.length) = cneg l := by unfold cneg; rw [ht]
  have no : ∀ {P : Ending → World → Prop}, ¬ CanT l → Calls Tryz.prog 56 #[.string s] w (fun e w' => e = .returned (.tuple #[.agg #[.bool false, .int .u64 0, .slice none 0 0, .int .u64 0, .slice none 0 0], .bool false]) ∧ Below w.heap.size w w') →
      Calls Tryz.prog 56 #[.string s] w (fun e w' => ((CanT l → P e w') ∧ (¬ CanT l → e = .returned (.tuple #[.agg #[.bool false, .int .u64 0, .slice none 0 0, .int .u64 0, .slice none 0 0], .bool false]))) ∧ Below w.heap.size w w') :=
    fun hn h => h.mono (fun e w' ⟨h1, h2⟩ => ⟨⟨fun h => absurd h hn, fun _ => h1⟩, h2⟩)
  by_cases hG : Lit u
  · by_cases hz : cneg l = true → u ≠ [48]
    · cases b with
      | false =>
        have hcan : CanT l := ⟨by rw [e1]; exact hG, by rw [e1]; exact hz, fun h => by rw [e2] at h; cases h⟩
        refine (parse_whole w s l t u lo (cneg l) hs hl m hM ht hc hG e3 hz).mono (fun e w' ⟨h1, h2⟩ => ⟨⟨fun _ => ?_, fun h => absurd hcan h⟩, h2⟩)
        rw [e1, e2]
        exact h1
      | true =>
        have e4 : clow l = lo := by unfold clow; rw [ht, hc]; rfl
        by_cases hL : Lit lo
        · by_cases h0 : lo = [48]
          · exact no (fun h => (h.2.2 e2).2.1 (by rw [e4]; exact h0)) (parse_lo_01 w s l t u lo (cneg l) hs hl m hM ht hc hG e3 hz hL (.inl h0))
          · by_cases h1 : lo = [49]
            · exact no (fun h => (h.2.2 e2).2.2.1 (by rw [e4]; exact h1)) (parse_lo_01 w s l t u lo (cneg l) hs hl m hM ht hc hG e3 hz hL (.inr h1))
            · by_cases hg : Nat.gcd (M.dec u) (M.dec lo) = 1
              · have hcan : CanT l := ⟨by rw [e1]; exact hG, by rw [e1]; exact hz, fun _ => ⟨by rw [e4]; exact hL, by rw [e4]; exact h0, by rw [e4]; exact h1, by rw [e1, e4]; exact hg⟩⟩
                refine (parse_frac w s l t u lo (cneg l) hs hl m hM hT ht hc hG e3 hz hL h0 h1 hg).mono (fun e w' ⟨h1, h2⟩ => ⟨⟨fun _ => ?_, fun h => absurd hcan h⟩, h2⟩)
                rw [e1, e2, e4]
                exact h1
              · exact no (fun h => hg (by have := (h.2.2 e2).2.2.2; rwa [e1, e4] at this)) (parse_gcd w s l t u lo (cneg l) hs hl m hM hT ht hc hG e3 hz hL h0 h1 hg)
        · exact no (fun h => hL (by have := (h.2.2 e2).1; rwa [e4] at this)) (parse_lo_bad w s l t u lo (cneg l) hs hl m hM ht hc hG e3 hz hL)
    · have hz' : cneg l = true ∧ u = [48] := by
        cases hq : cneg l with
        | false => exact absurd (fun h => by rw [hq] at h; cases h) hz
        | true => exact ⟨rfl, Classical.byContradiction (fun h => hz (fun _ => h))⟩
      exact no (fun h => h.2.1 hz'.1 (by rw [e1]; exact hz'.2)) (parse_bad_z w s l t u lo b hs hl m hM ht hc hG (of_decide_eq_true (e3.trans hz'.1)) hz'.2)
  · exact no (fun h => hG (by have := h.1; rwa [e1] at this)) (parse_bad_u w s l t u lo b hs hl m hM ht hc hG)
end Go.Proofs.YtlepicdpelkmlaaGreatDoor
