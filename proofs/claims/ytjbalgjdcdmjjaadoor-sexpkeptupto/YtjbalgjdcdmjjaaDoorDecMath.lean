/-
  The model's decoding of a text, byte place by byte place, against the characters of the scanner's words (chr).
-/
import Derived.Test.YtjbalgjdcdmjjaaDoorScanModel
import Derived.Lib.DecodeN
namespace Go.Proofs.YtjbalgjdcdmjjaaDoor.S
set_option linter.unusedVariables false
theorem toNat_lt' (b : UInt8) : b.toNat < 256 := b.toNat_lt
/-- The model's decoding of what a list begins with. -/
def dec (l : List UInt8) : Nat × Nat := Lib.decodeN l.length (l.getD 0 0).toNat (l.getD 1 0).toNat (l.getD 2 0).toNat (l.getD 3 0).toNat
/-- What a character's decoding says. -/
def Says (l : List UInt8) (D : Nat × Nat) : Prop :=
  (chr l = 0 → D = (65533, 1) ∧ ¬ [239, 191, 189] <+: l) ∧
  (chr l ≠ 0 → D.2 = chr l ∧ (D.1 = 65533 → [239, 191, 189] <+: l) ∧ (D.1 < 128 ↔ (l.headD 0).toNat < 128) ∧ (D.1 < 128 → D.1 = (l.headD 0).toNat))
theorem pre3 {x y z : UInt8} (r : List UInt8) (h1 : x.toNat = 239) (h2 : y.toNat = 191) (h3 : z.toNat = 189) : [239, 191, 189] <+: x :: y :: z :: r := by
  have e1 : x = 239 := UInt8.toNat_inj.1 h1
  have e2 : y = 191 := UInt8.toNat_inj.1 h2
  have e3 : z = 189 := UInt8.toNat_inj.1 h3
  subst e1 e2 e3
  exact ⟨r, rfl⟩
theorem npre {x : UInt8} (r : List UInt8) (h1 : x.toNat ≠ 239) : ¬ [239, 191, 189] <+: x :: r := by
  rintro ⟨t, h⟩
  simp at h
  exact h1 (by rw [← h.1]; rfl)
theorem npre1 (x : UInt8) : ¬ [239, 191, 189] <+: [x] := by
  rintro ⟨t, h⟩
  simp at h
theorem npre2 (x y : UInt8) : ¬ [239, 191, 189] <+: [x, y] := by
  rintro ⟨t, h⟩
  simp at h
theorem npre3 {x y z : UInt8} (r : List UInt8) (h : ¬ (y.toNat = 191 ∧ z.toNat = 189)) : ¬ [239, 191, 189] <+: x :: y :: z :: r := by
  rintro ⟨t, e⟩
  simp at e
  exact h ⟨by rw [← e.2.1]; rfl, by rw [← e.2.2.1]; rfl⟩
theorem chr_hi {b : UInt8} (t : List UInt8) (h : ¬ b.toNat < 128) : chr (b :: t) = if (follow b).1 = 0 then 0 else if okTail (follow b).1 (follow b).2.1 (follow b).2.2 t then (follow b).1 + 1 else 0 := by
  show (if b.toNat < 128 then 1 else _) = _
  rw [if_neg h]
theorem says_low {b : UInt8} (t : List UInt8) (h : b.toNat < 128) : Says (b :: t) (dec (b :: t)) := by
  have h1 : chr (b :: t) = 1 := by simp [chr, h]
  have h2 : dec (b :: t) = (b.toNat, 1) := by simp [dec, Lib.decodeN, h]
  unfold Says
  rw [h1, h2]
  refine ⟨by simp, fun _ => ⟨rfl, ?_, by simp, by simp⟩⟩
  intro e
  simp at e
  omega
theorem says_none {l : List UInt8} (h1 : chr l = 0) (h2 : dec l = (65533, 1)) (h3 : ¬ [239, 191, 189] <+: l) : Says l (dec l) := by
  unfold Says
  rw [h1, h2]
  exact ⟨fun _ => ⟨rfl, h3⟩, by simp⟩
theorem says_some {b : UInt8} {t : List UInt8} {r k : Nat} (hb : ¬ b.toNat < 128) (hk : k ≠ 0) (h1 : chr (b :: t) = k) (h2 : dec (b :: t) = (r, k)) (hr : 128 ≤ r) (h3 : r = 65533 → [239, 191, 189] <+: b :: t) : Says (b :: t) (dec (b :: t)) := by
  unfold Says
  rw [h1, h2]
  refine ⟨fun e => absurd e hk, fun _ => ⟨rfl, h3, ⟨fun e => ?_, fun e => ?_⟩, fun e => ?_⟩⟩
  · simp only at e
    omega
  · exact absurd e hb
  · simp only at e
    omega
/-- The six ways a character of two bytes or more begins. -/
theorem follow_of (b : UInt8) (h : ¬ b.toNat < 128) :
    ((b.toNat < 194 ∨ 244 < b.toNat) ∧ follow b = (0, 0, 0)) ∨ ((194 ≤ b.toNat ∧ b.toNat < 224) ∧ follow b = (1, 128, 191)) ∨ (b.toNat = 224 ∧ follow b = (2, 160, 191)) ∨ (b.toNat = 237 ∧ follow b = (2, 128, 159)) ∨
    ((225 ≤ b.toNat ∧ b.toNat < 240 ∧ b.toNat ≠ 237) ∧ follow b = (2, 128, 191)) ∨ (b.toNat = 240 ∧ follow b = (3, 144, 191)) ∨ (b.toNat = 244 ∧ follow b = (3, 128, 143)) ∨ ((241 ≤ b.toNat ∧ b.toNat < 244) ∧ follow b = (3, 128, 191)) := by
  unfold follow
  repeat' split
  all_goals first | (exfalso; omega) | skip
  · exact .inl ⟨by omega, rfl⟩
  · exact .inr (.inl ⟨by omega, rfl⟩)
  · exact .inr (.inr (.inl ⟨by omega, rfl⟩))
  · exact .inr (.inr (.inr (.inl ⟨by omega, rfl⟩)))
  · exact .inr (.inr (.inr (.inr (.inl ⟨by omega, rfl⟩))))
  · exact .inr (.inr (.inr (.inr (.inr (.inl ⟨by omega, rfl⟩)))))
  · exact .inr (.inr (.inr (.inr (.inr (.inr (.inl ⟨by omega, rfl⟩))))))
  · exact .inr (.inr (.inr (.inr (.inr (.inr (.inr ⟨by omega, rfl⟩))))))
theorem ok1 (lo hi : Nat) (x : UInt8) (r : List UInt8) : okTail 1 lo hi (x :: r) = decide (lo ≤ x.toNat ∧ x.toNat ≤ hi) := by
  unfold okTail
  unfold okTail
  simp
theorem ok2 (lo hi : Nat) (x y : UInt8) (r : List UInt8) : okTail 2 lo hi (x :: y :: r) = decide ((lo ≤ x.toNat ∧ x.toNat ≤ hi) ∧ (128 ≤ y.toNat ∧ y.toNat ≤ 191)) := by
  unfold okTail
  rw [ok1]
  simp only [Bool.decide_and]
theorem ok3 (lo hi : Nat) (x y z : UInt8) (r : List UInt8) : okTail 3 lo hi (x :: y :: z :: r) = decide ((lo ≤ x.toNat ∧ x.toNat ≤ hi) ∧ (128 ≤ y.toNat ∧ y.toNat ≤ 191) ∧ (128 ≤ z.toNat ∧ z.toNat ≤ 191)) := by
  unfold okTail
  rw [ok2]
  simp only [Bool.decide_and]
theorem bytes2 (b x : UInt8) (r : List UInt8) : dec (b :: x :: r) = Lib.decodeN (r.length + 2) b.toNat x.toNat (r.getD 0 0).toNat (r.getD 1 0).toNat := by
  simp [dec]
theorem d2 {n b0 b1 b2 b3 : Nat} (hn : 2 ≤ n) (h0 : 194 ≤ b0 ∧ b0 < 224) : Lib.decodeN n b0 b1 b2 b3 = if 128 ≤ b1 ∧ b1 < 192 then (b0 % 32 * 64 + b1 % 64, 2) else (65533, 1) := by
  unfold Lib.decodeN
  repeat' split
  all_goals first | (exfalso; omega) | rfl
set_option maxHeartbeats 1000000 in
theorem d3 {n b0 b1 b2 b3 : Nat} (lo hi : Nat) (h0 : 224 ≤ b0 ∧ b0 < 240) (hlo : lo = if b0 = 224 then 160 else 128) (hhi : hi = if b0 = 237 then 159 else 191) : Lib.decodeN n b0 b1 b2 b3 = if 3 ≤ n ∧ (lo ≤ b1 ∧ b1 ≤ hi) ∧ (128 ≤ b2 ∧ b2 < 192) then (b0 % 16 * 4096 + b1 % 64 * 64 + b2 % 64, 3) else (65533, 1) := by
  subst hlo hhi
  unfold Lib.decodeN
  repeat' split
  all_goals first | (exfalso; omega) | rfl
set_option maxHeartbeats 1000000 in
theorem d4 {n b0 b1 b2 b3 : Nat} (lo hi : Nat) (h0 : 240 ≤ b0 ∧ b0 < 245) (hlo : lo = if b0 = 240 then 144 else 128) (hhi : hi = if b0 = 244 then 143 else 191) : Lib.decodeN n b0 b1 b2 b3 = if 4 ≤ n ∧ (lo ≤ b1 ∧ b1 ≤ hi) ∧ (128 ≤ b2 ∧ b2 < 192) ∧ (128 ≤ b3 ∧ b3 < 192) then (b0 % 8 * 262144 + b1 % 64 * 4096 + b2 % 64 * 64 + b3 % 64, 4) else (65533, 1) := by
  subst hlo hhi
  unfold Lib.decodeN
  repeat' split
  all_goals first | (exfalso; omega) | rfl
theorem d0 {n b0 b1 b2 b3 : Nat} (h0 : 128 ≤ b0) (h1 : b0 < 256) (h : b0 < 194 ∨ 244 < b0) : Lib.decodeN n b0 b1 b2 b3 = (65533, 1) := by
  unfold Lib.decodeN
  repeat' split
  all_goals first | (exfalso; omega) | rfl
theorem dec_two {b : UInt8} (t : List UInt8) (h : ¬ b.toNat < 128) (hc : 194 ≤ b.toNat ∧ b.toNat < 224) (hf : follow b = (1, 128, 191)) : Says (b :: t) (dec (b :: t)) := by
  have hb := toNat_lt' b
  have hp : ¬ [239, 191, 189] <+: b :: t := npre _ (by omega)
  cases t with
  | nil =>
    refine says_none (by rw [chr_hi _ h, hf]; rfl) ?_ hp
    simp [dec, Lib.decodeN, h]
  | cons x r =>
    have hx := toNat_lt' x
    have hd : dec (b :: x :: r) = if 128 ≤ x.toNat ∧ x.toNat < 192 then (b.toNat % 32 * 64 + x.toNat % 64, 2) else (65533, 1) := by
      rw [bytes2]
      exact d2 (by omega) hc
    have hch : chr (b :: x :: r) = if 128 ≤ x.toNat ∧ x.toNat ≤ 191 then 2 else 0 := by
      rw [chr_hi _ h, hf]
      simp only [ok1]
      simp
    by_cases hx2 : 128 ≤ x.toNat ∧ x.toNat < 192
    · rw [if_pos hx2] at hd
      rw [if_pos (by omega)] at hch
      exact says_some h (by decide) hch hd (by omega) (by omega)
    · rw [if_neg hx2] at hd
      rw [if_neg (by omega)] at hch
      exact says_none hch hd hp
theorem dec_three {b : UInt8} (t : List UInt8) (lo hi : Nat) (h : ¬ b.toNat < 128) (hc : 224 ≤ b.toNat ∧ b.toNat < 240) (hf : follow b = (2, lo, hi)) (hlo : lo = if b.toNat = 224 then 160 else 128) (hhi : hi = if b.toNat = 237 then 159 else 191) : Says (b :: t) (dec (b :: t)) := by
  have hb := toNat_lt' b
  have hd : dec (b :: t) = _ := d3 lo hi hc hlo hhi
  have hch := chr_hi t h
  rw [hf] at hch
  simp only at hch
  cases t with
  | nil =>
    refine says_none (by rw [hch]; rfl) ?_ (npre1 b)
    rw [hd]
    exact if_neg (by simp)
  | cons x r =>
    have hx := toNat_lt' x
    cases r with
    | nil =>
      refine says_none ?_ ?_ (npre2 b x)
      · rw [hch]
        unfold okTail
        unfold okTail
        simp
      · rw [hd]
        exact if_neg (by simp)
    | cons y r =>
      have hy := toNat_lt' y
      rw [ok2] at hch
      have hd' : dec (b :: x :: y :: r) = if 3 ≤ r.length + 1 + 1 + 1 ∧ (lo ≤ x.toNat ∧ x.toNat ≤ hi) ∧ (128 ≤ y.toNat ∧ y.toNat < 192) then (b.toNat % 16 * 4096 + x.toNat % 64 * 64 + y.toNat % 64, 3) else (65533, 1) := hd
      by_cases hx2 : (lo ≤ x.toNat ∧ x.toNat ≤ hi) ∧ (128 ≤ y.toNat ∧ y.toNat < 192)
      · rw [if_pos ⟨by omega, hx2⟩] at hd'
        have hch' : chr (b :: x :: y :: r) = 3 := by
          rw [hch, if_neg (by decide), if_pos (decide_eq_true ⟨hx2.1, by omega⟩)]
        have b1 : 128 ≤ x.toNat ∧ x.toNat ≤ 191 := by
          subst hlo hhi
          obtain ⟨⟨q1, q2⟩, q3⟩ := hx2
          split at q1 <;> split at q2 <;> omega
        refine says_some h (by decide) hch' hd' ?_ ?_
        · subst hlo
          obtain ⟨⟨q1, q2⟩, q3⟩ := hx2
          split at q1 <;> omega
        · intro e
          exact pre3 r (by omega) (by omega) (by omega)
      · rw [if_neg (fun q => hx2 q.2)] at hd'
        have hch' : chr (b :: x :: y :: r) = 0 := by
          rw [hch, if_neg (by decide), if_neg]
          intro q
          have := of_decide_eq_true q
          exact hx2 ⟨this.1, by omega⟩
        refine says_none hch' hd' ?_
        by_cases hb9 : b.toNat = 239
        · refine npre3 r ?_
          rintro ⟨q1, q2⟩
          apply hx2
          rw [hlo, hhi, if_neg (by omega), if_neg (by omega)]
          omega
        · exact npre _ hb9
theorem dec_four {b : UInt8} (t : List UInt8) (lo hi : Nat) (h : ¬ b.toNat < 128) (hc : 240 ≤ b.toNat ∧ b.toNat < 245) (hf : follow b = (3, lo, hi)) (hlo : lo = if b.toNat = 240 then 144 else 128) (hhi : hi = if b.toNat = 244 then 143 else 191) : Says (b :: t) (dec (b :: t)) := by
  have hb := toNat_lt' b
  have hp : ¬ [239, 191, 189] <+: b :: t := npre _ (by omega)
  have hd : dec (b :: t) = _ := d4 lo hi hc hlo hhi
  have hch := chr_hi t h
  rw [hf] at hch
  simp only at hch
  cases t with
  | nil =>
    refine says_none (by rw [hch]; rfl) ?_ hp
    rw [hd]
    exact if_neg (by simp)
  | cons x r =>
    have hx := toNat_lt' x
    cases r with
    | nil =>
      refine says_none ?_ ?_ hp
      · rw [hch]
        unfold okTail
        unfold okTail
        simp
      · rw [hd]
        exact if_neg (by simp)
    | cons y r =>
      have hy := toNat_lt' y
      cases r with
      | nil =>
        refine says_none ?_ ?_ hp
        · rw [hch]
          unfold okTail
          unfold okTail
          unfold okTail
          simp
        · rw [hd]
          exact if_neg (by simp)
      | cons z r =>
        have hz := toNat_lt' z
        rw [ok3] at hch
        have hd' : dec (b :: x :: y :: z :: r) = if 4 ≤ r.length + 1 + 1 + 1 + 1 ∧ (lo ≤ x.toNat ∧ x.toNat ≤ hi) ∧ (128 ≤ y.toNat ∧ y.toNat < 192) ∧ (128 ≤ z.toNat ∧ z.toNat < 192) then (b.toNat % 8 * 262144 + x.toNat % 64 * 4096 + y.toNat % 64 * 64 + z.toNat % 64, 4) else (65533, 1) := hd
        by_cases hx2 : (lo ≤ x.toNat ∧ x.toNat ≤ hi) ∧ (128 ≤ y.toNat ∧ y.toNat < 192) ∧ (128 ≤ z.toNat ∧ z.toNat < 192)
        · rw [if_pos ⟨by omega, hx2⟩] at hd'
          have hch' : chr (b :: x :: y :: z :: r) = 4 := by
            rw [hch, if_neg (by decide), if_pos (decide_eq_true ⟨hx2.1, by omega, by omega⟩)]
          have hr : 65536 ≤ b.toNat % 8 * 262144 + x.toNat % 64 * 4096 + y.toNat % 64 * 64 + z.toNat % 64 := by
            subst hlo hhi
            obtain ⟨⟨q1, q2⟩, q3⟩ := hx2
            split at q1 <;> split at q2 <;> omega
          exact says_some h (by decide) hch' hd' (by omega) (by omega)
        · rw [if_neg (fun q => hx2 q.2)] at hd'
          have hch' : chr (b :: x :: y :: z :: r) = 0 := by
            rw [hch, if_neg (by decide), if_neg]
            intro q
            have := of_decide_eq_true q
            exact hx2 ⟨this.1, by omega, by omega⟩
          exact says_none hch' hd' hp
theorem dec_says (l : List UInt8) (hl : l ≠ []) : Says l (dec l) := by
  cases l with
  | nil => exact absurd rfl hl
  | cons b t =>
    by_cases h : b.toNat < 128
    · exact says_low t h
    · have hb := toNat_lt' b
      rcases follow_of b h with ⟨hc, hf⟩ | ⟨hc, hf⟩ | ⟨hc, hf⟩ | ⟨hc, hf⟩ | ⟨hc, hf⟩ | ⟨hc, hf⟩ | ⟨hc, hf⟩ | ⟨hc, hf⟩
      · exact says_none (by rw [chr_hi _ h, hf]; rfl) (d0 (b0 := b.toNat) (by omega) hb hc) (npre _ (by omega))
      · exact dec_two t h hc hf
      · exact dec_three t 160 191 h (by omega) hf (by simp [hc]) (by simp [hc])
      · exact dec_three t 128 159 h (by omega) hf (by simp [hc]) (by simp [hc])
      · exact dec_three t 128 191 h (by omega) hf (by rw [if_neg (by omega)]) (by rw [if_neg (by omega)])
      · exact dec_four t 144 191 h (by omega) hf (by simp [hc]) (by simp [hc])
      · exact dec_four t 128 143 h (by omega) hf (by simp [hc]) (by simp [hc])
      · exact dec_four t 128 191 h (by omega) hf (by rw [if_neg (by omega)]) (by rw [if_neg (by omega)])
theorem get!_getD (s : ByteArray) (l : List UInt8) (hs : s.data.toList = l) (i : Nat) : s.get! i = l.getD i 0 := by
  subst hs
  rw [List.getD_eq_getElem?_getD, Array.getElem?_toList]
  show s.data[i]! = _
  rw [getElem!_def]
  cases s.data[i]? <;> rfl
/-- The model's own decoding at place i. -/
theorem decode_says (s : ByteArray) (l : List UInt8) (hs : s.data.toList = l) (i : Nat) (hi : i < l.length) : Says (l.drop i) (Utf8.decode s i) := by
  have hz : s.size = l.length := by rw [← hs]; rfl
  have e : Utf8.decode s i = dec (l.drop i) := by
    rw [Lib.decode_at, get!_getD s l hs, get!_getD s l hs, get!_getD s l hs, get!_getD s l hs, hz]
    unfold dec
    simp [List.getD_eq_getElem?_getD, List.getElem?_drop]
  rw [e]
  exact dec_says _ (by intro h; have := congrArg List.length h; simp at this; omega)
end Go.Proofs.YtjbalgjdcdmjjaaDoor.S
