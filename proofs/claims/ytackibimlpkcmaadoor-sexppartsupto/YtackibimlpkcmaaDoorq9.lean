/- Laid together of: DecMath, QuoteMath. -/
import Derived.Test.YtackibimlpkcmaaDoorScanModelq
import Derived.Lib.DecodeN
/- ==== DecMath ==== -/
namespace Go.Proofs.YtackibimlpkcmaaDoor.S
set_option linter.unusedVariables false
theorem toNat_lt' (b : UInt8) : b.toNat < 256 := b.toNat_lt
/-- The model's decoding of what a list begins with. -/
def dec (l : List UInt8) : Nat × Nat := Lib.decodeN l.length (l.getD 0 0).toNat (l.getD 1 0).toNat (l.getD 2 0).toNat (l.getD 3 0).toNat
/-- What a character's decoding says. -/
def Says (l : List UInt8) (D : Nat × Nat) : Prop :=
  (chr l = 0 → D = (65533, 1) ∧ ¬ [239, 191, 189] <+: l) ∧
  (chr l ≠ 0 → D.2 = chr l ∧ (D.1 = 65533 → [239, 191, 189] <+: l) ∧ (D.1 < 128 ↔ (l.headD 0).toNat < 128) ∧ (D.1 < 128 → D.1 = (l.headD 0).toNat))
theorem pre3 {x y z : UInt8} (r : List UInt8) (h1 : x.toNat = 239) (h2 : y.toNat = 191) (h3 : z.toNat = 189) : [239, 191, 189] <+: x :: y :: z :: r := by
  have e1 : x = 239 := UInt8.toNat_inj.1 h1
  have e2 : y = 191 := UInt8.toNat_inj.1 h2
  have e3 : z = 189 := UInt8.toNat_inj.1 h3
  subst e1 e2 e3
  exact ⟨r, rfl⟩
theorem npre {x : UInt8} (r : List UInt8) (h1 : x.toNat ≠ 239) : ¬ [239, 191, 189] <+: x :: r := by
  rintro ⟨t, h⟩
  simp at h
  exact h1 (by rw [← h.1]; rfl)
theorem npre1 (x : UInt8) : ¬ [239, 191, 189] <+: [x] := by
  rintro ⟨t, h⟩
  simp at h
theorem npre2 (x y : UInt8) : ¬ [239, 191, 189] <+: [x, y] := by
  rintro ⟨t, h⟩
  simp at h
theorem npre3 {x y z : UInt8} (r : List UInt8) (h : ¬ (y.toNat = 191 ∧ z.toNat = 189)) : ¬ [239, 191, 189] <+: x :: y :: z :: r := by
  rintro ⟨t, e⟩
  simp at e
  exact h ⟨by rw [← e.2.1]; rfl, by rw [← e.2.2.1]; rfl⟩
theorem chr_hi {b : UInt8} (t : List UInt8) (h : ¬ b.toNat < 128) : chr (b :: t) = if (follow b).1 = 0 then 0 else if okTail (follow b).1 (follow b).2.1 (follow b).2.2 t then (follow b).1 + 1 else 0 := by
  show (if b.toNat < 128 then 1 else _) = _
  rw [if_neg h]
theorem says_low {b : UInt8} (t : List UInt8) (h : b.toNat < 128) : Says (b :: t) (dec (b :: t)) := by
  have h1 : chr (b :: t) = 1 := by simp [chr, h]
  have h2 : dec (b :: t) = (b.toNat, 1) := by simp [dec, Lib.decodeN, h]
  unfold Says
  rw [h1, h2]
  refine ⟨by simp, fun _ => ⟨rfl, ?_, by simp, by simp⟩⟩
  intro e
  simp at e
  omega
theorem says_none {l : List UInt8} (h1 : chr l = 0) (h2 : dec l = (65533, 1)) (h3 : ¬ [239, 191, 189] <+: l) : Says l (dec l) := by
  unfold Says
  rw [h1, h2]
  exact ⟨fun _ => ⟨rfl, h3⟩, by simp⟩
theorem says_some {b : UInt8} {t : List UInt8} {r k : Nat} (hb : ¬ b.toNat < 128) (hk : k ≠ 0) (h1 : chr (b :: t) = k) (h2 : dec (b :: t) = (r, k)) (hr : 128 ≤ r) (h3 : r = 65533 → [239, 191, 189] <+: b :: t) : Says (b :: t) (dec (b :: t)) := by
  unfold Says
  rw [h1, h2]
  refine ⟨fun e => absurd e hk, fun _ => ⟨rfl, h3, ⟨fun e => ?_, fun e => ?_⟩, fun e => ?_⟩⟩
  · simp only at e
    omega
  · exact absurd e hb
  · simp only at e
    omega
/-- The six ways a character of two bytes or more begins. -/
theorem follow_of (b : UInt8) (h : ¬ b.toNat < 128) :
    ((b.toNat < 194 ∨ 244 < b.toNat) ∧ follow b = (0, 0, 0)) ∨ ((194 ≤ b.toNat ∧ b.toNat < 224) ∧ follow b = (1, 128, 191)) ∨ (b.toNat = 224 ∧ follow b = (2, 160, 191)) ∨ (b.toNat = 237 ∧ follow b = (2, 128, 159)) ∨
    ((225 ≤ b.toNat ∧ b.toNat < 240 ∧ b.toNat ≠ 237) ∧ follow b = (2, 128, 191)) ∨ (b.toNat = 240 ∧ follow b = (3, 144, 191)) ∨ (b.toNat = 244 ∧ follow b = (3, 128, 143)) ∨ ((241 ≤ b.toNat ∧ b.toNat < 244) ∧ follow b = (3, 128, 191)) := by
  unfold follow
  repeat' split
  all_goals first | (exfalso; omega) | skip
  · exact .inl ⟨by omega, rfl⟩
  · exact .inr (.inl ⟨by omega, rfl⟩)
  · exact .inr (.inr (.inl ⟨by omega, rfl⟩))
  · exact .inr (.inr (.inr (.inl ⟨by omega, rfl⟩)))
  · exact .inr (.inr (.inr (.inr (.inl ⟨by omega, rfl⟩))))
  · exact .inr (.inr (.inr (.inr (.inr (.inl ⟨by omega, rfl⟩)))))
  · exact .inr (.inr (.inr (.inr (.inr (.inr (.inl ⟨by omega, rfl⟩))))))
  · exact .inr (.inr (.inr (.inr (.inr (.inr (.inr ⟨by omega, rfl⟩))))))
theorem ok1 (lo hi : Nat) (x : UInt8) (r : List UInt8) : okTail 1 lo hi (x :: r) = decide (lo ≤ x.toNat ∧ x.toNat ≤ hi) := by
  unfold okTail
  unfold okTail
  simp
theorem ok2 (lo hi : Nat) (x y : UInt8) (r : List UInt8) : okTail 2 lo hi (x :: y :: r) = decide ((lo ≤ x.toNat ∧ x.toNat ≤ hi) ∧ (128 ≤ y.toNat ∧ y.toNat ≤ 191)) := by
  unfold okTail
  rw [ok1]
  simp only [Bool.decide_and]
theorem ok3 (lo hi : Nat) (x y z : UInt8) (r : List UInt8) : okTail 3 lo hi (x :: y :: z :: r) = decide ((lo ≤ x.toNat ∧ x.toNat ≤ hi) ∧ (128 ≤ y.toNat ∧ y.toNat ≤ 191) ∧ (128 ≤ z.toNat ∧ z.toNat ≤ 191)) := by
  unfold okTail
  rw [ok2]
  simp only [Bool.decide_and]
theorem bytes2 (b x : UInt8) (r : List UInt8) : dec (b :: x :: r) = Lib.decodeN (r.length + 2) b.toNat x.toNat (r.getD 0 0).toNat (r.getD 1 0).toNat := by
  simp [dec]
theorem d2 {n b0 b1 b2 b3 : Nat} (hn : 2 ≤ n) (h0 : 194 ≤ b0 ∧ b0 < 224) : Lib.decodeN n b0 b1 b2 b3 = if 128 ≤ b1 ∧ b1 < 192 then (b0 % 32 * 64 + b1 % 64, 2) else (65533, 1) := by
  unfold Lib.decodeN
  repeat' split
  all_goals first | (exfalso; omega) | rfl
set_option maxHeartbeats 1000000 in
theorem d3 {n b0 b1 b2 b3 : Nat} (lo hi : Nat) (h0 : 224 ≤ b0 ∧ b0 < 240) (hlo : lo = if b0 = 224 then 160 else 128) (hhi : hi = if b0 = 237 then 159 else 191) : Lib.decodeN n b0 b1 b2 b3 = if 3 ≤ n ∧ (lo ≤ b1 ∧ b1 ≤ hi) ∧ (128 ≤ b2 ∧ b2 < 192) then (b0 % 16 * 4096 + b1 % 64 * 64 + b2 % 64, 3) else (65533, 1) := by
  subst hlo hhi
  unfold Lib.decodeN
  repeat' split
  all_goals first | (exfalso; omega) | rfl
set_option maxHeartbeats 1000000 in
theorem d4 {n b0 b1 b2 b3 : Nat} (lo hi : Nat) (h0 : 240 ≤ b0 ∧ b0 < 245) (hlo : lo = if b0 = 240 then 144 else 128) (hhi : hi = if b0 = 244 then 143 else 191) : Lib.decodeN n b0 b1 b2 b3 = if 4 ≤ n ∧ (lo ≤ b1 ∧ b1 ≤ hi) ∧ (128 ≤ b2 ∧ b2 < 192) ∧ (128 ≤ b3 ∧ b3 < 192) then (b0 % 8 * 262144 + b1 % 64 * 4096 + b2 % 64 * 64 + b3 % 64, 4) else (65533, 1) := by
  subst hlo hhi
  unfold Lib.decodeN
  repeat' split
  all_goals first | (exfalso; omega) | rfl
theorem d0 {n b0 b1 b2 b3 : Nat} (h0 : 128 ≤ b0) (h1 : b0 < 256) (h : b0 < 194 ∨ 244 < b0) : Lib.decodeN n b0 b1 b2 b3 = (65533, 1) := by
  unfold Lib.decodeN
  repeat' split
  all_goals first | (exfalso; omega) | rfl
theorem dec_two {b : UInt8} (t : List UInt8) (h : ¬ b.toNat < 128) (hc : 194 ≤ b.toNat ∧ b.toNat < 224) (hf : follow b = (1, 128, 191)) : Says (b :: t) (dec (b :: t)) := by
  have hb := toNat_lt' b
  have hp : ¬ [239, 191, 189] <+: b :: t := npre _ (by omega)
  cases t with
  | nil =>
    refine says_none (by rw [chr_hi _ h, hf]; rfl) ?_ hp
    simp [dec, Lib.decodeN, h]
  | cons x r =>
    have hx := toNat_lt' x
    have hd : dec (b :: x :: r) = if 128 ≤ x.toNat ∧ x.toNat < 192 then (b.toNat % 32 * 64 + x.toNat % 64, 2) else (65533, 1) := by
      rw [bytes2]
      exact d2 (by omega) hc
    have hch : chr (b :: x :: r) = if 128 ≤ x.toNat ∧ x.toNat ≤ 191 then 2 else 0 := by
      rw [chr_hi _ h, hf]
      simp only [ok1]
      simp
    by_cases hx2 : 128 ≤ x.toNat ∧ x.toNat < 192
    · rw [if_pos hx2] at hd
      rw [if_pos (by omega)] at hch
      exact says_some h (by decide) hch hd (by omega) (by omega)
    · rw [if_neg hx2] at hd
      rw [if_neg (by omega)] at hch
      exact says_none hch hd hp
theorem dec_three {b : UInt8} (t : List UInt8) (lo hi : Nat) (h : ¬ b.toNat < 128) (hc : 224 ≤ b.toNat ∧ b.toNat < 240) (hf : follow b = (2, lo, hi)) (hlo : lo = if b.toNat = 224 then 160 else 128) (hhi : hi = if b.toNat = 237 then 159 else 191) : Says (b :: t) (dec (b :: t)) := by
  have hb := toNat_lt' b
  have hd : dec (b :: t) = _ := d3 lo hi hc hlo hhi
  have hch := chr_hi t h
  rw [hf] at hch
  simp only at hch
  cases t with
  | nil =>
    refine says_none (by rw [hch]; rfl) ?_ (npre1 b)
    rw [hd]
    exact if_neg (by simp)
  | cons x r =>
    have hx := toNat_lt' x
    cases r with
    | nil =>
      refine says_none ?_ ?_ (npre2 b x)
      · rw [hch]
        unfold okTail
        unfold okTail
        simp
      · rw [hd]
        exact if_neg (by simp)
    | cons y r =>
      have hy := toNat_lt' y
      rw [ok2] at hch
      have hd' : dec (b :: x :: y :: r) = if 3 ≤ r.length + 1 + 1 + 1 ∧ (lo ≤ x.toNat ∧ x.toNat ≤ hi) ∧ (128 ≤ y.toNat ∧ y.toNat < 192) then (b.toNat % 16 * 4096 + x.toNat % 64 * 64 + y.toNat % 64, 3) else (65533, 1) := hd
      by_cases hx2 : (lo ≤ x.toNat ∧ x.toNat ≤ hi) ∧ (128 ≤ y.toNat ∧ y.toNat < 192)
      · rw [if_pos ⟨by omega, hx2⟩] at hd'
        have hch' : chr (b :: x :: y :: r) = 3 := by
          rw [hch, if_neg (by decide), if_pos (decide_eq_true ⟨hx2.1, by omega⟩)]
        have b1 : 128 ≤ x.toNat ∧ x.toNat ≤ 191 := by
          subst hlo hhi
          obtain ⟨⟨q1, q2⟩, q3⟩ := hx2
          split at q1 <;> split at q2 <;> omega
        refine says_some h (by decide) hch' hd' ?_ ?_
        · subst hlo
          obtain ⟨⟨q1, q2⟩, q3⟩ := hx2
          split at q1 <;> omega
        · intro e
          exact pre3 r (by omega) (by omega) (by omega)
      · rw [if_neg (fun q => hx2 q.2)] at hd'
        have hch' : chr (b :: x :: y :: r) = 0 := by
          rw [hch, if_neg (by decide), if_neg]
          intro q
          have := of_decide_eq_true q
          exact hx2 ⟨this.1, by omega⟩
        refine says_none hch' hd' ?_
        by_cases hb9 : b.toNat = 239
        · refine npre3 r ?_
          rintro ⟨q1, q2⟩
          apply hx2
          rw [hlo, hhi, if_neg (by omega), if_neg (by omega)]
          omega
        · exact npre _ hb9
theorem dec_four {b : UInt8} (t : List UInt8) (lo hi : Nat) (h : ¬ b.toNat < 128) (hc : 240 ≤ b.toNat ∧ b.toNat < 245) (hf : follow b = (3, lo, hi)) (hlo : lo = if b.toNat = 240 then 144 else 128) (hhi : hi = if b.toNat = 244 then 143 else 191) : Says (b :: t) (dec (b :: t)) := by
  have hb := toNat_lt' b
  have hp : ¬ [239, 191, 189] <+: b :: t := npre _ (by omega)
  have hd : dec (b :: t) = _ := d4 lo hi hc hlo hhi
  have hch := chr_hi t h
  rw [hf] at hch
  simp only at hch
  cases t with
  | nil =>
    refine says_none (by rw [hch]; rfl) ?_ hp
    rw [hd]
    exact if_neg (by simp)
  | cons x r =>
    have hx := toNat_lt' x
    cases r with
    | nil =>
      refine says_none ?_ ?_ hp
      · rw [hch]
        unfold okTail
        unfold okTail
        simp
      · rw [hd]
        exact if_neg (by simp)
    | cons y r =>
      have hy := toNat_lt' y
      cases r with
      | nil =>
        refine says_none ?_ ?_ hp
        · rw [hch]
          unfold okTail
          unfold okTail
          unfold okTail
          simp
        · rw [hd]
          exact if_neg (by simp)
      | cons z r =>
        have hz := toNat_lt' z
        rw [ok3] at hch
        have hd' : dec (b :: x :: y :: z :: r) = if 4 ≤ r.length + 1 + 1 + 1 + 1 ∧ (lo ≤ x.toNat ∧ x.toNat ≤ hi) ∧ (128 ≤ y.toNat ∧ y.toNat < 192) ∧ (128 ≤ z.toNat ∧ z.toNat < 192) then (b.toNat % 8 * 262144 + x.toNat % 64 * 4096 + y.toNat % 64 * 64 + z.toNat % 64, 4) else (65533, 1) := hd
        by_cases hx2 : (lo ≤ x.toNat ∧ x.toNat ≤ hi) ∧ (128 ≤ y.toNat ∧ y.toNat < 192) ∧ (128 ≤ z.toNat ∧ z.toNat < 192)
        · rw [if_pos ⟨by omega, hx2⟩] at hd'
          have hch' : chr (b :: x :: y :: z :: r) = 4 := by
            rw [hch, if_neg (by decide), if_pos (decide_eq_true ⟨hx2.1, by omega, by omega⟩)]
          have hr : 65536 ≤ b.toNat % 8 * 262144 + x.toNat % 64 * 4096 + y.toNat % 64 * 64 + z.toNat % 64 := by
            subst hlo hhi
            obtain ⟨⟨q1, q2⟩, q3⟩ := hx2
            split at q1 <;> split at q2 <;> omega
          exact says_some h (by decide) hch' hd' (by omega) (by omega)
        · rw [if_neg (fun q => hx2 q.2)] at hd'
          have hch' : chr (b :: x :: y :: z :: r) = 0 := by
            rw [hch, if_neg (by decide), if_neg]
            intro q
            have := of_decide_eq_true q
            exact hx2 ⟨this.1, by omega, by omega⟩
          exact says_none hch' hd' hp
theorem dec_says (l : List UInt8) (hl : l ≠ []) : Says l (dec l) := by
  cases l with
  | nil => exact absurd rfl hl
  | cons b t =>
    by_cases h : b.toNat < 128
    · exact says_low t h
    · have hb := toNat_lt' b
      rcases follow_of b h with ⟨hc, hf⟩ | ⟨hc, hf⟩ | ⟨hc, hf⟩ | ⟨hc, hf⟩ | ⟨hc, hf⟩ | ⟨hc, hf⟩ | ⟨hc, hf⟩ | ⟨hc, hf⟩
      · exact says_none (by rw [chr_hi _ h, hf]; rfl) (d0 (b0 := b.toNat) (by omega) hb hc) (npre _ (by omega))
      · exact dec_two t h hc hf
      · exact dec_three t 160 191 h (by omega) hf (by simp [hc]) (by simp [hc])
      · exact dec_three t 128 159 h (by omega) hf (by simp [hc]) (by simp [hc])
      · exact dec_three t 128 191 h (by omega) hf (by rw [if_neg (by omega)]) (by rw [if_neg (by omega)])
      · exact dec_four t 144 191 h (by omega) hf (by simp [hc]) (by simp [hc])
      · exact dec_four t 128 143 h (by omega) hf (by simp [hc]) (by simp [hc])
      · exact dec_four t 128 191 h (by omega) hf (by rw [if_neg (by omega)]) (by rw [if_neg (by omega)])
theorem get!_getD (s : ByteArray) (l : List UInt8) (hs : s.data.toList = l) (i : Nat) : s.get! i = l.getD i 0 := by
  subst hs
  rw [List.getD_eq_getElem?_getD, Array.getElem?_toList]
  show s.data[i]! = _
  rw [getElem!_def]
  cases s.data[i]? <;> rfl
/-- The model's own decoding at place i. -/
theorem decode_says (s : ByteArray) (l : List UInt8) (hs : s.data.toList = l) (i : Nat) (hi : i < l.length) : Says (l.drop i) (Utf8.decode s i) := by
  have hz : s.size = l.length := by rw [← hs]; rfl
  have e : Utf8.decode s i = dec (l.drop i) := by
    rw [Lib.decode_at, get!_getD s l hs, get!_getD s l hs, get!_getD s l hs, get!_getD s l hs, hz]
    unfold dec
    simp [List.getD_eq_getElem?_getD, List.getElem?_drop]
  rw [e]
  exact dec_says _ (by intro h; have := congrArg List.length h; simp at this; omega)
end Go.Proofs.YtackibimlpkcmaaDoor.S
/- ==== QuoteMath ==== -/
namespace Go.Proofs.YtackibimlpkcmaaDoor.S
set_option linter.unusedVariables false
/-- Characters that may stand in a string, and nothing else. -/
def wr (l : List UInt8) : Bool :=
  match l with
  | [] => true
  | b :: t =>
    if ctl b then false
    else if h : chr (b :: t) = 0 then false
    else
      have := so_cut b t _ h
      wr ((b :: t).drop (chr (b :: t)))
theorem wr_nil : wr [] = true := by rw [wr]
theorem wr_ctl {b : UInt8} {t : List UInt8} (h : ctl b = true) : wr (b :: t) = false := by rw [wr, if_pos h]
theorem wr_none {b : UInt8} {t : List UInt8} (h : chr (b :: t) = 0) : wr (b :: t) = false := by
  rw [wr]
  by_cases hc : ctl b = true
  · rw [if_pos hc]
  · rw [if_neg hc, dif_pos h]
theorem wr_on {b : UInt8} {t : List UInt8} (hc : ctl b = false) (h : chr (b :: t) ≠ 0) : wr (b :: t) = wr ((b :: t).drop (chr (b :: t))) := by
  rw [wr, if_neg (by rw [hc]; simp), dif_neg h]
/-- Neither a bar nor a backslash. -/
def nobar (l : List UInt8) : Bool := l.all fun b => b != 124 && b != 92
theorem okTail_bar : ∀ (n lo hi : Nat) (t : List UInt8), 128 ≤ lo → okTail n lo hi (t ++ [124]) = okTail n lo hi t
  | 0, _, _, _, _ => rfl
  | n + 1, lo, hi, [], h => by
    rw [List.nil_append, okTail, okTail]
    simp
    intro h1
    omega
  | n + 1, lo, hi, c :: r, h => by
    rw [List.cons_append, okTail, okTail, okTail_bar n 0x80 0xBF r (by decide)]
theorem chr_cons (b : UInt8) (t : List UInt8) : chr (b :: t) = if b.toNat < 128 then 1 else if (follow b).1 = 0 then 0 else if okTail (follow b).1 (follow b).2.1 (follow b).2.2 t then (follow b).1 + 1 else 0 := rfl
theorem chr_bar (b : UInt8) (t : List UInt8) : chr (b :: (t ++ [124])) = chr (b :: t) := by
  rw [chr_cons, chr_cons]
  by_cases h1 : b.toNat < 128
  · rw [if_pos h1, if_pos h1]
  · rw [if_neg h1, if_neg h1]
    by_cases h2 : (follow b).1 = 0
    · rw [if_pos h2, if_pos h2]
    · rw [if_neg h2, if_neg h2, okTail_bar _ _ _ _ (follow_low b h2)]
theorem okTail_all : ∀ (n lo hi : Nat) (t : List UInt8), 128 ≤ lo → okTail n lo hi t = true → ∀ x, x ∈ t.take n → 128 ≤ x.toNat
  | 0, _, _, _, _, _ => by simp
  | n + 1, lo, hi, [], h, e => by simp [okTail] at e
  | n + 1, lo, hi, c :: r, h, e => by
    rw [okTail, Bool.and_eq_true] at e
    intro x hx
    rw [List.take_succ_cons] at hx
    rcases List.mem_cons.1 hx with rfl | hx
    · have := of_decide_eq_true e.1
      omega
    · exact okTail_all n 0x80 0xBF r (by decide) e.2 x hx
/-- A character's bytes: one below 128, or all from 128 on. -/
theorem chr_bytes (b : UInt8) (t : List UInt8) (h : chr (b :: t) ≠ 0) : (chr (b :: t) = 1 ∧ b.toNat < 128) ∨ ∀ x, x ∈ (b :: t).take (chr (b :: t)) → 128 ≤ x.toNat := by
  rw [chr_cons] at *
  by_cases h1 : b.toNat < 128
  · rw [if_pos h1]
    exact .inl ⟨rfl, h1⟩
  · rw [if_neg h1] at *
    by_cases h2 : (follow b).1 = 0
    · rw [if_pos h2] at h
      exact absurd rfl h
    · rw [if_neg h2] at *
      by_cases h3 : okTail (follow b).1 (follow b).2.1 (follow b).2.2 t = true
      · rw [if_pos h3]
        refine .inr fun x hx => ?_
        rw [List.take_succ_cons] at hx
        rcases List.mem_cons.1 hx with rfl | hx
        · omega
        · exact okTail_all _ _ _ _ (follow_low b h2) h3 x hx
      · rw [if_neg h3] at h
        exact absurd rfl h
theorem nobar_char (b : UInt8) (t : List UInt8) (h : chr (b :: t) ≠ 0) (h1 : b ≠ 124) (h2 : b ≠ 92) : nobar (b :: t) = nobar ((b :: t).drop (chr (b :: t))) := by
  have e : nobar (b :: t) = (nobar ((b :: t).take (chr (b :: t))) && nobar ((b :: t).drop (chr (b :: t)))) := by
    conv => lhs; rw [← List.take_append_drop (chr (b :: t)) (b :: t)]
    unfold nobar
    rw [List.all_append]
  have q : nobar ((b :: t).take (chr (b :: t))) = true := by
    unfold nobar
    rw [List.all_eq_true]
    intro x hx
    rcases chr_bytes b t h with ⟨a, c⟩ | a
    · rw [a] at hx
      simp at hx
      subst hx
      simp [h1, h2]
    · have := a x hx
      have n1 : x ≠ 124 := by rintro rfl; revert this; decide
      have n2 : x ≠ 92 := by rintro rfl; revert this; decide
      simp [n1, n2]
  rw [e, q, Bool.true_and]
theorem ctl_bar : ctl 124 = false := by decide
theorem ctl_slash : ctl 92 = false := by decide
theorem dBars_on (g : Nat) (a : List UInt8) {b : UInt8} {t : List UInt8} (i : Nat) (n1 : b ≠ 124) (n2 : b ≠ 92) (hc : ctl b = false) (h : chr (b :: t) ≠ 0) : dBars g a (b :: t) i = dBars g (a ++ (b :: t).take (chr (b :: t))) ((b :: t).drop (chr (b :: t))) (i + chr (b :: t)) := by
  rw [dBars, if_neg n1, if_neg n2, if_neg (by rw [hc]; simp), dif_neg h]
theorem bars_yes (g : Nat) (a l : List UInt8) (i : Nat) (h : wr l = true) (hn : nobar l = true) : dBars g a (l ++ [124]) i = .tok ⟨3, g, i + l.length + 1, a ++ l⟩ [] := by
  induction hm : l.length using Nat.strongRecOn generalizing a l i with
  | _ n ih =>
    cases l with
    | nil =>
      rw [List.nil_append, dBars, if_pos rfl]
      subst hm
      simp
    | cons b t =>
      have n1 : b ≠ 124 := by rintro rfl; simp [nobar] at hn
      have n2 : b ≠ 92 := by rintro rfl; simp [nobar] at hn
      have hc : ctl b = false := by
        cases hc : ctl b
        · rfl
        · rw [wr_ctl hc] at h
          exact absurd h (by simp)
      have h0 : chr (b :: t) ≠ 0 := by
        intro e
        rw [wr_none e] at h
        exact absurd h (by simp)
      have hle := chr_le (b :: t)
      rw [wr_on hc h0] at h
      rw [nobar_char b t h0 n1 n2] at hn
      rw [List.cons_append, dBars_on g a i n1 n2 hc (by rw [chr_bar]; exact h0)]
      rw [chr_bar, ← List.cons_append, List.take_append_of_le_length hle, List.drop_append_of_le_length hle]
      rw [ih ((b :: t).drop (chr (b :: t))).length (by rw [List.length_drop]; simp at *; omega) _ _ _ h hn rfl, List.append_assoc, List.take_append_drop]
      subst hm
      congr 3
      rw [List.length_drop]
      omega
theorem bars_no (g : Nat) (a l : List UInt8) (i : Nat) (h : ¬ (wr l = true ∧ nobar l = true)) : (∃ e p, dBars g a (l ++ [124]) i = .err e p ∧ e ≠ 0) ∨ ∃ tk r, dBars g a (l ++ [124]) i = .tok tk r ∧ tk.fin ≤ i + l.length := by
  induction hm : l.length using Nat.strongRecOn generalizing a l i with
  | _ n ih =>
    cases l with
    | nil => exact absurd ⟨wr_nil, rfl⟩ h
    | cons b t =>
      rw [List.cons_append]
      by_cases n1 : b = 124
      · rw [dBars, if_pos n1]
        refine .inr ⟨_, _, rfl, ?_⟩
        subst hm
        simp
      · by_cases n2 : b = 92
        · rw [dBars, if_neg n1, if_pos n2]
          exact .inl ⟨_, _, rfl, by decide⟩
        · by_cases hc : ctl b = true
          · rw [dBars, if_neg n1, if_neg n2, if_pos hc]
            exact .inl ⟨_, _, rfl, by decide⟩
          · by_cases h0 : chr (b :: t) = 0
            · rw [dBars, if_neg n1, if_neg n2, if_neg hc, dif_pos (by rw [chr_bar]; exact h0)]
              exact .inl ⟨_, _, rfl, by decide⟩
            · have hle := chr_le (b :: t)
              have hc' : ctl b = false := by simpa using hc
              rw [dBars_on g a i n1 n2 hc' (by rw [chr_bar]; exact h0), chr_bar, ← List.cons_append, List.take_append_of_le_length hle, List.drop_append_of_le_length hle]
              rw [wr_on hc' h0, nobar_char b t h0 n1 n2] at h
              rcases ih ((b :: t).drop (chr (b :: t))).length (by rw [List.length_drop]; simp at *; omega) (a ++ (b :: t).take (chr (b :: t))) _ (i + chr (b :: t)) h rfl with q | ⟨tk, r, q1, q2⟩
              · exact .inl q
              · refine .inr ⟨tk, r, q1, ?_⟩
                rw [List.length_drop] at q2
                omega
/-- A string's marks doubled. -/
def dbl (l : List UInt8) : List UInt8 := l.flatMap fun b => if b = 34 then [34, 34] else [b]
theorem dbl_nil : dbl [] = [] := rfl
theorem dbl_cons (b : UInt8) (t : List UInt8) : dbl (b :: t) = (if b = 34 then [34, 34] else [b]) ++ dbl t := rfl
theorem dbl_append (a b : List UInt8) : dbl (a ++ b) = dbl a ++ dbl b := by simp [dbl]
theorem dbl_len (l : List UInt8) : (dbl l).length ≤ 2 * l.length := by
  induction l with
  | nil => simp [dbl]
  | cons b t ih =>
    rw [dbl_cons, List.length_append, List.length_cons]
    by_cases h : b = 34
    · rw [if_pos h]; simp; omega
    · rw [if_neg h]; simp; omega
theorem dbl_plain (l : List UInt8) (h : ∀ x, x ∈ l → x ≠ 34) : dbl l = l := by
  induction l with
  | nil => rfl
  | cons b t ih =>
    rw [dbl_cons, if_neg (h b List.mem_cons_self), ih (fun x hx => h x (List.mem_cons_of_mem _ hx))]
    rfl
/-- A character's bytes, a mark doubled. -/
theorem dbl_char (b : UInt8) (t : List UInt8) (h : chr (b :: t) ≠ 0) : dbl ((b :: t).take (chr (b :: t))) = (if b = 34 then [34] else []) ++ (b :: t).take (chr (b :: t)) := by
  rcases chr_bytes b t h with ⟨a, c⟩ | a
  · rw [a]
    by_cases h34 : b = 34
    · subst h34
      rfl
    · rw [if_neg h34]
      exact dbl_plain _ (by intro x hx; simp at hx; subst hx; exact h34)
  · have hb : b ≠ 34 := by
      have := a b (by
        obtain ⟨n, hn⟩ : ∃ n, chr (b :: t) = n + 1 := ⟨chr (b :: t) - 1, by omega⟩
        rw [hn, List.take_succ_cons]
        exact List.mem_cons_self)
      rintro rfl
      revert this
      decide
    rw [if_neg hb]
    refine dbl_plain _ fun x hx => ?_
    have := a x hx
    rintro rfl
    revert this
    decide
/-- Could it stand as a symbol without bars? -/
def smp (l : List UInt8) : Bool := match l with | [] => false | b :: t => !dig b && (b :: t).all sym
/-- A symbol's spelling; none: it has none. -/
def quo (res : List UInt8 → Bool) (l : List UInt8) : Option (List UInt8) := if smp l && !res l then some l else if wr l && nobar l then some (124 :: (l ++ [124])) else none
/-- A string's spelling. -/
def lit (l : List UInt8) : Option (List UInt8) := if wr l then some (34 :: (dbl l ++ [34])) else none
end Go.Proofs.YtackibimlpkcmaaDoor.S
