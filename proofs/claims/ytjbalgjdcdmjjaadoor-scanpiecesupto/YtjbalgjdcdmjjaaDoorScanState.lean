/-
  The scanner's states: which method's value stands for which state of the plain machine; the classes of bytes.
-/
import Derived.Test.YtjbalgjdcdmjjaaDoorScanWhole
namespace Go.Proofs.YtjbalgjdcdmjjaaDoor
open Go.RowKit
set_option linter.unusedVariables false
theorem all_bytes {P : UInt8 → Bool} (h : (List.range 256).all (fun n => P (UInt8.ofNat n)) = true) (b : UInt8) : P b = true := by
  have h1 := List.all_eq_true.1 h b.toNat (by simpa using UInt8.toNat_lt b)
  simpa using h1
section
open S
set_option maxRecDepth 100000
theorem cls_le (b : UInt8) : cls b.toNat ≤ 8 := of_decide_eq_true (all_bytes (P := fun b => decide (cls b.toNat ≤ 8)) (by decide +kernel) b)
theorem cls_sym (b : UInt8) : sym b = decide (cls b.toNat ≤ 3) := of_decide_eq_true (all_bytes (P := fun b => decide (sym b = decide (cls b.toNat ≤ 3))) (by decide +kernel) b)
theorem cls_dig (b : UInt8) : dig b = decide (cls b.toNat ≤ 1) := of_decide_eq_true (all_bytes (P := fun b => decide (dig b = decide (cls b.toNat ≤ 1))) (by decide +kernel) b)
theorem cls_bin (b : UInt8) : bin b = decide (cls b.toNat ≤ 0) := of_decide_eq_true (all_bytes (P := fun b => decide (bin b = decide (cls b.toNat ≤ 0))) (by decide +kernel) b)
theorem cls_hexa (b : UInt8) : hexa b = decide (cls b.toNat ≤ 2) := of_decide_eq_true (all_bytes (P := fun b => decide (hexa b = decide (cls b.toNat ≤ 2))) (by decide +kernel) b)
theorem cls_white (b : UInt8) : white b = decide (cls b.toNat = 4) := of_decide_eq_true (all_bytes (P := fun b => decide (white b = decide (cls b.toNat = 4))) (by decide +kernel) b)
theorem cls_ctl (b : UInt8) : ctl b = decide (cls b.toNat = 5) := of_decide_eq_true (all_bytes (P := fun b => decide (ctl b = decide (cls b.toNat = 5))) (by decide +kernel) b)
theorem cls_high (b : UInt8) : decide (128 ≤ b.toNat) = decide (cls b.toNat = 8) := of_decide_eq_true (all_bytes (P := fun b => decide (decide (128 ≤ b.toNat) = decide (cls b.toNat = 8))) (by decide +kernel) b)
theorem cls_sign (b : UInt8) : decide (b = 40 ∨ b = 41 ∨ b = 34 ∨ b = 124 ∨ b = 58 ∨ b = 35 ∨ b = 59) = decide (cls b.toNat = 7) := of_decide_eq_true (all_bytes (P := fun b => decide (decide (b = 40 ∨ b = 41 ∨ b = 34 ∨ b = 124 ∨ b = 58 ∨ b = 35 ∨ b = 59) = decide (cls b.toNat = 7))) (by decide +kernel) b)
theorem sign_cases {b : UInt8} (h : cls b.toNat = 7) : b = 40 ∨ b = 41 ∨ b = 34 ∨ b = 124 ∨ b = 58 ∨ b = 35 ∨ b = 59 := by
  have := cls_sign b
  rw [decide_eq_true h] at this
  exact of_decide_eq_true this
theorem not_sign {b : UInt8} (h : cls b.toNat ≠ 7) : b ≠ 40 ∧ b ≠ 41 ∧ b ≠ 34 ∧ b ≠ 124 ∧ b ≠ 58 ∧ b ≠ 35 ∧ b ≠ 59 := by
  have := cls_sign b
  rw [decide_eq_false h] at this
  have := of_decide_eq_false this
  simp only [not_or] at this
  exact this
theorem high_iff (b : UInt8) : 128 ≤ b.toNat ↔ cls b.toNat = 8 := by
  have := cls_high b
  simpa using this
theorem idle_digit {b : UInt8} (h : cls b.toNat ≤ 1) (i : Nat) : stepIdle b i = if b = 48 then .go [] (.zero i [b]) else .go [] (.numeral i [b]) := by
  unfold stepIdle
  rw [if_neg (by rw [high_iff]; omega), cls_dig, decide_eq_true h, if_pos rfl]
theorem idle_name {b : UInt8} (h : cls b.toNat = 2 ∨ cls b.toNat = 3) (i : Nat) : stepIdle b i = .go [] (.name 3 i [b]) := by
  unfold stepIdle
  rw [if_neg (by rw [high_iff]; omega), cls_dig, decide_eq_false (by omega), if_neg (by simp), cls_sym, decide_eq_true (by omega), if_pos rfl]
theorem idle_white {b : UInt8} (h : cls b.toNat = 4) (i : Nat) : stepIdle b i = .go [] .idle := by
  unfold stepIdle
  rw [if_neg (by rw [high_iff]; omega), cls_dig, decide_eq_false (by omega), if_neg (by simp), cls_sym, decide_eq_false (by omega), if_neg (by simp), cls_white, decide_eq_true h, if_pos rfl]
theorem idle_high {b : UInt8} (h : cls b.toNat = 8) (i : Nat) : stepIdle b i = .err [] 11 i := by
  unfold stepIdle
  rw [if_pos (by rw [high_iff]; omega)]
theorem idle_bad {b : UInt8} (h : cls b.toNat = 5 ∨ cls b.toNat = 6) (i : Nat) : stepIdle b i = .err [] 10 i := by
  obtain ⟨h1, h2, h3, h4, h5, h6, h7⟩ := not_sign (b := b) (by omega)
  unfold stepIdle
  rw [if_neg (by rw [high_iff]; omega), cls_dig, decide_eq_false (by omega), if_neg (by simp), cls_sym, decide_eq_false (by omega), if_neg (by simp), cls_white, decide_eq_false (by omega), if_neg (by simp), if_neg h1, if_neg h2, if_neg h3, if_neg h4, if_neg h5, if_neg h6, if_neg h7]
end
/-- What stands in the fields while a comment, a string, a quoted symbol is read. -/
def AtC (g : Nat) (q : S.Cont) (step stop : Value) (kind beg : Nat) (acc : List UInt8) : Prop :=
  match q with
  | .inl () => step = mv 80 g ∧ stop = mv 52 g ∧ kind = 0
  | .inr (.inl (b, a)) => step = mv 72 g ∧ stop = mv 73 g ∧ kind = 9 ∧ beg = b ∧ acc = a
  | .inr (.inr (b, a)) => step = mv 74 g ∧ stop = mv 75 g ∧ kind = 3 ∧ beg = b ∧ acc = a
/-- What stands in the fields in a state. -/
def AtS (g : Nat) (q : S.St) (c : Sc) (acc : List UInt8) : Prop :=
  match q with
  | .inl () => c.step = mv 51 g ∧ c.stop = mv 52 g
  | .inr (.inl (k, b, a)) => c.step = mv 65 g ∧ c.stop = mv 66 g ∧ c.kind = k ∧ c.beg = b ∧ acc = a ∧ k ≠ 0
  | .inr (.inr (.inl b)) => c.step = mv 76 g ∧ c.stop = mv 77 g ∧ c.kind = 10 ∧ c.beg = b ∧ acc = []
  | .inr (.inr (.inr (.inl (b, a)))) => c.step = mv 82 g ∧ c.stop = mv 66 g ∧ c.kind = 5 ∧ c.beg = b ∧ acc = a
  | .inr (.inr (.inr (.inr (.inl (b, a))))) => c.step = mv 81 g ∧ c.stop = mv 66 g ∧ c.kind = 5 ∧ c.beg = b ∧ acc = a
  | .inr (.inr (.inr (.inr (.inr (.inl b))))) => c.step = mv 78 g ∧ c.stop = mv 79 g ∧ c.kind = 7 ∧ c.beg = b ∧ acc = [35]
  | .inr (.inr (.inr (.inr (.inr (.inr (.inl (k, m, b, a))))))) => c.step = mv 98 g ∧ c.stop = mv 79 g ∧ c.kind = k ∧ c.most = m ∧ c.beg = b ∧ acc = a ∧ k ≠ 0 ∧ m ≤ 2
  | .inr (.inr (.inr (.inr (.inr (.inr (.inr (.inl (k, m, b, a)))))))) => c.step = mv 111 g ∧ c.stop = mv 66 g ∧ c.kind = k ∧ c.most = m ∧ c.beg = b ∧ acc = a ∧ k ≠ 0 ∧ m ≤ 2
  | .inr (.inr (.inr (.inr (.inr (.inr (.inr (.inr (.inl (b, a))))))))) => c.step = mv 89 g ∧ c.stop = mv 66 g ∧ c.kind = 9 ∧ c.beg = b ∧ acc = a
  | .inr (.inr (.inr (.inr (.inr (.inr (.inr (.inr (.inr (.inl q))))))))) => AtC g q c.step c.stop c.kind c.beg acc
  | .inr (.inr (.inr (.inr (.inr (.inr (.inr (.inr (.inr (.inr (q, s, n, lo, hi)))))))))) => c.step = mv 110 g ∧ c.stop = mv 109 g ∧ c.cbeg = s ∧ c.left = n ∧ c.low = lo ∧ c.top = hi ∧ AtC g q c.cstep c.cstop c.kind c.beg acc ∧ 1 ≤ n ∧ n ≤ 3 ∧ lo ≤ 255 ∧ hi ≤ 255
/-- What is the same in all states that go on. -/
def Sane (c : Sc) (i : Nat) : Prop := c.i = i ∧ c.fault = 0 ∧ c.place = 0 ∧ c.ended = false
def Gone (F : Nat → Prop) (w w' : World) (g i : Nat) (ts : List S.Tok) (q : S.St) : Prop := ∃ c acc tv ov, SS F w' g c acc ts tv ov ∧ AtS g q c acc ∧ Sane c i ∧ acc.length ≤ i + 1 ∧ Kp F w w'
def Erred (F : Nat → Prop) (w w' : World) (g : Nat) (ts : List S.Tok) (e p : Nat) : Prop := ∃ c acc tv ov, SS F w' g c acc ts tv ov ∧ (c.fault = e ∧ c.place = p ∧ c.ended = false) ∧ Kp F w w'
/-- What a step leaves. -/
def Fits (F : Nat → Prop) (w w' : World) (g i : Nat) (ts : List S.Tok) (r : S.Res) : Prop :=
  match r with
  | .inl (t, q) => Gone F w w' g i (ts ++ t) q
  | .inr (t, e, p) => Erred F w w' g (ts ++ t) e p
section
variable {F : Nat → Prop} {w w' w0 : World} {g i : Nat} {c : Sc} {acc : List UInt8} {ts t : List S.Tok} {tv ov : Value} {q : S.St} {e p : Nat}
theorem fits_go (h : SS F w' g c acc (ts ++ t) tv ov) (a : AtS g q c acc) (s : Sane c i) (l : acc.length ≤ i + 1) (k : Kp F w w') : Fits F w w' g i ts (.go t q) := ⟨c, acc, tv, ov, h, a, s, l, k⟩
theorem fits_on (h : SS F w' g c acc ts tv ov) (a : AtS g q c acc) (s : Sane c i) (l : acc.length ≤ i + 1) (k : Kp F w w') : Fits F w w' g i ts (.go [] q) := fits_go (t := []) (by simpa using h) a s l k
theorem fits_err (h : SS F w' g c acc ts tv ov) (s : c.fault = e ∧ c.place = p ∧ c.ended = false) (k : Kp F w w') : Fits F w w' g i ts (.err [] e p) := ⟨c, acc, tv, ov, by simpa using h, s, k⟩
theorem fits_pre {r : S.Res} (h : Fits F w w' g i (ts ++ t) r) (k : Kp F w0 w) : Fits F w0 w' g i ts (r.pre t) := by
  rcases r with ⟨u, q⟩ | ⟨u, e, p⟩
  · obtain ⟨c, acc, tv, ov, h1, h2, h3, h4, h5⟩ := h
    exact ⟨c, acc, tv, ov, by rw [← List.append_assoc]; exact h1, h2, h3, h4, k.trans h5⟩
  · obtain ⟨c, acc, tv, ov, h1, h2, h3⟩ := h
    exact ⟨c, acc, tv, ov, by rw [← List.append_assoc]; exact h1, h2, k.trans h3⟩
theorem fits_kp {r : S.Res} (h : Fits F w w' g i ts r) (k : Kp F w0 w) : Fits F w0 w' g i ts r := by
  rcases r with ⟨u, q⟩ | ⟨u, e, p⟩
  · obtain ⟨c, acc, tv, ov, h1, h2, h3, h4, h5⟩ := h
    exact ⟨c, acc, tv, ov, h1, h2, h3, h4, k.trans h5⟩
  · obtain ⟨c, acc, tv, ov, h1, h2, h3⟩ := h
    exact ⟨c, acc, tv, ov, h1, h2, k.trans h3⟩
end
end Go.Proofs.YtjbalgjdcdmjjaaDoor
