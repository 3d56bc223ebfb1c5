/- Laid together of: ScanWhole, ScanState. -/
import Derived.Test.YtackibimlpkcmaaDoorq12
import Derived.Test.YtackibimlpkcmaaDoorq8
/- ==== ScanWhole ==== -/
namespace Go.Proofs.YtackibimlpkcmaaDoor
open Go.RowKit
set_option linter.unusedVariables false
theorem str_list (l : List UInt8) : ((⟨l.toArray⟩ : ByteArray)).data.toList = l := rfl
set_option maxRecDepth 100000 in
set_option maxHeartbeats 1600000 in
theorem whole_calls {F : Nat → Prop} {w : World} {g : Nat} {c : Sc} {acc : List UInt8} {ts : List S.Tok} {tv ov : Value} (h : SS F w g c acc ts tv ov) (hl : ts.length ≤ 1099511627776) :
    Calls Tryd.prog 69 #[.pointer (some ⟨g, 0, none⟩)] w fun e' w' => e' = .returned (.tuple #[]) ∧ Left F w w' g { c with kind := S.word resv c.kind acc } acc (ts ++ [S.tok resv c.kind c.beg c.i acc]) := by
  obtain ⟨-, -, c2, c3, c4, -, c6, -⟩ := h.cells
  have fz := h.frozen
  have cv := h.conv
  unfold str at cv
  by_cases hk : c.kind = 3
  · have hk' : (c.kind : Int) = 3 := by omega
    rw [hk'] at c4
    have qr := hide (fun W => reserved_calls W ⟨acc.toArray⟩ acc (str_list acc))
    cases hr : resv acc with
    | true =>
      have h4 := h.set 4 (.int .i64 4) { c with kind := 4 } rfl
      have k4 := hide ((Kp.refl F w).set h.mine 4 (.int .i64 4))
      have qt := hide (tell_calls h4 ⟨acc.toArray⟩ acc (str_list acc) c.i hl)
      have e1 : S.word resv c.kind acc = 4 := by simp [S.word, hk, hr]
      unfold S.tok
      rw [e1]
      rw [hr] at qr
      clear hr h h4
      go_enter Tryd.func69, Tryd.ntmps69
      go_wp2_with (first | (go_at_call 87; refine (qr.out _).mono ?_; rintro e w1 ⟨rfl, rfl⟩) | (go_at_call 74; refine qt.out.mono ?_; rintro e w1 ⟨rfl, q1⟩))
      go_end0
      exact ⟨rfl, q1.1, k4.out.trans q1.2⟩
    | false =>
      have qt := hide (tell_calls h ⟨acc.toArray⟩ acc (str_list acc) c.i hl)
      have e1 : S.word resv c.kind acc = c.kind := by simp [S.word, hr]
      unfold S.tok
      rw [e1]
      rw [hr] at qr
      clear hr h
      go_enter Tryd.func69, Tryd.ntmps69
      go_wp2_with (first | (go_at_call 87; refine (qr.out _).mono ?_; rintro e w1 ⟨rfl, rfl⟩) | (go_at_call 74; refine qt.out.mono ?_; rintro e w1 ⟨rfl, q1⟩))
      go_end0
      exact ⟨rfl, q1⟩
  · have hk' : ¬ (c.kind : Int) = 3 := by omega
    have qt := hide (tell_calls h ⟨acc.toArray⟩ acc (str_list acc) c.i hl)
    have e1 : S.word resv c.kind acc = c.kind := by simp [S.word, hk]
    unfold S.tok
    rw [e1]
    clear h
    go_enter Tryd.func69, Tryd.ntmps69
    go_wp2_with (first | (go_at_call 74; refine qt.out.mono ?_; rintro e w1 ⟨rfl, q1⟩))
    go_end0
    exact ⟨rfl, q1⟩
end Go.Proofs.YtackibimlpkcmaaDoor
/- ==== ScanState ==== -/
namespace Go.Proofs.YtackibimlpkcmaaDoor
open Go.RowKit
set_option linter.unusedVariables false
theorem all_bytes {P : UInt8 → Bool} (h : (List.range 256).all (fun n => P (UInt8.ofNat n)) = true) (b : UInt8) : P b = true := by
  have h1 := List.all_eq_true.1 h b.toNat (by simpa using UInt8.toNat_lt b)
  simpa using h1
section
open S
set_option maxRecDepth 100000
theorem cls_le (b : UInt8) : cls b.toNat ≤ 8 := of_decide_eq_true (all_bytes (P := fun b => decide (cls b.toNat ≤ 8)) (by decide +kernel) b)
theorem cls_sym (b : UInt8) : sym b = decide (cls b.toNat ≤ 3) := of_decide_eq_true (all_bytes (P := fun b => decide (sym b = decide (cls b.toNat ≤ 3))) (by decide +kernel) b)
theorem cls_dig (b : UInt8) : dig b = decide (cls b.toNat ≤ 1) := of_decide_eq_true (all_bytes (P := fun b => decide (dig b = decide (cls b.toNat ≤ 1))) (by decide +kernel) b)
theorem cls_bin (b : UInt8) : bin b = decide (cls b.toNat ≤ 0) := of_decide_eq_true (all_bytes (P := fun b => decide (bin b = decide (cls b.toNat ≤ 0))) (by decide +kernel) b)
theorem cls_hexa (b : UInt8) : hexa b = decide (cls b.toNat ≤ 2) := of_decide_eq_true (all_bytes (P := fun b => decide (hexa b = decide (cls b.toNat ≤ 2))) (by decide +kernel) b)
theorem cls_white (b : UInt8) : white b = decide (cls b.toNat = 4) := of_decide_eq_true (all_bytes (P := fun b => decide (white b = decide (cls b.toNat = 4))) (by decide +kernel) b)
theorem cls_ctl (b : UInt8) : ctl b = decide (cls b.toNat = 5) := of_decide_eq_true (all_bytes (P := fun b => decide (ctl b = decide (cls b.toNat = 5))) (by decide +kernel) b)
theorem cls_high (b : UInt8) : decide (128 ≤ b.toNat) = decide (cls b.toNat = 8) := of_decide_eq_true (all_bytes (P := fun b => decide (decide (128 ≤ b.toNat) = decide (cls b.toNat = 8))) (by decide +kernel) b)
theorem cls_sign (b : UInt8) : decide (b = 40 ∨ b = 41 ∨ b = 34 ∨ b = 124 ∨ b = 58 ∨ b = 35 ∨ b = 59) = decide (cls b.toNat = 7) := of_decide_eq_true (all_bytes (P := fun b => decide (decide (b = 40 ∨ b = 41 ∨ b = 34 ∨ b = 124 ∨ b = 58 ∨ b = 35 ∨ b = 59) = decide (cls b.toNat = 7))) (by decide +kernel) b)
theorem sign_cases {b : UInt8} (h : cls b.toNat = 7) : b = 40 ∨ b = 41 ∨ b = 34 ∨ b = 124 ∨ b = 58 ∨ b = 35 ∨ b = 59 := by
  have := cls_sign b
  rw [decide_eq_true h] at this
  exact of_decide_eq_true this
theorem not_sign {b : UInt8} (h : cls b.toNat ≠ 7) : b ≠ 40 ∧ b ≠ 41 ∧ b ≠ 34 ∧ b ≠ 124 ∧ b ≠ 58 ∧ b ≠ 35 ∧ b ≠ 59 := by
  have := cls_sign b
  rw [decide_eq_false h] at this
  have := of_decide_eq_false this
  simp only [not_or] at this
  exact this
theorem high_iff (b : UInt8) : 128 ≤ b.toNat ↔ cls b.toNat = 8 := by
  have := cls_high b
  simpa using this
theorem idle_digit {b : UInt8} (h : cls b.toNat ≤ 1) (i : Nat) : stepIdle b i = if b = 48 then .go [] (.zero i [b]) else .go [] (.numeral i [b]) := by
  unfold stepIdle
  rw [if_neg (by rw [high_iff]; omega), cls_dig, decide_eq_true h, if_pos rfl]
theorem idle_name {b : UInt8} (h : cls b.toNat = 2 ∨ cls b.toNat = 3) (i : Nat) : stepIdle b i = .go [] (.name 3 i [b]) := by
  unfold stepIdle
  rw [if_neg (by rw [high_iff]; omega), cls_dig, decide_eq_false (by omega), if_neg (by simp), cls_sym, decide_eq_true (by omega), if_pos rfl]
theorem idle_white {b : UInt8} (h : cls b.toNat = 4) (i : Nat) : stepIdle b i = .go [] .idle := by
  unfold stepIdle
  rw [if_neg (by rw [high_iff]; omega), cls_dig, decide_eq_false (by omega), if_neg (by simp), cls_sym, decide_eq_false (by omega), if_neg (by simp), cls_white, decide_eq_true h, if_pos rfl]
theorem idle_high {b : UInt8} (h : cls b.toNat = 8) (i : Nat) : stepIdle b i = .err [] 11 i := by
  unfold stepIdle
  rw [if_pos (by rw [high_iff]; omega)]
theorem idle_bad {b : UInt8} (h : cls b.toNat = 5 ∨ cls b.toNat = 6) (i : Nat) : stepIdle b i = .err [] 10 i := by
  obtain ⟨h1, h2, h3, h4, h5, h6, h7⟩ := not_sign (b := b) (by omega)
  unfold stepIdle
  rw [if_neg (by rw [high_iff]; omega), cls_dig, decide_eq_false (by omega), if_neg (by simp), cls_sym, decide_eq_false (by omega), if_neg (by simp), cls_white, decide_eq_false (by omega), if_neg (by simp), if_neg h1, if_neg h2, if_neg h3, if_neg h4, if_neg h5, if_neg h6, if_neg h7]
end
/-- What stands in the fields while a comment, a string, a quoted symbol is read. -/
def AtC (g : Nat) (q : S.Cont) (step stop : Value) (kind beg : Nat) (acc : List UInt8) : Prop :=
  match q with
  | .inl () => step = mv 83 g ∧ stop = mv 55 g ∧ kind = 0
  | .inr (.inl (b, a)) => step = mv 75 g ∧ stop = mv 76 g ∧ kind = 9 ∧ beg = b ∧ acc = a
  | .inr (.inr (b, a)) => step = mv 77 g ∧ stop = mv 78 g ∧ kind = 3 ∧ beg = b ∧ acc = a
/-- What stands in the fields in a state. -/
def AtS (g : Nat) (q : S.St) (c : Sc) (acc : List UInt8) : Prop :=
  match q with
  | .inl () => c.step = mv 54 g ∧ c.stop = mv 55 g
  | .inr (.inl (k, b, a)) => c.step = mv 68 g ∧ c.stop = mv 69 g ∧ c.kind = k ∧ c.beg = b ∧ acc = a ∧ k ≠ 0
  | .inr (.inr (.inl b)) => c.step = mv 79 g ∧ c.stop = mv 80 g ∧ c.kind = 10 ∧ c.beg = b ∧ acc = []
  | .inr (.inr (.inr (.inl (b, a)))) => c.step = mv 85 g ∧ c.stop = mv 69 g ∧ c.kind = 5 ∧ c.beg = b ∧ acc = a
  | .inr (.inr (.inr (.inr (.inl (b, a))))) => c.step = mv 84 g ∧ c.stop = mv 69 g ∧ c.kind = 5 ∧ c.beg = b ∧ acc = a
  | .inr (.inr (.inr (.inr (.inr (.inl b))))) => c.step = mv 81 g ∧ c.stop = mv 82 g ∧ c.kind = 7 ∧ c.beg = b ∧ acc = [35]
  | .inr (.inr (.inr (.inr (.inr (.inr (.inl (k, m, b, a))))))) => c.step = mv 101 g ∧ c.stop = mv 82 g ∧ c.kind = k ∧ c.most = m ∧ c.beg = b ∧ acc = a ∧ k ≠ 0 ∧ m ≤ 2
  | .inr (.inr (.inr (.inr (.inr (.inr (.inr (.inl (k, m, b, a)))))))) => c.step = mv 114 g ∧ c.stop = mv 69 g ∧ c.kind = k ∧ c.most = m ∧ c.beg = b ∧ acc = a ∧ k ≠ 0 ∧ m ≤ 2
  | .inr (.inr (.inr (.inr (.inr (.inr (.inr (.inr (.inl (b, a))))))))) => c.step = mv 92 g ∧ c.stop = mv 69 g ∧ c.kind = 9 ∧ c.beg = b ∧ acc = a
  | .inr (.inr (.inr (.inr (.inr (.inr (.inr (.inr (.inr (.inl q))))))))) => AtC g q c.step c.stop c.kind c.beg acc
  | .inr (.inr (.inr (.inr (.inr (.inr (.inr (.inr (.inr (.inr (q, s, n, lo, hi)))))))))) => c.step = mv 113 g ∧ c.stop = mv 112 g ∧ c.cbeg = s ∧ c.left = n ∧ c.low = lo ∧ c.top = hi ∧ AtC g q c.cstep c.cstop c.kind c.beg acc ∧ 1 ≤ n ∧ n ≤ 3 ∧ lo ≤ 255 ∧ hi ≤ 255
/-- What is the same in all states that go on. -/
def Sane (c : Sc) (i : Nat) : Prop := c.i = i ∧ c.fault = 0 ∧ c.place = 0 ∧ c.ended = false
def Gone (F : Nat → Prop) (w w' : World) (g i : Nat) (ts : List S.Tok) (q : S.St) : Prop := ∃ c acc tv ov, SS F w' g c acc ts tv ov ∧ AtS g q c acc ∧ Sane c i ∧ acc.length ≤ i + 1 ∧ Kp F w w'
def Erred (F : Nat → Prop) (w w' : World) (g : Nat) (ts : List S.Tok) (e p : Nat) : Prop := ∃ c acc tv ov, SS F w' g c acc ts tv ov ∧ (c.fault = e ∧ c.place = p ∧ c.ended = false) ∧ Kp F w w'
/-- What a step leaves. -/
def Fits (F : Nat → Prop) (w w' : World) (g i : Nat) (ts : List S.Tok) (r : S.Res) : Prop :=
  match r with
  | .inl (t, q) => Gone F w w' g i (ts ++ t) q
  | .inr (t, e, p) => Erred F w w' g (ts ++ t) e p
section
variable {F : Nat → Prop} {w w' w0 : World} {g i : Nat} {c : Sc} {acc : List UInt8} {ts t : List S.Tok} {tv ov : Value} {q : S.St} {e p : Nat}
theorem fits_go (h : SS F w' g c acc (ts ++ t) tv ov) (a : AtS g q c acc) (s : Sane c i) (l : acc.length ≤ i + 1) (k : Kp F w w') : Fits F w w' g i ts (.go t q) := ⟨c, acc, tv, ov, h, a, s, l, k⟩
theorem fits_on (h : SS F w' g c acc ts tv ov) (a : AtS g q c acc) (s : Sane c i) (l : acc.length ≤ i + 1) (k : Kp F w w') : Fits F w w' g i ts (.go [] q) := fits_go (t := []) (by simpa using h) a s l k
theorem fits_err (h : SS F w' g c acc ts tv ov) (s : c.fault = e ∧ c.place = p ∧ c.ended = false) (k : Kp F w w') : Fits F w w' g i ts (.err [] e p) := ⟨c, acc, tv, ov, by simpa using h, s, k⟩
theorem fits_pre {r : S.Res} (h : Fits F w w' g i (ts ++ t) r) (k : Kp F w0 w) : Fits F w0 w' g i ts (r.pre t) := by
  rcases r with ⟨u, q⟩ | ⟨u, e, p⟩
  · obtain ⟨c, acc, tv, ov, h1, h2, h3, h4, h5⟩ := h
    exact ⟨c, acc, tv, ov, by rw [← List.append_assoc]; exact h1, h2, h3, h4, k.trans h5⟩
  · obtain ⟨c, acc, tv, ov, h1, h2, h3⟩ := h
    exact ⟨c, acc, tv, ov, by rw [← List.append_assoc]; exact h1, h2, k.trans h3⟩
theorem fits_kp {r : S.Res} (h : Fits F w w' g i ts r) (k : Kp F w0 w) : Fits F w0 w' g i ts r := by
  rcases r with ⟨u, q⟩ | ⟨u, e, p⟩
  · obtain ⟨c, acc, tv, ov, h1, h2, h3, h4, h5⟩ := h
    exact ⟨c, acc, tv, ov, h1, h2, h3, h4, k.trans h5⟩
  · obtain ⟨c, acc, tv, ov, h1, h2, h3⟩ := h
    exact ⟨c, acc, tv, ov, h1, h2, k.trans h3⟩
end
end Go.Proofs.YtackibimlpkcmaaDoor
