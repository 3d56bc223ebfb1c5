/-
  One byte, whatever the state; the text's end, whatever the state.
-/
import Derived.Test.YtjbalgjdcdmjjaaDoorScanChar
import Derived.Shelf.Abstract
namespace Go.Proofs.YtjbalgjdcdmjjaaDoor
open Go.RowKit
set_option linter.unusedVariables false
theorem erred_of {F : Nat → Prop} {w w' : World} {g e p : Nat} {c : Sc} {acc : List UInt8} {ts : List S.Tok} {tv ov : Value} (h : SS F w' g c acc ts tv ov) (s : c.fault = e ∧ c.place = p ∧ c.ended = false) (k : Kp F w w') : Erred F w w' g (ts ++ []) e p := ⟨c, acc, tv, ov, by simpa using h, s, k⟩
theorem mv_inj {a b g : Nat} (h : mv a g = mv b g) : a = b := by
  unfold mv at h
  simp at h
  exact h
theorem step_all {F : Nat → Prop} {w : World} {g : Nat} {c : Sc} {acc : List UInt8} {ts : List S.Tok} {tv ov : Value} (h : SS F w g c acc ts tv ov) {i : Nat} (hs : Sane c i) (hi : i ≤ 274877906944) (hl : acc.length ≤ i) (ht : ts.length ≤ 2 * i) (b : UInt8) (q : S.St) (ha : AtS g q c acc) (K : Nat) (hK : c.step = mv K g) :
    Calls Tryd.prog K #[.pointer (some ⟨g, 0, none⟩), .int .u8 b.toNat] w fun e w' => e = .returned (.tuple #[]) ∧ Fits F w w' g i ts (S.step resv q b i) := by
  rcases q with ⟨⟩ | ⟨k, bg, a⟩ | bg | ⟨bg, a⟩ | ⟨bg, a⟩ | bg | ⟨k, m, bg, a⟩ | ⟨k, m, bg, a⟩ | ⟨bg, a⟩ | (⟨⟩ | ⟨bg, a⟩ | ⟨bg, a⟩) | ⟨q, s, n, lo, hi'⟩
  · obtain rfl := mv_inj (hK.symm.trans ha.1)
    exact between_calls h hs hi hl (by omega) b ha
  · obtain rfl := mv_inj (hK.symm.trans ha.1)
    exact inName_calls h hs hi hl ht b ha
  · obtain rfl := mv_inj (hK.symm.trans ha.1)
    exact behindColon_calls h hs hi hl ht b ha
  · obtain rfl := mv_inj (hK.symm.trans ha.1)
    exact inNumeral_calls h hs hi hl ht b ha
  · obtain rfl := mv_inj (hK.symm.trans ha.1)
    obtain ⟨x1, x2, x3, rfl, rfl⟩ := ha
    exact behindNumeral_calls h hs hi hl ht b x3
  · obtain rfl := mv_inj (hK.symm.trans ha.1)
    exact behindHash_calls h hs hi hl ht b ha
  · obtain rfl := mv_inj (hK.symm.trans ha.1)
    exact firstDigit_calls h hs hi hl ht b ha
  · obtain rfl := mv_inj (hK.symm.trans ha.1)
    exact inDigits_calls h hs hi hl ht b ha
  · obtain rfl := mv_inj (hK.symm.trans ha.1)
    exact behindMark_calls h hs hi hl ht b ha
  · obtain rfl := mv_inj (hK.symm.trans ha.1)
    exact inComment_calls h hs hi hl ht b ha
  · obtain rfl := mv_inj (hK.symm.trans ha.1)
    exact inString_calls h hs hi hl ht b ha
  · obtain rfl := mv_inj (hK.symm.trans ha.1)
    exact inBars_calls h hs hi hl ht b ha
  · obtain rfl := mv_inj (hK.symm.trans ha.1)
    exact inCharacter_calls h hs hi hl ht b ha
/-- Which methods' values the field step holds. -/
theorem step_which {g : Nat} {c : Sc} {acc : List UInt8} {q : S.St} (ha : AtS g q c acc) : c.step = mv 51 g ∨ c.step = mv 65 g ∨ c.step = mv 76 g ∨ c.step = mv 82 g ∨ c.step = mv 81 g ∨ c.step = mv 78 g ∨ c.step = mv 98 g ∨ c.step = mv 111 g ∨ c.step = mv 89 g ∨ c.step = mv 80 g ∨ c.step = mv 72 g ∨ c.step = mv 74 g ∨ c.step = mv 110 g := by
  rcases q with ⟨⟩ | ⟨k, bg, a⟩ | bg | ⟨bg, a⟩ | ⟨bg, a⟩ | bg | ⟨k, m, bg, a⟩ | ⟨k, m, bg, a⟩ | ⟨bg, a⟩ | (⟨⟩ | ⟨bg, a⟩ | ⟨bg, a⟩) | ⟨q, s, n, lo, hi'⟩
  all_goals have h1 := ha.1
  all_goals simp only [h1, true_or, or_true]
theorem stop_all {F : Nat → Prop} {w : World} {g : Nat} {c : Sc} {acc : List UInt8} {ts : List S.Tok} {tv ov : Value} (h : SS F w g c acc ts tv ov) {i : Nat} (hs : Sane c i) (hi : i ≤ 274877906944) (ht : ts.length ≤ 2 * i) (q : S.St) (ha : AtS g q c acc) (K : Nat) (hK : c.stop = mv K g) :
    Calls Tryd.prog K #[.pointer (some ⟨g, 0, none⟩)] w fun e w' => e = .returned (.tuple #[]) ∧ Erred F w w' g (ts ++ (S.stop resv q i).1) (S.stop resv q i).2.1 (S.stop resv q i).2.2 := by
  obtain ⟨hi1, hf, hp, hen⟩ := hs
  subst hi1
  have W : ∀ {kk : Nat}, c.kind = kk → Calls Tryd.prog 66 #[.pointer (some ⟨g, 0, none⟩)] w fun e w' => e = .returned (.tuple #[]) ∧ Erred F w w' g (ts ++ [S.tok resv kk c.beg c.i acc]) 0 0 := by
    intro kk hk
    subst hk
    refine (whole_calls h (by omega)).mono ?_
    rintro e w' ⟨rfl, ⟨tv', ov', h'⟩, k'⟩
    exact ⟨rfl, _, _, _, _, h', ⟨hf, hp, hen⟩, k'⟩
  have N : Calls Tryd.prog 52 #[.pointer (some ⟨g, 0, none⟩)] w fun e w' => e = .returned (.tuple #[]) ∧ Erred F w w' g (ts ++ []) 0 0 := by
    refine (nothing_calls h).mono ?_
    rintro e w' ⟨rfl, ⟨tv', ov', h'⟩, k'⟩
    exact ⟨rfl, erred_of h' ⟨hf, hp, hen⟩ k'⟩
  have M : Calls Tryd.prog 79 #[.pointer (some ⟨g, 0, none⟩)] w fun e w' => e = .returned (.tuple #[]) ∧ Erred F w w' g (ts ++ []) 12 c.i := by
    refine (noNumber_calls h).mono ?_
    rintro e w' ⟨rfl, ⟨tv', ov', h'⟩, k'⟩
    exact ⟨rfl, erred_of h' ⟨rfl, rfl, hen⟩ k'⟩
  rcases q with ⟨⟩ | ⟨k, bg, a⟩ | bg | ⟨bg, a⟩ | ⟨bg, a⟩ | bg | ⟨k, m, bg, a⟩ | ⟨k, m, bg, a⟩ | ⟨bg, a⟩ | (⟨⟩ | ⟨bg, a⟩ | ⟨bg, a⟩) | ⟨q, s, n, lo, hi'⟩
  · obtain rfl := mv_inj (hK.symm.trans ha.2)
    exact N
  · obtain ⟨x1, x2, rfl, rfl, rfl, x3⟩ := ha
    obtain rfl := mv_inj (hK.symm.trans x2)
    exact W rfl
  · obtain ⟨x1, x2, x3, rfl, rfl⟩ := ha
    obtain rfl := mv_inj (hK.symm.trans x2)
    refine (noKeyword_calls h).mono ?_
    rintro e w' ⟨rfl, ⟨tv', ov', h'⟩, k'⟩
    exact ⟨rfl, erred_of h' ⟨rfl, rfl, hen⟩ k'⟩
  · obtain ⟨x1, x2, x3, rfl, rfl⟩ := ha
    obtain rfl := mv_inj (hK.symm.trans x2)
    exact W x3
  · obtain ⟨x1, x2, x3, rfl, rfl⟩ := ha
    obtain rfl := mv_inj (hK.symm.trans x2)
    exact W x3
  · obtain ⟨x1, x2, x3, rfl, rfl⟩ := ha
    obtain rfl := mv_inj (hK.symm.trans x2)
    exact M
  · obtain ⟨x1, x2, rfl, rfl, rfl, rfl, x3, x4⟩ := ha
    obtain rfl := mv_inj (hK.symm.trans x2)
    exact M
  · obtain ⟨x1, x2, rfl, rfl, rfl, rfl, x3, x4⟩ := ha
    obtain rfl := mv_inj (hK.symm.trans x2)
    exact W rfl
  · obtain ⟨x1, x2, x3, rfl, rfl⟩ := ha
    obtain rfl := mv_inj (hK.symm.trans x2)
    exact W x3
  · obtain ⟨x1, x2, x3⟩ := ha
    obtain rfl := mv_inj (hK.symm.trans x2)
    exact N
  · obtain ⟨x1, x2, x3, rfl, rfl⟩ := ha
    obtain rfl := mv_inj (hK.symm.trans x2)
    refine (noMark_calls h).mono ?_
    rintro e w' ⟨rfl, ⟨tv', ov', h'⟩, k'⟩
    exact ⟨rfl, erred_of h' ⟨rfl, rfl, hen⟩ k'⟩
  · obtain ⟨x1, x2, x3, rfl, rfl⟩ := ha
    obtain rfl := mv_inj (hK.symm.trans x2)
    refine (noBar_calls h).mono ?_
    rintro e w' ⟨rfl, ⟨tv', ov', h'⟩, k'⟩
    exact ⟨rfl, erred_of h' ⟨rfl, rfl, hen⟩ k'⟩
  · obtain ⟨x1, x2, rfl, rfl, rfl, rfl, x3, x4⟩ := ha
    obtain rfl := mv_inj (hK.symm.trans x2)
    refine (noCharacter_calls h).mono ?_
    rintro e w' ⟨rfl, ⟨tv', ov', h'⟩, k'⟩
    exact ⟨rfl, erred_of h' ⟨rfl, rfl, hen⟩ k'⟩
theorem stop_which {g : Nat} {c : Sc} {acc : List UInt8} {q : S.St} (ha : AtS g q c acc) : c.stop = mv 52 g ∨ c.stop = mv 66 g ∨ c.stop = mv 77 g ∨ c.stop = mv 79 g ∨ c.stop = mv 73 g ∨ c.stop = mv 75 g ∨ c.stop = mv 109 g := by
  rcases q with ⟨⟩ | ⟨k, bg, a⟩ | bg | ⟨bg, a⟩ | ⟨bg, a⟩ | bg | ⟨k, m, bg, a⟩ | ⟨k, m, bg, a⟩ | ⟨bg, a⟩ | (⟨⟩ | ⟨bg, a⟩ | ⟨bg, a⟩) | ⟨q, s, n, lo, hi'⟩
  · simp only [ha.2, true_or]
  all_goals have h1 := ha.2.1
  all_goals simp only [h1, true_or, or_true]
/-- One step tells two tokens at most. -/
def few (r : S.Res) (n : Nat) : Prop := match r with | .inl (t, _) => t.length ≤ n | .inr (t, _, _) => t.length ≤ n
theorem few_pre {r : S.Res} {n : Nat} (h : few r n) (t : S.Tok) : few (r.pre [t]) (n + 1) := by
  rcases r with ⟨u, q⟩ | ⟨u, e, p⟩
  · simp only [few, S.Res.pre] at *; simp; omega
  · simp only [few, S.Res.pre] at *; simp; omega
theorem few_more {r : S.Res} {n m : Nat} (h : few r n) (hm : n ≤ m) : few r m := by
  rcases r with ⟨u, q⟩ | ⟨u, e, p⟩
  · simp only [few] at *; omega
  · simp only [few] at *; omega
theorem few_idle (b : UInt8) (i : Nat) : few (S.stepIdle b i) 1 := by
  unfold S.stepIdle
  repeat' split
  all_goals simp [few]
theorem few_behind (k g : Nat) (a : List UInt8) (b : UInt8) (i : Nat) : few (S.behindNumber resv k g a b i) 2 := by
  unfold S.behindNumber
  split
  · simp [few]
  · exact few_pre (few_idle b i) _
theorem few_zero (g : Nat) (a : List UInt8) (b : UInt8) (i : Nat) : few (S.stepZero resv g a b i) 2 := by
  unfold S.stepZero
  split
  · simp [few]
  · exact few_behind _ _ _ _ _
theorem few_content (c : S.Cont) (b : UInt8) (i : Nat) : few (S.content c b i) 2 := by
  unfold S.content
  repeat' split
  all_goals simp [few]
theorem few_step (q : S.St) (b : UInt8) (i : Nat) : few (S.step resv q b i) 2 := by
  rcases q with ⟨⟩ | ⟨k, bg, a⟩ | bg | ⟨bg, a⟩ | ⟨bg, a⟩ | bg | ⟨k, m, bg, a⟩ | ⟨k, m, bg, a⟩ | ⟨bg, a⟩ | (⟨⟩ | ⟨bg, a⟩ | ⟨bg, a⟩) | ⟨q, s, n, lo, hi'⟩
  · exact few_more (few_idle b i) (by decide)
  · show few (if _ then _ else _) 2
    split
    · simp [few]
    · exact few_pre (few_idle b i) _
  · show few (if _ then _ else _) 2
    split <;> simp [few]
  · show few (if _ then _ else _) 2
    split
    · simp [few]
    · exact few_zero _ _ _ _
  · exact few_zero _ _ _ _
  · show few (if _ then _ else if _ then _ else _) 2
    repeat' split
    all_goals simp [few]
  · show few (if _ then _ else _) 2
    split <;> simp [few]
  · show few (if _ then _ else _) 2
    split
    · simp [few]
    · exact few_behind _ _ _ _ _
  · show few (if _ then _ else _) 2
    split
    · simp [few]
    · exact few_pre (few_idle b i) _
  · show few (if _ then _ else _) 2
    split
    · simp [few]
    · exact few_content _ _ _
  · show few (if _ then _ else _) 2
    split
    · simp [few]
    · exact few_content _ _ _
  · show few (if _ then _ else if _ then _ else _) 2
    repeat' split
    · simp [few]
    · simp [few]
    · exact few_content _ _ _
  · show few (if _ then _ else if _ then _ else _) 2
    repeat' split
    all_goals simp [few]
/-- The field step holds the value of a function with a body. -/
theorem step_enter {g : Nat} {c : Sc} {acc : List UInt8} {q : S.St} (ha : AtS g q c acc) : ∃ K, c.step = mv K g ∧ Enters Tryd.prog K := by
  rcases step_which ha with h | h | h | h | h | h | h | h | h | h | h | h | h
  · exact ⟨_, h, enters_of Tryd.func51 (by kernel_rfl) rfl⟩
  · exact ⟨_, h, enters_of Tryd.func65 (by kernel_rfl) rfl⟩
  · exact ⟨_, h, enters_of Tryd.func76 (by kernel_rfl) rfl⟩
  · exact ⟨_, h, enters_of Tryd.func82 (by kernel_rfl) rfl⟩
  · exact ⟨_, h, enters_of Tryd.func81 (by kernel_rfl) rfl⟩
  · exact ⟨_, h, enters_of Tryd.func78 (by kernel_rfl) rfl⟩
  · exact ⟨_, h, enters_of Tryd.func98 (by kernel_rfl) rfl⟩
  · exact ⟨_, h, enters_of Tryd.func111 (by kernel_rfl) rfl⟩
  · exact ⟨_, h, enters_of Tryd.func89 (by kernel_rfl) rfl⟩
  · exact ⟨_, h, enters_of Tryd.func80 (by kernel_rfl) rfl⟩
  · exact ⟨_, h, enters_of Tryd.func72 (by kernel_rfl) rfl⟩
  · exact ⟨_, h, enters_of Tryd.func74 (by kernel_rfl) rfl⟩
  · exact ⟨_, h, enters_of Tryd.func110 (by kernel_rfl) rfl⟩
theorem stop_enter {g : Nat} {c : Sc} {acc : List UInt8} {q : S.St} (ha : AtS g q c acc) : ∃ K, c.stop = mv K g ∧ Enters Tryd.prog K := by
  rcases stop_which ha with h | h | h | h | h | h | h
  · exact ⟨_, h, enters_of Tryd.func52 (by kernel_rfl) rfl⟩
  · exact ⟨_, h, enters_of Tryd.func66 (by kernel_rfl) rfl⟩
  · exact ⟨_, h, enters_of Tryd.func77 (by kernel_rfl) rfl⟩
  · exact ⟨_, h, enters_of Tryd.func79 (by kernel_rfl) rfl⟩
  · exact ⟨_, h, enters_of Tryd.func73 (by kernel_rfl) rfl⟩
  · exact ⟨_, h, enters_of Tryd.func75 (by kernel_rfl) rfl⟩
  · exact ⟨_, h, enters_of Tryd.func109 (by kernel_rfl) rfl⟩
end Go.Proofs.YtjbalgjdcdmjjaaDoor
