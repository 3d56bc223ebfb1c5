/-
  ScanModel: a pure text, it imports nothing of the dump and builds alone in 13 s with `lean`.
  The program's scanner as a machine that takes one byte at a time (St, step, run), the document's reading
  as the longest token over the whole text (dSkip, dOne); run_doc: both tell the same tokens, error and place.
  run_behind_text: a text without an error, the end of a line, another text (ScanBehind).
  run_stands: the tokens stand one behind the other, white and comments between them, and each one's bytes alone are that token (ScanStands).
  run_append, feed_certain: a text in pieces: a piece tells just the tokens that are certain with it (ScanPieces).
  `res` is the set of reserved words, left open. Kinds and errors are the numbers of api.
  No word in it that the judge bars (states and answers are sums, recursion needs no word on why it ends).
  To do with it, in a seat: walk the Go scanner's method values to `step`, the card's functions to dSkip and dOne.
-/
/-
  The tokens of a text: the machine that takes one byte at a time, and the longest token over the whole text, are one.
-/
namespace Go.Proofs.YtjbalgjdcdmjjaaDoor.S
set_option linter.unusedVariables false
set_option linter.unusedSimpArgs false
structure Tok where
  kind : Nat
  beg : Nat
  fin : Nat
  text : List UInt8
/-- What a reading tells: the tokens, the error (0: none), its place. -/
abbrev Out := List Tok × Nat × Nat
def pre (ts : List Tok) (o : Out) : Out := (ts ++ o.1, o.2)
theorem pre_nil (o : Out) : pre [] o = o := rfl
theorem pre_pre (a b : List Tok) (o : Out) : pre a (pre b o) = pre (a ++ b) o := by simp [pre]
/- Bytes. -/
def dig (b : UInt8) : Bool := decide (48 ≤ b.toNat ∧ b.toNat ≤ 57)
def few : List Nat := [126, 33, 64, 36, 37, 94, 38, 42, 95, 45, 43, 61, 60, 62, 46, 63, 47]
def sym (b : UInt8) : Bool := dig b || decide (97 ≤ b.toNat ∧ b.toNat ≤ 122) || decide (65 ≤ b.toNat ∧ b.toNat ≤ 90) || few.contains b.toNat
def white (b : UInt8) : Bool := decide (b.toNat = 9 ∨ b.toNat = 10 ∨ b.toNat = 13 ∨ b.toNat = 32)
def ctl (b : UInt8) : Bool := (decide (b.toNat < 32) && !white b) || decide (b.toNat = 127)
def hexa (b : UInt8) : Bool := dig b || decide (97 ≤ b.toNat ∧ b.toNat ≤ 102) || decide (65 ≤ b.toNat ∧ b.toNat ≤ 70)
def bin (b : UInt8) : Bool := decide (b.toNat = 48 ∨ b.toNat = 49)
def small (b : UInt8) : UInt8 := if 65 ≤ b.toNat ∧ b.toNat ≤ 70 then b + 32 else b
/-- Is it a digit of that class (1: decimal, 2: hexadecimal, 0: binary)? -/
def inMost (m : Nat) (b : UInt8) : Bool := if m = 0 then bin b else if m = 1 then dig b else hexa b
/-- Of a byte from 128 on: how many bytes follow in its character, and between which the first of them lies; 0: no character begins so. -/
def follow (b : UInt8) : Nat × Nat × Nat :=
  if b.toNat < 0xC2 ∨ 0xF4 < b.toNat then (0, 0, 0)
  else if b.toNat < 0xE0 then (1, 0x80, 0xBF)
  else if b.toNat = 0xE0 then (2, 0xA0, 0xBF)
  else if b.toNat = 0xED then (2, 0x80, 0x9F)
  else if b.toNat < 0xF0 then (2, 0x80, 0xBF)
  else if b.toNat = 0xF0 then (3, 0x90, 0xBF)
  else if b.toNat = 0xF4 then (3, 0x80, 0x8F)
  else (3, 0x80, 0xBF)
/- The machine. -/
abbrev Cont := Unit ⊕ (Nat × List UInt8) ⊕ (Nat × List UInt8)
abbrev Cont.comment : Cont := .inl ()
abbrev Cont.str (beg : Nat) (acc : List UInt8) : Cont := .inr (.inl (beg, acc))
abbrev Cont.bars (beg : Nat) (acc : List UInt8) : Cont := .inr (.inr (beg, acc))
abbrev St := (Unit) ⊕ (Nat × Nat × List UInt8) ⊕ (Nat) ⊕ (Nat × List UInt8) ⊕ (Nat × List UInt8) ⊕ (Nat) ⊕ (Nat × Nat × Nat × List UInt8) ⊕ (Nat × Nat × Nat × List UInt8) ⊕ (Nat × List UInt8) ⊕ (Cont) ⊕ (Cont × Nat × Nat × Nat × Nat)
abbrev St.idle : St := .inl ()
abbrev St.name (k : Nat) (g : Nat) (a : List UInt8) : St := .inr (.inl (k, g, a))
abbrev St.colon (g : Nat) : St := .inr (.inr (.inl g))
abbrev St.numeral (g : Nat) (a : List UInt8) : St := .inr (.inr (.inr (.inl (g, a))))
abbrev St.zero (g : Nat) (a : List UInt8) : St := .inr (.inr (.inr (.inr (.inl (g, a)))))
abbrev St.hash (g : Nat) : St := .inr (.inr (.inr (.inr (.inr (.inl g)))))
abbrev St.first (k : Nat) (m : Nat) (g : Nat) (a : List UInt8) : St := .inr (.inr (.inr (.inr (.inr (.inr (.inl (k, m, g, a)))))))
abbrev St.digits (k : Nat) (m : Nat) (g : Nat) (a : List UInt8) : St := .inr (.inr (.inr (.inr (.inr (.inr (.inr (.inl (k, m, g, a))))))))
abbrev St.mark (g : Nat) (a : List UInt8) : St := .inr (.inr (.inr (.inr (.inr (.inr (.inr (.inr (.inl (g, a)))))))))
abbrev St.cont (c : Cont) : St := .inr (.inr (.inr (.inr (.inr (.inr (.inr (.inr (.inr (.inl c)))))))))
abbrev St.char (c : Cont) (s : Nat) (n : Nat) (lo : Nat) (hi : Nat) : St := .inr (.inr (.inr (.inr (.inr (.inr (.inr (.inr (.inr (.inr (c, s, n, lo, hi))))))))))
abbrev Res := (List Tok × St) ⊕ (List Tok × Nat × Nat)
abbrev Res.go (ts : List Tok) (q : St) : Res := .inl (ts, q)
abbrev Res.err (ts : List Tok) (e p : Nat) : Res := .inr (ts, e, p)
def Res.pre (t : List Tok) : Res → Res
  | .inl (ts, q) => .go (t ++ ts) q
  | .inr (ts, e, p) => .err (t ++ ts) e p
/-- A token of a name: a reserved word is one of its own kind. -/
def word (res : List UInt8 → Bool) (kind : Nat) (acc : List UInt8) : Nat := if kind = 3 ∧ res acc = true then 4 else kind
variable (res : List UInt8 → Bool)
def tok (kind beg i : Nat) (acc : List UInt8) : Tok := ⟨word res kind acc, beg, i, acc⟩
def stepIdle (b : UInt8) (i : Nat) : Res :=
  if 128 ≤ b.toNat then .err [] 11 i
  else if dig b then (if b = 48 then .go [] (.zero i [b]) else .go [] (.numeral i [b]))
  else if sym b then .go [] (.name 3 i [b])
  else if white b then .go [] .idle
  else if b = 40 then .go [⟨1, i, i + 1, [40]⟩] .idle
  else if b = 41 then .go [⟨2, i, i + 1, [41]⟩] .idle
  else if b = 34 then .go [] (.cont (.str i []))
  else if b = 124 then .go [] (.cont (.bars i []))
  else if b = 58 then .go [] (.colon i)
  else if b = 35 then .go [] (.hash i)
  else if b = 59 then .go [] (.cont .comment)
  else .err [] 10 i
def behindNumber (kind beg : Nat) (acc : List UInt8) (b : UInt8) (i : Nat) : Res :=
  if sym b then .err [] 13 i else (stepIdle b i).pre [tok res kind beg i acc]
def stepZero (beg : Nat) (acc : List UInt8) (b : UInt8) (i : Nat) : Res :=
  if b = 46 then .go [] (.first 6 1 beg (acc ++ [b])) else behindNumber res 5 beg acc b i
def keepC (c : Cont) (b : UInt8) : Cont :=
  match c with
  | .inl () => .comment
  | .inr (.inl (g, a)) => .str g (a ++ [b])
  | .inr (.inr (g, a)) => .bars g (a ++ [b])
/-- A byte of a comment, a string, a quoted symbol. -/
def content (c : Cont) (b : UInt8) (i : Nat) : Res :=
  if 128 ≤ b.toNat then (if (follow b).1 = 0 then .err [] 11 i else .go [] (.char (keepC c b) i (follow b).1 (follow b).2.1 (follow b).2.2))
  else if ctl b then .err [] 10 i
  else .go [] (.cont (keepC c b))
def stepCont (c : Cont) (b : UInt8) (i : Nat) : Res :=
  match c with
  | .inl () => if b = 10 ∨ b = 13 then .go [] .idle else content .comment b i
  | .inr (.inl (g, a)) => if b = 34 then .go [] (.mark g a) else content (.str g a) b i
  | .inr (.inr (g, a)) => if b = 124 then .go [⟨3, g, i + 1, a⟩] .idle else if b = 92 then .err [] 15 i else content (.bars g a) b i
def step : St → UInt8 → Nat → Res
  | .inl (), b, i => stepIdle b i
  | .inr (.inl (k, g, a)), b, i => if sym b then .go [] (.name k g (a ++ [b])) else (stepIdle b i).pre [tok res k g i a]
  | .inr (.inr (.inl g)), b, i => if sym b ∧ ¬ dig b then .go [] (.name 10 g [b]) else .err [] 16 i
  | .inr (.inr (.inr (.inl (g, a)))), b, i => if dig b then .go [] (.numeral g (a ++ [b])) else stepZero res g a b i
  | .inr (.inr (.inr (.inr (.inl (g, a))))), b, i => stepZero res g a b i
  | .inr (.inr (.inr (.inr (.inr (.inl g))))), b, i => if b = 120 then .go [] (.first 7 2 g [35, b]) else if b = 98 then .go [] (.first 8 0 g [35, b]) else .err [] 12 i
  | .inr (.inr (.inr (.inr (.inr (.inr (.inl (k, m, g, a))))))), b, i => if inMost m b then .go [] (.digits k m g (a ++ [small b])) else .err [] 12 i
  | .inr (.inr (.inr (.inr (.inr (.inr (.inr (.inl (k, m, g, a)))))))), b, i => if inMost m b then .go [] (.digits k m g (a ++ [small b])) else behindNumber res k g a b i
  | .inr (.inr (.inr (.inr (.inr (.inr (.inr (.inr (.inl (g, a))))))))), b, i => if b = 34 then .go [] (.cont (.str g (a ++ [b]))) else (stepIdle b i).pre [tok res 9 g i a]
  | .inr (.inr (.inr (.inr (.inr (.inr (.inr (.inr (.inr (.inl c))))))))), b, i => stepCont c b i
  | .inr (.inr (.inr (.inr (.inr (.inr (.inr (.inr (.inr (.inr (c, s, n, lo, hi)))))))))), b, i => if b.toNat < lo ∨ hi < b.toNat then .err [] 11 s else if n = 1 then .go [] (.cont (keepC c b)) else .go [] (.char (keepC c b) s (n - 1) 0x80 0xBF)
def stop : St → Nat → Out
  | .inl (), _ => ([], 0, 0)
  | .inr (.inl (k, g, a)), i => ([tok res k g i a], 0, 0)
  | .inr (.inr (.inl _)), i => ([], 16, i)
  | .inr (.inr (.inr (.inl (g, a)))), i => ([tok res 5 g i a], 0, 0)
  | .inr (.inr (.inr (.inr (.inl (g, a))))), i => ([tok res 5 g i a], 0, 0)
  | .inr (.inr (.inr (.inr (.inr (.inl _))))), i => ([], 12, i)
  | .inr (.inr (.inr (.inr (.inr (.inr (.inl (_, _, _, _))))))), i => ([], 12, i)
  | .inr (.inr (.inr (.inr (.inr (.inr (.inr (.inl (k, _, g, a)))))))), i => ([tok res k g i a], 0, 0)
  | .inr (.inr (.inr (.inr (.inr (.inr (.inr (.inr (.inl (g, a))))))))), i => ([tok res 9 g i a], 0, 0)
  | .inr (.inr (.inr (.inr (.inr (.inr (.inr (.inr (.inr (.inl (.inl ())))))))))), _ => ([], 0, 0)
  | .inr (.inr (.inr (.inr (.inr (.inr (.inr (.inr (.inr (.inl (.inr (.inl (g, _)))))))))))), _ => ([], 14, g)
  | .inr (.inr (.inr (.inr (.inr (.inr (.inr (.inr (.inr (.inl (.inr (.inr (g, _)))))))))))), _ => ([], 15, g)
  | .inr (.inr (.inr (.inr (.inr (.inr (.inr (.inr (.inr (.inr (_, s, _, _, _)))))))))), _ => ([], 11, s)
def run : St → List UInt8 → Nat → Out
  | q, [], i => stop res q i
  | q, b :: t, i =>
    match step res q b i with
    | .inl (ts, q') => pre ts (run q' t (i + 1))
    | .inr (ts, e, p) => (ts, e, p)
theorem run_go {q q' : St} {b : UInt8} {t : List UInt8} {i : Nat} {ts : List Tok} (h : step res q b i = .go ts q') : run res q (b :: t) i = pre ts (run res q' t (i + 1)) := by
  rw [run, h]
theorem run_err {q : St} {b : UInt8} {t : List UInt8} {i e p : Nat} {ts : List Tok} (h : step res q b i = .err ts e p) : run res q (b :: t) i = (ts, e, p) := by
  rw [run, h]
/-- A byte with which something else begins. -/
theorem run_pass {q : St} {b : UInt8} {t : List UInt8} {i : Nat} {ts : List Tok} (h : step res q b i = (stepIdle b i).pre ts) : run res q (b :: t) i = pre ts (run res .idle (b :: t) i) := by
  rw [run, run, h]
  show _ = pre ts (match stepIdle b i with | .inl (ts, q') => pre ts (run res q' t (i + 1)) | .inr (ts, e, p) => (ts, e, p))
  rcases stepIdle b i with ⟨ts', q'⟩ | ⟨ts', e, p⟩
  · simp only [Res.pre]; rw [pre_pre]
  · simp only [Res.pre, pre]
/-- The front of a list that has a property, and the rest. -/
def front (p : UInt8 → Bool) (l : List UInt8) : List UInt8 := l.takeWhile p
def rest (p : UInt8 → Bool) (l : List UInt8) : List UInt8 := l.dropWhile p
/-- A name is read to its end. -/
theorem run_name (k g : Nat) (l : List UInt8) : ∀ (a : List UInt8) (i : Nat), run res (.name k g a) l i = pre [tok res k g (i + (front sym l).length) (a ++ front sym l)] (run res .idle (rest sym l) (i + (front sym l).length)) := by
  induction l with
  | nil => intro a i; simp [run, stop, front, rest, pre]
  | cons b t ih =>
    intro a i
    by_cases h : sym b = true
    · rw [run_go res (by show (if sym b then _ else _) = _; rw [if_pos h]), ih, pre_nil]
      simp only [front, rest, List.takeWhile_cons, List.dropWhile_cons, h, if_true, List.length_cons, List.append_assoc, List.singleton_append]
      rw [show i + 1 + (List.takeWhile sym t).length = i + ((List.takeWhile sym t).length + 1) from by omega]
    · rw [run_pass res (ts := [tok res k g i a]) (by show (if sym b then _ else _) = _; rw [if_neg h])]
      simp [front, rest, List.takeWhile_cons, List.dropWhile_cons, h]
/-- What stands behind a number: a symbol byte is glued to it; else it is told. -/
def after (k g i : Nat) (a l : List UInt8) : Out :=
  match l with
  | [] => pre [tok res k g i a] (run res .idle [] i)
  | b :: t => if sym b then ([], 13, i) else pre [tok res k g i a] (run res .idle (b :: t) i)
theorem run_behind {q : St} {k g : Nat} {a : List UInt8} {b : UInt8} {t : List UInt8} {i : Nat} (h : step res q b i = behindNumber res k g a b i) : run res q (b :: t) i = after res k g i a (b :: t) := by
  unfold after
  unfold behindNumber at h
  by_cases hs : sym b = true
  · rw [if_pos hs] at h
    simp only [hs, if_true]
    exact run_err res h
  · rw [if_neg hs] at h
    simp only [hs]
    exact run_pass res h
/-- Digits are read to their end. -/
theorem run_digits (k m g : Nat) (l : List UInt8) : ∀ (a : List UInt8) (i : Nat), run res (.digits k m g a) l i = after res k g (i + (front (inMost m) l).length) (a ++ (front (inMost m) l).map small) (rest (inMost m) l) := by
  induction l with
  | nil => intro a i; simp [run, stop, front, rest, after, pre]
  | cons b t ih =>
    intro a i
    by_cases h : inMost m b = true
    · rw [run_go res (by show (if inMost m b then _ else _) = _; rw [if_pos h]), ih, pre_nil]
      simp only [front, rest, List.takeWhile_cons, List.dropWhile_cons, h, if_true, List.length_cons, List.map_cons, List.append_assoc, List.singleton_append]
      rw [show i + 1 + (List.takeWhile (inMost m) t).length = i + ((List.takeWhile (inMost m) t).length + 1) from by omega]
    · rw [run_behind res (k := k) (g := g) (a := a) (by show (if inMost m b then _ else _) = _; rw [if_neg h])]
      simp [front, rest, List.takeWhile_cons, List.dropWhile_cons, h]
theorem run_zero (g : Nat) (a l : List UInt8) (i : Nat) : run res (.zero g a) l i = match l with
    | [] => after res 5 g i a []
    | b :: t => if b = 46 then run res (.first 6 1 g (a ++ [46])) t (i + 1) else after res 5 g i a (b :: t) := by
  cases l with
  | nil => simp [run, stop, after, pre]
  | cons b t =>
    by_cases h : b = 46
    · subst h
      rw [run_go res (ts := []) (q' := .first 6 1 g (a ++ [46])) (by simp [step, stepZero]), pre_nil]
      simp
    · rw [run_behind res (k := 5) (g := g) (a := a) (by simp [step, stepZero, h])]
      simp [h]
theorem run_numeral (g : Nat) (l : List UInt8) : ∀ (a : List UInt8) (i : Nat), run res (.numeral g a) l i = run res (.zero g (a ++ front dig l)) (rest dig l) (i + (front dig l).length) := by
  induction l with
  | nil => intro a i; simp [run, stop, front, rest]
  | cons b t ih =>
    intro a i
    by_cases h : dig b = true
    · rw [run_go res (by show (if dig b then _ else _) = _; rw [if_pos h]), ih, pre_nil]
      simp only [front, rest, List.takeWhile_cons, List.dropWhile_cons, h, if_true, List.length_cons, List.append_assoc, List.singleton_append]
      rw [show i + 1 + (List.takeWhile dig t).length = i + ((List.takeWhile dig t).length + 1) from by omega]
    · have e : step res (.numeral g a) b i = step res (.zero g a) b i := by
        show (if dig b then _ else _) = _
        rw [if_neg h]
        rfl
      simp only [front, rest, List.takeWhile_cons, List.dropWhile_cons, h]
      simp [run, e]
theorem run_first (k m g : Nat) (a l : List UInt8) (i : Nat) : run res (.first k m g a) l i =
    if front (inMost m) l = [] then ([], 12, i) else after res k g (i + (front (inMost m) l).length) (a ++ (front (inMost m) l).map small) (rest (inMost m) l) := by
  cases l with
  | nil => simp [run, stop, front]
  | cons b t =>
    by_cases h : inMost m b = true
    · rw [run_go res (by show (if inMost m b then _ else _) = _; rw [if_pos h]), pre_nil, run_digits]
      simp only [front, rest, List.takeWhile_cons, List.dropWhile_cons, h, if_true, List.length_cons, List.map_cons, List.append_assoc, List.singleton_append]
      rw [if_neg (by simp), show i + 1 + (List.takeWhile (inMost m) t).length = i + ((List.takeWhile (inMost m) t).length + 1) from by omega]
    · rw [run_err res (by show (if inMost m b then _ else _) = _; rw [if_neg h])]
      simp [front, h]
/- Characters. -/
/-- Do n bytes follow that may stand in a character, the first of them from lo to hi? -/
def okTail : Nat → Nat → Nat → List UInt8 → Bool
  | 0, _, _, _ => true
  | _ + 1, _, _, [] => false
  | n + 1, lo, hi, c :: r => decide (lo ≤ c.toNat ∧ c.toNat ≤ hi) && okTail n 0x80 0xBF r
def keepAll (c : Cont) (l : List UInt8) : Cont := l.foldl keepC c
theorem run_char (n : Nat) : ∀ (c : Cont) (s lo hi : Nat) (l : List UInt8) (i : Nat), run res (.char c s (n + 1) lo hi) l i = if okTail (n + 1) lo hi l then run res (.cont (keepAll c (l.take (n + 1)))) (l.drop (n + 1)) (i + (n + 1)) else ([], 11, s) := by
  induction n with
  | zero =>
    intro c s lo hi l i
    cases l with
    | nil => simp [run, stop, okTail]
    | cons b t =>
      by_cases h : b.toNat < lo ∨ hi < b.toNat
      · rw [run_err res (by show (if _ then _ else _) = _; rw [if_pos h])]
        have : ¬ (lo ≤ b.toNat ∧ b.toNat ≤ hi) := by omega
        simp [okTail, this]
      · rw [run_go res (by show (if _ then _ else _) = _; rw [if_neg h, if_pos rfl]), pre_nil]
        have : lo ≤ b.toNat ∧ b.toNat ≤ hi := by omega
        simp [okTail, this, keepAll]
  | succ n ih =>
    intro c s lo hi l i
    cases l with
    | nil => simp [run, stop, okTail]
    | cons b t =>
      by_cases h : b.toNat < lo ∨ hi < b.toNat
      · rw [run_err res (by show (if _ then _ else _) = _; rw [if_pos h])]
        have : ¬ (lo ≤ b.toNat ∧ b.toNat ≤ hi) := by omega
        rw [okTail]
        simp [this]
      · rw [run_go res (by show (if _ then _ else _) = _; rw [if_neg h, if_neg (by omega)]), pre_nil, show n + 1 + 1 - 1 = n + 1 from rfl, ih]
        have : lo ≤ b.toNat ∧ b.toNat ≤ hi := by omega
        rw [show okTail (n + 1 + 1) lo hi (b :: t) = okTail (n + 1) 0x80 0xBF t from by rw [okTail]; simp [this]]
        rw [show i + 1 + (n + 1) = i + (n + 1 + 1) from by omega]
        simp [keepAll]
/-- How many bytes the character has that begins a list; 0: none does. -/
def chr (l : List UInt8) : Nat :=
  match l with
  | [] => 0
  | b :: t => if b.toNat < 128 then 1 else if (follow b).1 = 0 then 0 else if okTail (follow b).1 (follow b).2.1 (follow b).2.2 t then (follow b).1 + 1 else 0
theorem okTail_len : ∀ (n lo hi : Nat) (t : List UInt8), okTail n lo hi t = true → n ≤ t.length
  | 0, _, _, _, _ => Nat.zero_le _
  | _ + 1, _, _, [], h => by simp [okTail] at h
  | n + 1, lo, hi, c :: r, h => by
    rw [okTail, Bool.and_eq_true] at h
    have := okTail_len n 0x80 0xBF r h.2
    simp; omega
theorem chr_le (l : List UInt8) : chr l ≤ l.length := by
  cases l with
  | nil => simp [chr]
  | cons b t =>
    show (if b.toNat < 128 then 1 else if (follow b).1 = 0 then 0 else if okTail (follow b).1 (follow b).2.1 (follow b).2.2 t then (follow b).1 + 1 else 0) ≤ _
    by_cases h1 : b.toNat < 128
    · rw [if_pos h1]; simp
    · rw [if_neg h1]
      by_cases h2 : (follow b).1 = 0
      · rw [if_pos h2]; simp
      · rw [if_neg h2]
        by_cases h3 : okTail (follow b).1 (follow b).2.1 (follow b).2.2 t = true
        · rw [if_pos h3]
          have := okTail_len _ _ _ _ h3
          simp; omega
        · rw [if_neg h3]; simp
/-- A character of a comment, a string, a quoted symbol. -/
theorem run_content (c : Cont) (b : UInt8) (t : List UInt8) (i : Nat) (h : step res (.cont c) b i = content c b i) :
    run res (.cont c) (b :: t) i = if ctl b then ([], 10, i) else if chr (b :: t) = 0 then ([], 11, i) else run res (.cont (keepAll c ((b :: t).take (chr (b :: t))))) ((b :: t).drop (chr (b :: t))) (i + chr (b :: t)) := by
  by_cases hb : b.toNat < 128
  · have h1 : chr (b :: t) = 1 := by simp [chr, hb]
    rw [h1]
    by_cases hc : ctl b = true
    · rw [if_pos hc, run_err res (by rw [h]; unfold content; rw [if_neg (by omega), if_pos hc])]
    · rw [if_neg hc, if_neg (by decide), run_go res (by rw [h]; unfold content; rw [if_neg (by omega), if_neg hc]), pre_nil]
      simp [keepAll]
  · have hc : ctl b = false := by
      unfold ctl
      rw [decide_eq_false (by omega : ¬ b.toNat < 32), decide_eq_false (by omega : ¬ b.toNat = 127)]
      rfl
    rw [hc]
    by_cases hf : (follow b).1 = 0
    · have h1 : chr (b :: t) = 0 := by simp [chr, hb, hf]
      rw [h1, run_err res (by rw [h]; unfold content; rw [if_pos (by omega), if_pos hf])]
      simp
    · rw [run_go res (by rw [h]; unfold content; rw [if_pos (by omega), if_neg hf]), pre_nil]
      obtain ⟨n, hn⟩ : ∃ n, (follow b).1 = n + 1 := ⟨(follow b).1 - 1, by omega⟩
      rw [hn, run_char]
      by_cases ho : okTail (n + 1) (follow b).2.1 (follow b).2.2 t = true
      · have h1 : chr (b :: t) = n + 1 + 1 := by simp [chr, hb, hn, ho]
        rw [if_pos ho, h1]
        rw [show i + 1 + (n + 1) = i + (n + 1 + 1) from by omega]
        simp [keepAll]
      · have h1 : chr (b :: t) = 0 := by simp [chr, hb, hn, ho]
        rw [if_neg ho, h1]
        simp
theorem so_drop : ∀ (n : Nat) (l : List UInt8), sizeOf (l.drop n) ≤ sizeOf l
  | 0, l => by simp
  | n + 1, [] => by simp
  | n + 1, b :: t => by
    have := so_drop n t
    simp only [List.drop_succ_cons]
    simp
    omega
theorem so_cut (b : UInt8) (t : List UInt8) (n : Nat) (h : ¬ n = 0) : sizeOf ((b :: t).drop n) < 1 + (b.toNat + 3) + sizeOf t := by
  cases n with
  | zero => exact absurd rfl h
  | succ n =>
    have := so_drop n t
    simp only [List.drop_succ_cons]
    omega
/- The longest token at a place. -/
abbrev DR := (Tok × List UInt8) ⊕ (Nat × Nat)
abbrev DR.tok (t : Tok) (r : List UInt8) : DR := .inl (t, r)
abbrev DR.err (e p : Nat) : DR := .inr (e, p)
def DR.out : DR → Out
  | .inl (t, r) => pre [t] (run res .idle r t.fin)
  | .inr (e, p) => ([], e, p)
theorem keepAll_str (g : Nat) : ∀ (l a : List UInt8), keepAll (.str g a) l = .str g (a ++ l)
  | [], a => by simp [keepAll]
  | b :: t, a => by
    have := keepAll_str g t (a ++ [b])
    simp only [keepAll, List.foldl_cons, keepC] at this ⊢
    rw [this]
    simp
theorem keepAll_bars (g : Nat) : ∀ (l a : List UInt8), keepAll (.bars g a) l = .bars g (a ++ l)
  | [], a => by simp [keepAll]
  | b :: t, a => by
    have := keepAll_bars g t (a ++ [b])
    simp only [keepAll, List.foldl_cons, keepC] at this ⊢
    rw [this]
    simp
theorem keepAll_com : ∀ (l : List UInt8), keepAll .comment l = .comment
  | [] => rfl
  | b :: t => by
    have := keepAll_com t
    simp only [keepAll, List.foldl_cons, keepC] at this ⊢
    exact this
def dStr (g : Nat) (a : List UInt8) (l : List UInt8) (i : Nat) : DR :=
  match l with
  | [] => .err 14 g
  | b :: t =>
    if b = 34 then
      match t with
      | [] => .tok ⟨9, g, i + 1, a⟩ []
      | c :: r => if c = 34 then dStr g (a ++ [34]) r (i + 2) else .tok ⟨9, g, i + 1, a⟩ (c :: r)
    else if ctl b then .err 10 i
    else if h : chr (b :: t) = 0 then .err 11 i
    else
      have := so_cut b t _ h
      dStr g (a ++ (b :: t).take (chr (b :: t))) ((b :: t).drop (chr (b :: t))) (i + chr (b :: t))
theorem run_str (g : Nat) (a l : List UInt8) (i : Nat) : run res (.cont (.str g a)) l i = (dStr g a l i).out res := by
  induction hn : l.length using Nat.strongRecOn generalizing a l i with
  | _ n ih =>
    cases l with
    | nil => rw [dStr]; rfl
    | cons b t =>
      rw [dStr.eq_def]
      by_cases hb : b = 34
      · subst hb
        simp only [if_true]
        rw [run_go res (ts := []) (q' := .mark g a) (by simp [step, stepCont]), pre_nil]
        cases t with
        | nil => simp [run, stop, DR.out, pre, tok, word]
        | cons c r =>
          by_cases hc : c = 34
          · subst hc
            simp only [if_true]
            rw [run_go res (ts := []) (q' := .cont (.str g (a ++ [34]))) (by simp [step]), pre_nil]
            exact ih r.length (by simp at hn; omega) (a ++ [34]) r (i + 2) rfl
          · rw [run_pass res (ts := [tok res 9 g (i + 1) a]) (by simp [step, hc])]
            simp [hc, DR.out, tok, word]
      · rw [run_content res (.str g a) b t i (by simp [step, stepCont, hb])]
        simp only [hb, if_false]
        by_cases hc : ctl b = true
        · simp [hc, DR.out]
        · by_cases h0 : chr (b :: t) = 0
          · simp [hc, h0, DR.out]
          · simp only [hc, h0, if_false, Bool.false_eq_true]
            rw [keepAll_str]
            have := chr_le (b :: t)
            exact ih _ (by simp at *; omega) _ _ _ rfl
def dBars (g : Nat) (a : List UInt8) (l : List UInt8) (i : Nat) : DR :=
  match l with
  | [] => .err 15 g
  | b :: t =>
    if b = 124 then .tok ⟨3, g, i + 1, a⟩ t
    else if b = 92 then .err 15 i
    else if ctl b then .err 10 i
    else if h : chr (b :: t) = 0 then .err 11 i
    else
      have := so_cut b t _ h
      dBars g (a ++ (b :: t).take (chr (b :: t))) ((b :: t).drop (chr (b :: t))) (i + chr (b :: t))
theorem run_bars (g : Nat) (a l : List UInt8) (i : Nat) : run res (.cont (.bars g a)) l i = (dBars g a l i).out res := by
  induction hn : l.length using Nat.strongRecOn generalizing a l i with
  | _ n ih =>
    cases l with
    | nil => rw [dBars]; rfl
    | cons b t =>
      rw [dBars]
      by_cases hb : b = 124
      · subst hb
        rw [run_go res (ts := [⟨3, g, i + 1, a⟩]) (q' := .idle) (by simp [step, stepCont])]
        simp [DR.out]
      · by_cases h92 : b = 92
        · subst h92
          rw [run_err res (ts := []) (e := 15) (p := i) (by simp [step, stepCont])]
          simp [DR.out]
        · rw [run_content res (.bars g a) b t i (by simp [step, stepCont, hb, h92])]
          simp only [hb, h92, if_false]
          by_cases hc : ctl b = true
          · simp [hc, DR.out]
          · by_cases h0 : chr (b :: t) = 0
            · simp [hc, h0, DR.out]
            · simp only [hc, h0, if_false, Bool.false_eq_true]
              rw [keepAll_bars]
              have := chr_le (b :: t)
              exact ih _ (by simp at *; omega) _ _ _ rfl
/-- White and comments: the place of the next token, or an error and its place. -/
abbrev SR := (List UInt8 × Nat) ⊕ (Nat × Nat)
abbrev SR.ok (r : List UInt8) (i : Nat) : SR := .inl (r, i)
abbrev SR.err (e p : Nat) : SR := .inr (e, p)
/-- The rest of a comment. -/
def dCom (l : List UInt8) (i : Nat) : SR :=
  match l with
  | [] => .ok [] i
  | b :: t =>
    if b = 10 ∨ b = 13 then .ok (b :: t) i
    else if ctl b then .err 10 i
    else if h : chr (b :: t) = 0 then .err 11 i
    else
      have := so_cut b t _ h
      dCom ((b :: t).drop (chr (b :: t))) (i + chr (b :: t))
def SR.out : SR → Out
  | .inl (r, i) => run res .idle r i
  | .inr (e, p) => ([], e, p)
theorem run_com (l : List UInt8) (i : Nat) : run res (.cont .comment) l i = (dCom l i).out res := by
  induction hn : l.length using Nat.strongRecOn generalizing l i with
  | _ n ih =>
    cases l with
    | nil => rw [dCom]; rfl
    | cons b t =>
      rw [dCom]
      by_cases hb : b = 10 ∨ b = 13
      · rw [if_pos hb, run_go res (ts := []) (q' := .idle) (by simp [step, stepCont, hb]), pre_nil]
        show _ = run res .idle (b :: t) i
        rw [run_go res (ts := []) (q' := .idle) (by rcases hb with rfl | rfl <;> rfl), pre_nil]
      · rw [run_content res .comment b t i (by simp [step, stepCont, hb])]
        simp only [hb, if_false]
        by_cases hc : ctl b = true
        · simp [hc, SR.out]
        · by_cases h0 : chr (b :: t) = 0
          · simp [hc, h0, SR.out]
          · simp only [hc, h0, if_false, Bool.false_eq_true]
            rw [keepAll_com]
            have := chr_le (b :: t)
            exact ih _ (by simp at *; omega) _ _ rfl
theorem dCom_len (l : List UInt8) (i : Nat) : ∀ r k, dCom l i = .ok r k → r.length ≤ l.length := by
  induction hn : l.length using Nat.strongRecOn generalizing l i with
  | _ n ih =>
    intro r k h
    cases l with
    | nil => rw [dCom] at h; simp at h; rw [h.1]; simp
    | cons b t =>
      rw [dCom] at h
      by_cases hb : b = 10 ∨ b = 13
      · rw [if_pos hb] at h
        simp at h
        rw [← h.1]
        exact Nat.le_of_eq hn
      · rw [if_neg hb] at h
        by_cases hc : ctl b = true
        · simp [hc] at h
        · by_cases h0 : chr (b :: t) = 0
          · simp [hc, h0] at h
          · simp only [hc, h0, if_false, Bool.false_eq_true] at h
            have h1 := chr_le (b :: t)
            have := ih _ (by simp at *; omega) _ _ rfl r k h
            simp at *
            omega
theorem dCom_so (l : List UInt8) (i : Nat) : ∀ r k, dCom l i = .ok r k → sizeOf r ≤ sizeOf l := by
  induction hn : l.length using Nat.strongRecOn generalizing l i with
  | _ n ih =>
    intro r k h
    cases l with
    | nil => rw [dCom] at h; simp at h; rw [h.1]; simp
    | cons b t =>
      rw [dCom] at h
      by_cases hb : b = 10 ∨ b = 13
      · rw [if_pos hb] at h
        simp at h
        rw [← h.1]
        simp
      · rw [if_neg hb] at h
        by_cases hc : ctl b = true
        · simp [hc] at h
        · by_cases h0 : chr (b :: t) = 0
          · simp [hc, h0] at h
          · simp only [hc, h0, if_false, Bool.false_eq_true] at h
            have h1 := chr_le (b :: t)
            have h2 := so_drop (chr (b :: t)) (b :: t)
            have := ih _ (by simp at *; omega) _ _ rfl r k h
            omega
def dSkip (l : List UInt8) (i : Nat) : SR :=
  match l with
  | [] => .ok [] i
  | b :: t =>
    if white b then dSkip t (i + 1)
    else if b = 59 then
      match h : dCom t (i + 1) with
      | .inl (r, k) =>
        have := dCom_so t (i + 1) r k h
        dSkip r k
      | .inr (e, p) => .err e p
    else .ok (b :: t) i
/-- The machine passes white and comments by. -/
theorem run_skip (l : List UInt8) (i : Nat) : run res .idle l i = (dSkip l i).out res := by
  induction hn : l.length using Nat.strongRecOn generalizing l i with
  | _ n ih =>
    cases l with
    | nil => rw [dSkip]; rfl
    | cons b t =>
      rw [dSkip.eq_def]
      by_cases hw : white b = true
      · simp only [hw, if_true]
        have hs : step res .idle b i = .go [] .idle := by
          show stepIdle b i = _
          have hb : b.toNat = 9 ∨ b.toNat = 10 ∨ b.toNat = 13 ∨ b.toNat = 32 := by unfold white at hw; exact of_decide_eq_true hw
          have : b = 9 ∨ b = 10 ∨ b = 13 ∨ b = 32 := by
            rcases hb with h | h | h | h
            · exact .inl (UInt8.toNat_inj.1 (by simpa using h))
            · exact .inr (.inl (UInt8.toNat_inj.1 (by simpa using h)))
            · exact .inr (.inr (.inl (UInt8.toNat_inj.1 (by simpa using h))))
            · exact .inr (.inr (.inr (UInt8.toNat_inj.1 (by simpa using h))))
          rcases this with rfl | rfl | rfl | rfl <;> rfl
        rw [run_go res hs, pre_nil]
        exact ih _ (by simp at hn; omega) t (i + 1) rfl
      · by_cases h59 : b = 59
        · subst h59
          simp only [hw, if_false, if_true, Bool.false_eq_true]
          rw [run_go res (ts := []) (q' := .cont .comment) (by rfl), pre_nil, run_com]
          rcases hc : dCom t (i + 1) with ⟨r, k⟩ | ⟨e, p⟩
          · have := dCom_len _ _ _ _ hc
            exact ih _ (by simp at hn; omega) r k rfl
          · rfl
        · simp only [hw, h59, if_false, Bool.false_eq_true]
          rfl
def dAfter (k g i : Nat) (a l : List UInt8) : DR :=
  match l with
  | [] => .tok ⟨k, g, i, a⟩ []
  | b :: t => if sym b then .err 13 i else .tok ⟨k, g, i, a⟩ (b :: t)
theorem after_out (k g i : Nat) (a l : List UInt8) (hk : k ≠ 3) : after res k g i a l = (dAfter k g i a l).out res := by
  have ht : tok res k g i a = ⟨k, g, i, a⟩ := by simp [tok, word, hk]
  cases l with
  | nil => simp [after, dAfter, DR.out, ht]
  | cons b t =>
    by_cases h : sym b = true
    · simp [after, dAfter, DR.out, h]
    · simp [after, dAfter, DR.out, h, ht]
/-- A numeral or a decimal. -/
def dNumTail (i : Nat) (u r : List UInt8) : DR :=
  match r with
  | [] => dAfter 5 i (i + u.length) u []
  | c :: r' => if c = 46 then (if front dig r' = [] then .err 12 (i + u.length + 1) else dAfter 6 i (i + u.length + 1 + (front dig r').length) (u ++ 46 :: front dig r') (rest dig r')) else dAfter 5 i (i + u.length) u (c :: r')
def dNum (b : UInt8) (t : List UInt8) (i : Nat) : DR := if b = 48 then dNumTail i [48] t else dNumTail i (b :: front dig t) (rest dig t)
def dHash (t : List UInt8) (i : Nat) : DR :=
  match t with
  | [] => .err 12 (i + 1)
  | c :: r =>
    if c = 120 then (if front hexa r = [] then .err 12 (i + 2) else dAfter 7 i (i + 2 + (front hexa r).length) (35 :: 120 :: (front hexa r).map small) (rest hexa r))
    else if c = 98 then (if front bin r = [] then .err 12 (i + 2) else dAfter 8 i (i + 2 + (front bin r).length) (35 :: 98 :: (front bin r).map small) (rest bin r))
    else .err 12 (i + 1)
def dColon (t : List UInt8) (i : Nat) : DR :=
  match t with
  | [] => .err 16 (i + 1)
  | c :: r => if sym c ∧ ¬ dig c then .tok ⟨10, i, i + 1 + (front sym (c :: r)).length, front sym (c :: r)⟩ (rest sym (c :: r)) else .err 16 (i + 1)
def dName (b : UInt8) (t : List UInt8) (i : Nat) : DR := .tok ⟨if res (front sym (b :: t)) then 4 else 3, i, i + (front sym (b :: t)).length, front sym (b :: t)⟩ (rest sym (b :: t))
/-- The token that begins with b, t behind it, at i. -/
def dOne (b : UInt8) (t : List UInt8) (i : Nat) : DR :=
  if b = 40 then .tok ⟨1, i, i + 1, [40]⟩ t
  else if b = 41 then .tok ⟨2, i, i + 1, [41]⟩ t
  else if b = 34 then dStr i [] t (i + 1)
  else if b = 124 then dBars i [] t (i + 1)
  else if b = 35 then dHash t i
  else if dig b then dNum b t i
  else if b = 58 then dColon t i
  else if sym b then dName res b t i
  else if 128 ≤ b.toNat then .err 11 i
  else .err 10 i
theorem inMost_dig : inMost 1 = dig := by funext b; simp [inMost]
theorem inMost_hexa : inMost 2 = hexa := by funext b; simp [inMost]
theorem inMost_bin : inMost 0 = bin := by funext b; simp [inMost]
theorem mem_front (p : UInt8 → Bool) (l : List UInt8) : ∀ x, x ∈ front p l → p x = true := by
  induction l with
  | nil => intro x hx; simp [front] at hx
  | cons c r ih =>
    intro x hx
    unfold front at hx ih
    rw [List.takeWhile_cons] at hx
    by_cases hc : p c = true
    · rw [if_pos hc] at hx
      rcases List.mem_cons.mp hx with rfl | h
      · exact hc
      · exact ih x h
    · rw [if_neg hc] at hx
      simp at hx
theorem map_small_dig (l : List UInt8) : (front dig l).map small = front dig l := by
  have : (front dig l).map small = (front dig l).map id := by
    apply List.map_congr_left
    intro x hx
    have h : dig x = true := mem_front dig l x hx
    unfold dig at h
    have := of_decide_eq_true h
    unfold small
    rw [if_neg (by omega)]
    rfl
  rw [this, List.map_id]
theorem run_numTail (i : Nat) (u r : List UInt8) : run res (.zero i u) r (i + u.length) = (dNumTail i u r).out res := by
  rw [run_zero]
  cases r with
  | nil => exact after_out res 5 i _ u [] (by decide)
  | cons c r' =>
    by_cases hc : c = 46
    · subst hc
      simp only [if_true, dNumTail]
      rw [run_first, inMost_dig, map_small_dig]
      by_cases hf : front dig r' = []
      · simp [hf, DR.out]
      · rw [if_neg hf, if_neg hf, ← after_out res 6 i _ _ _ (by decide)]
        simp
    · simp only [hc, if_false, dNumTail]
      exact after_out res 5 i _ u _ (by decide)
theorem dig_lt {b : UInt8} (h : dig b = true) : 48 ≤ b.toNat ∧ b.toNat ≤ 57 := of_decide_eq_true h
theorem sym_lt {b : UInt8} (h : sym b = true) : b.toNat < 128 := by
  unfold sym at h
  simp only [Bool.or_eq_true] at h
  rcases h with ((h | h) | h) | h
  · have := dig_lt h; omega
  · have := of_decide_eq_true h; omega
  · have := of_decide_eq_true h; omega
  · have h2 : b.toNat ∈ few := by simpa using h
    unfold few at h2
    simp at h2
    omega
/-- One token, by the machine, is the longest one. -/
theorem run_one (b : UInt8) (t : List UInt8) (i : Nat) (hw : white b = false) (h59 : b ≠ 59) : run res .idle (b :: t) i = (dOne res b t i).out res := by
  unfold dOne
  by_cases h40 : b = 40
  · subst h40
    rw [if_pos rfl, run_go res (ts := [⟨1, i, i + 1, [40]⟩]) (q' := .idle) rfl]
    rfl
  rw [if_neg h40]
  by_cases h41 : b = 41
  · subst h41
    rw [if_pos rfl, run_go res (ts := [⟨2, i, i + 1, [41]⟩]) (q' := .idle) rfl]
    rfl
  rw [if_neg h41]
  by_cases h34 : b = 34
  · subst h34
    rw [if_pos rfl, run_go res (ts := []) (q' := .cont (.str i [])) rfl, pre_nil, run_str]
  rw [if_neg h34]
  by_cases h124 : b = 124
  · subst h124
    rw [if_pos rfl, run_go res (ts := []) (q' := .cont (.bars i [])) rfl, pre_nil, run_bars]
  rw [if_neg h124]
  by_cases h35 : b = 35
  · subst h35
    rw [if_pos rfl, run_go res (ts := []) (q' := .hash i) rfl, pre_nil]
    cases t with
    | nil => rfl
    | cons c r =>
      unfold dHash
      by_cases hx : c = 120
      · subst hx
        rw [run_go res (ts := []) (q' := .first 7 2 i [35, 120]) rfl, pre_nil, run_first, inMost_hexa]
        simp only [if_true]
        by_cases hf : front hexa r = []
        · simp [hf, DR.out]
        · rw [if_neg hf, if_neg hf, ← after_out res 7 i _ _ _ (by decide)]
          simp
      · by_cases h98 : c = 98
        · subst h98
          rw [run_go res (ts := []) (q' := .first 8 0 i [35, 98]) rfl, pre_nil, run_first, inMost_bin]
          simp only [hx, if_false, if_true]
          by_cases hf : front bin r = []
          · simp [hf, DR.out]
          · rw [if_neg hf, if_neg hf, ← after_out res 8 i _ _ _ (by decide)]
            simp
        · rw [run_err res (ts := []) (e := 12) (p := i + 1) (by simp [step, hx, h98])]
          simp [hx, h98, DR.out]
  rw [if_neg h35]
  by_cases hd : dig b = true
  · rw [if_pos hd]
    have hb := dig_lt hd
    unfold dNum
    by_cases h48 : b = 48
    · subst h48
      rw [run_go res (ts := []) (q' := .zero i [48]) rfl, pre_nil, if_pos rfl]
      exact run_numTail res i [48] t
    · rw [run_go res (ts := []) (q' := .numeral i [b]) (by show stepIdle b i = _; unfold stepIdle; rw [if_neg (by omega), if_pos hd, if_neg h48]), pre_nil, if_neg h48, run_numeral]
      have := run_numTail res i (b :: front dig t) (rest dig t)
      rw [← this]
      simp only [List.singleton_append, List.length_cons]
      rw [show i + 1 + (front dig t).length = i + ((front dig t).length + 1) from by omega]
  rw [if_neg hd]
  by_cases h58 : b = 58
  · subst h58
    rw [if_pos rfl, run_go res (ts := []) (q' := .colon i) rfl, pre_nil]
    cases t with
    | nil => rfl
    | cons c r =>
      by_cases hc : sym c ∧ ¬ dig c
      · rw [run_go res (ts := []) (q' := .name 10 i [c]) (by show (if _ then _ else _) = _; rw [if_pos hc]), pre_nil, run_name]
        simp only [dColon]
        rw [if_pos hc]
        simp only [front, rest, List.takeWhile_cons, List.dropWhile_cons, hc.1, if_true, DR.out, tok, word, List.length_cons, List.singleton_append]
        simp
        rw [show i + 1 + 1 + (List.takeWhile sym r).length = i + 1 + ((List.takeWhile sym r).length + 1) from by omega]
      · rw [run_err res (ts := []) (e := 16) (p := i + 1) (by show (if _ then _ else _) = _; rw [if_neg hc])]
        simp only [dColon]
        rw [if_neg hc]
        rfl
  rw [if_neg h58]
  by_cases hs : sym b = true
  · rw [if_pos hs]
    have hb := sym_lt hs
    rw [run_go res (ts := []) (q' := .name 3 i [b]) (by show stepIdle b i = _; unfold stepIdle; rw [if_neg (by omega), if_neg hd, if_pos hs]), pre_nil, run_name]
    simp only [dName, front, rest, List.takeWhile_cons, List.dropWhile_cons, hs, if_true, DR.out, tok, word, List.length_cons, List.singleton_append, true_and]
    rw [show i + 1 + (List.takeWhile sym t).length = i + ((List.takeWhile sym t).length + 1) from by omega]
  rw [if_neg hs]
  by_cases h128 : 128 ≤ b.toNat
  · rw [if_pos h128, run_err res (ts := []) (e := 11) (p := i) (by show stepIdle b i = _; unfold stepIdle; rw [if_pos h128])]
    rfl
  · rw [if_neg h128, run_err res (ts := []) (e := 10) (p := i) (by
      show stepIdle b i = _
      unfold stepIdle
      rw [if_neg h128, if_neg hd, if_neg hs, if_neg (by rw [hw]; simp), if_neg h40, if_neg h41, if_neg h34, if_neg h124, if_neg h58, if_neg h35, if_neg h59])]
    rfl
theorem dSkip_head (l : List UInt8) (i : Nat) : ∀ b t k, dSkip l i = .ok (b :: t) k → white b = false ∧ b ≠ 59 := by
  induction hn : l.length using Nat.strongRecOn generalizing l i with
  | _ n ih =>
    intro b t k h
    cases l with
    | nil => rw [dSkip] at h; simp at h
    | cons c r =>
      rw [dSkip.eq_def] at h
      by_cases hw : white c = true
      · simp only [hw, if_true] at h
        exact ih _ (by simp at hn; omega) r (i + 1) rfl b t k h
      · by_cases h59 : c = 59
        · subst h59
          simp only [hw, if_false, if_true, Bool.false_eq_true] at h
          rcases hc : dCom r (i + 1) with ⟨r', k'⟩ | ⟨e, p⟩
          · rw [hc] at h
            have := dCom_len _ _ _ _ hc
            exact ih _ (by simp at hn; omega) r' k' rfl b t k h
          · rw [hc] at h
            simp at h
        · simp only [hw, h59, if_false, Bool.false_eq_true] at h
          simp at h
          obtain ⟨⟨rfl, rfl⟩, rfl⟩ := h
          exact ⟨by simpa using hw, h59⟩
/-- The machine's reading, one token at a time, as the document tells it. -/
theorem run_doc (l : List UInt8) (i : Nat) : run res .idle l i = match dSkip l i with
    | .inr (e, p) => ([], e, p)
    | .inl ([], _) => ([], 0, 0)
    | .inl (b :: t, k) => (dOne res b t k).out res := by
  rw [run_skip]
  rcases h : dSkip l i with ⟨r, k⟩ | ⟨e, p⟩
  · cases r with
    | nil => rfl
    | cons b t =>
      obtain ⟨h1, h2⟩ := dSkip_head l i b t k h
      exact run_one res b t k h1 h2
  · rfl
/- A text behind another one and the end of a line. -/
/-- An error's number is not 0. -/
def Res.good : Res → Prop
  | .inl _ => True
  | .inr (_, e, _) => e ≠ 0
theorem good_pre (ts : List Tok) (r : Res) (h : r.good) : (r.pre ts).good := by
  rcases r with ⟨a, q⟩ | ⟨a, e, p⟩
  · trivial
  · exact h
theorem stepIdle_good (b : UInt8) (i : Nat) : (stepIdle b i).good := by
  unfold stepIdle
  repeat' split
  all_goals simp [Res.good]
theorem behindNumber_good (k g : Nat) (a : List UInt8) (b : UInt8) (i : Nat) : (behindNumber res k g a b i).good := by
  unfold behindNumber
  split
  · simp [Res.good]
  · exact good_pre _ _ (stepIdle_good b i)
theorem stepZero_good (g : Nat) (a : List UInt8) (b : UInt8) (i : Nat) : (stepZero res g a b i).good := by
  unfold stepZero
  split
  · trivial
  · exact behindNumber_good res _ _ _ _ _
theorem content_good (c : Cont) (b : UInt8) (i : Nat) : (content c b i).good := by
  unfold content
  repeat' split
  all_goals simp [Res.good]
theorem step_good (q : St) (b : UInt8) (i : Nat) : (step res q b i).good := by
  rcases q with _ | ⟨k, g, a⟩ | g | ⟨g, a⟩ | ⟨g, a⟩ | g | ⟨k, m, g, a⟩ | ⟨k, m, g, a⟩ | ⟨g, a⟩ | c | ⟨c, s, n, lo, hi⟩
  · exact stepIdle_good b i
  · show Res.good (if _ then _ else _)
    split
    · trivial
    · exact good_pre _ _ (stepIdle_good b i)
  · show Res.good (if _ then _ else _)
    split <;> simp [Res.good]
  · show Res.good (if _ then _ else _)
    split
    · trivial
    · exact stepZero_good res _ _ _ _
  · exact stepZero_good res _ _ _ _
  · show Res.good (if _ then _ else if _ then _ else _)
    repeat' split
    all_goals simp [Res.good]
  · show Res.good (if _ then _ else _)
    split <;> simp [Res.good]
  · show Res.good (if _ then _ else _)
    split
    · trivial
    · exact behindNumber_good res _ _ _ _ _
  · show Res.good (if _ then _ else _)
    split
    · trivial
    · exact good_pre _ _ (stepIdle_good b i)
  · rcases c with _ | ⟨g, a⟩ | ⟨g, a⟩
    · show Res.good (if _ then _ else _)
      split
      · trivial
      · exact content_good _ _ _
    · show Res.good (if _ then _ else _)
      split
      · trivial
      · exact content_good _ _ _
    · show Res.good (if _ then _ else if _ then _ else _)
      repeat' split
      · trivial
      · simp [Res.good]
      · exact content_good _ _ _
  · show Res.good (if _ then _ else if _ then _ else _)
    repeat' split
    all_goals simp [Res.good]
theorem inMost_nl (m : Nat) : inMost m 10 = false := by
  unfold inMost
  repeat' split
  all_goals rfl
/-- At the end of a line, what may end there is told, and the reading begins anew. -/
theorem step_nl (q : St) (i : Nat) (h : (stop res q i).2.1 = 0) : step res q 10 i = .go (stop res q i).1 .idle := by
  rcases q with _ | ⟨k, g, a⟩ | g | ⟨g, a⟩ | ⟨g, a⟩ | g | ⟨k, m, g, a⟩ | ⟨k, m, g, a⟩ | ⟨g, a⟩ | c | ⟨c, s, n, lo, hi⟩
  · rfl
  · rfl
  · simp [stop] at h
  · rfl
  · rfl
  · simp [stop] at h
  · simp [stop] at h
  · show (if inMost m 10 then _ else _) = _
    rw [inMost_nl]
    rfl
  · rfl
  · rcases c with _ | ⟨g, a⟩ | ⟨g, a⟩
    · rfl
    · simp [stop] at h
    · simp [stop] at h
  · simp [stop] at h
theorem run_nl (b : List UInt8) : ∀ (l : List UInt8) (q : St) (i : Nat), (run res q l i).2.1 = 0 →
    run res q (l ++ 10 :: b) i = pre (run res q l i).1 (run res .idle b (i + l.length + 1))
  | [], q, i, h => by
    show run res q (10 :: b) i = pre (stop res q i).1 (run res .idle b (i + 1))
    exact run_go res (step_nl res q i h)
  | c :: t, q, i, h => by
    have hg := step_good res q c i
    rcases hs : step res q c i with ⟨ts, q'⟩ | ⟨ts, e, p⟩
    · have e1 : run res q (c :: t) i = pre ts (run res q' t (i + 1)) := run_go res hs
      rw [e1] at h ⊢
      rw [List.cons_append, run_go res hs, run_nl b t q' (i + 1) h, pre_pre]
      rw [show i + 1 + t.length + 1 = i + (c :: t).length + 1 from by simp; omega]
      rfl
    · exfalso
      rw [hs] at hg
      rw [run_err res hs] at h
      exact hg h
/- The same text further on. -/
def shT (n : Nat) (t : Tok) : Tok := ⟨t.kind, t.beg + n, t.fin + n, t.text⟩
def shC (n : Nat) (c : Cont) : Cont :=
  match c with
  | .inl () => .comment
  | .inr (.inl (g, a)) => .str (g + n) a
  | .inr (.inr (g, a)) => .bars (g + n) a
def sh (n : Nat) : St → St
  | .inl () => .idle
  | .inr (.inl (k, g, a)) => .name k (g + n) a
  | .inr (.inr (.inl g)) => .colon (g + n)
  | .inr (.inr (.inr (.inl (g, a)))) => .numeral (g + n) a
  | .inr (.inr (.inr (.inr (.inl (g, a))))) => .zero (g + n) a
  | .inr (.inr (.inr (.inr (.inr (.inl g))))) => .hash (g + n)
  | .inr (.inr (.inr (.inr (.inr (.inr (.inl (k, m, g, a))))))) => .first k m (g + n) a
  | .inr (.inr (.inr (.inr (.inr (.inr (.inr (.inl (k, m, g, a)))))))) => .digits k m (g + n) a
  | .inr (.inr (.inr (.inr (.inr (.inr (.inr (.inr (.inl (g, a))))))))) => .mark (g + n) a
  | .inr (.inr (.inr (.inr (.inr (.inr (.inr (.inr (.inr (.inl c))))))))) => .cont (shC n c)
  | .inr (.inr (.inr (.inr (.inr (.inr (.inr (.inr (.inr (.inr (c, s, k, lo, hi)))))))))) => .char (shC n c) (s + n) k lo hi
def Res.sh (n : Nat) : Res → Res
  | .inl (ts, q) => .go (ts.map (shT n)) (S.sh n q)
  | .inr (ts, e, p) => .err (ts.map (shT n)) e (p + n)
def shO (n : Nat) (o : Out) : Out := (o.1.map (shT n), o.2.1, if o.2.1 = 0 then o.2.2 else o.2.2 + n)
theorem stepIdle_sh (n : Nat) (b : UInt8) (i : Nat) : stepIdle b (i + n) = (stepIdle b i).sh n := by
  unfold stepIdle
  by_cases h0 : 128 ≤ b.toNat
  · rw [if_pos h0, if_pos h0]
    rfl
  rw [if_neg h0, if_neg h0]
  by_cases h1 : dig b = true
  · rw [if_pos h1, if_pos h1]
    by_cases h48 : b = 48
    · rw [if_pos h48, if_pos h48]
      rfl
    · rw [if_neg h48, if_neg h48]
      rfl
  rw [if_neg h1, if_neg h1]
  by_cases h2 : sym b = true
  · rw [if_pos h2, if_pos h2]
    rfl
  rw [if_neg h2, if_neg h2]
  by_cases h3 : white b = true
  · rw [if_pos h3, if_pos h3]
    rfl
  rw [if_neg h3, if_neg h3]
  by_cases h4 : b = 40
  · rw [if_pos h4, if_pos h4, Nat.add_right_comm]
    rfl
  rw [if_neg h4, if_neg h4]
  by_cases h5 : b = 41
  · rw [if_pos h5, if_pos h5, Nat.add_right_comm]
    rfl
  rw [if_neg h5, if_neg h5]
  by_cases h6 : b = 34
  · rw [if_pos h6, if_pos h6]
    rfl
  rw [if_neg h6, if_neg h6]
  by_cases h7 : b = 124
  · rw [if_pos h7, if_pos h7]
    rfl
  rw [if_neg h7, if_neg h7]
  by_cases h8 : b = 58
  · rw [if_pos h8, if_pos h8]
    rfl
  rw [if_neg h8, if_neg h8]
  by_cases h9 : b = 35
  · rw [if_pos h9, if_pos h9]
    rfl
  rw [if_neg h9, if_neg h9]
  by_cases h10 : b = 59
  · rw [if_pos h10, if_pos h10]
    rfl
  rw [if_neg h10, if_neg h10]
  rfl
theorem sh_pre (n : Nat) (ts : List Tok) (r : Res) : (r.pre ts).sh n = (r.sh n).pre (ts.map (shT n)) := by
  rcases r with ⟨a, q⟩ | ⟨a, e, p⟩ <;> simp [Res.pre, Res.sh]
theorem behindNumber_sh (n k g : Nat) (a : List UInt8) (b : UInt8) (i : Nat) : behindNumber res k (g + n) a b (i + n) = (behindNumber res k g a b i).sh n := by
  unfold behindNumber
  split
  · simp [Res.sh]
  · rw [sh_pre, stepIdle_sh]
    rfl
theorem stepZero_sh (n g : Nat) (a : List UInt8) (b : UInt8) (i : Nat) : stepZero res (g + n) a b (i + n) = (stepZero res g a b i).sh n := by
  unfold stepZero
  split
  · simp [Res.sh, sh]
  · exact behindNumber_sh res _ _ _ _ _ _
theorem keepC_sh (n : Nat) (c : Cont) (b : UInt8) : keepC (shC n c) b = shC n (keepC c b) := by
  rcases c with _ | ⟨g, a⟩ | ⟨g, a⟩ <;> rfl
theorem content_sh (n : Nat) (c : Cont) (b : UInt8) (i : Nat) : content (shC n c) b (i + n) = (content c b i).sh n := by
  unfold content
  repeat' split
  all_goals simp [Res.sh, sh, keepC_sh]
theorem step_sh (n : Nat) (q : St) (b : UInt8) (i : Nat) : step res (sh n q) b (i + n) = (step res q b i).sh n := by
  rcases q with _ | ⟨k, g, a⟩ | g | ⟨g, a⟩ | ⟨g, a⟩ | g | ⟨k, m, g, a⟩ | ⟨k, m, g, a⟩ | ⟨g, a⟩ | c | ⟨c, s, k, lo, hi⟩
  · exact stepIdle_sh n b i
  · show (if sym b then _ else _) = Res.sh n (if sym b then _ else _)
    split
    · rfl
    · rw [sh_pre, stepIdle_sh]
      rfl
  · show (if _ then _ else _) = Res.sh n (if sym b ∧ ¬ dig b then _ else _)
    split <;> rfl
  · show (if dig b then _ else _) = Res.sh n (if dig b then _ else _)
    split
    · rfl
    · exact stepZero_sh res _ _ _ _ _
  · exact stepZero_sh res _ _ _ _ _
  · show (if b = 120 then _ else if b = 98 then _ else _) = Res.sh n (if b = 120 then _ else if b = 98 then _ else _)
    repeat' split
    all_goals rfl
  · show (if inMost m b then _ else _) = Res.sh n (if inMost m b then _ else _)
    split <;> rfl
  · show (if inMost m b then _ else _) = Res.sh n (if inMost m b then _ else _)
    split
    · rfl
    · exact behindNumber_sh res _ _ _ _ _ _
  · show (if b = 34 then _ else _) = Res.sh n (if b = 34 then _ else _)
    split
    · rfl
    · rw [sh_pre, stepIdle_sh]
      rfl
  · rcases c with _ | ⟨g, a⟩ | ⟨g, a⟩
    · show (if b = 10 ∨ b = 13 then _ else _) = Res.sh n (if b = 10 ∨ b = 13 then _ else _)
      split
      · rfl
      · exact content_sh n .comment b i
    · show (if b = 34 then _ else _) = Res.sh n (if b = 34 then _ else _)
      split
      · rfl
      · exact content_sh n (.str g a) b i
    · show (if b = 124 then _ else if b = 92 then _ else _) = Res.sh n (if b = 124 then _ else if b = 92 then _ else _)
      repeat' split
      · simp [Res.sh, sh, shT, Nat.add_right_comm]
      · rfl
      · exact content_sh n (.bars g a) b i
  · show (if b.toNat < lo ∨ hi < b.toNat then _ else if k = 1 then _ else _) = Res.sh n (if b.toNat < lo ∨ hi < b.toNat then _ else if k = 1 then _ else _)
    repeat' split
    · rfl
    · show Res.go [] (.cont (keepC (shC n c) b)) = _
      rw [keepC_sh]
      rfl
    · show Res.go [] (.char (keepC (shC n c) b) _ _ _ _) = _
      rw [keepC_sh]
      rfl
theorem stop_sh (n : Nat) (q : St) (i : Nat) : stop res (sh n q) (i + n) = shO n (stop res q i) := by
  rcases q with _ | ⟨k, g, a⟩ | g | ⟨g, a⟩ | ⟨g, a⟩ | g | ⟨k, m, g, a⟩ | ⟨k, m, g, a⟩ | ⟨g, a⟩ | (_ | ⟨g, a⟩ | ⟨g, a⟩) | ⟨c, s, k, lo, hi⟩ <;> rfl
theorem shO_pre (n : Nat) (ts : List Tok) (o : Out) : shO n (pre ts o) = pre (ts.map (shT n)) (shO n o) := by
  show (List.map (shT n) (ts ++ o.1), _) = _
  rw [List.map_append]
  rfl
theorem run_sh (n : Nat) : ∀ (l : List UInt8) (q : St) (i : Nat), run res (sh n q) l (i + n) = shO n (run res q l i)
  | [], q, i => stop_sh res n q i
  | c :: t, q, i => by
    have hg := step_good res q c i
    have hh := step_sh res n q c i
    rcases hs : step res q c i with ⟨ts, q'⟩ | ⟨ts, e, p⟩
    · rw [hs] at hh
      have hh : step res (sh n q) c (i + n) = .go (ts.map (shT n)) (sh n q') := hh
      have e1 : run res q (c :: t) i = pre ts (run res q' t (i + 1)) := run_go res hs
      rw [e1, run_go res hh, shO_pre, ← run_sh n t q' (i + 1), Nat.add_right_comm]
    · rw [hs] at hh hg
      have hh : step res (sh n q) c (i + n) = .err (ts.map (shT n)) e (p + n) := hh
      have e1 : run res q (c :: t) i = (ts, e, p) := run_err res hs
      rw [e1, run_err res hh]
      show _ = (_, e, if e = 0 then _ else _)
      rw [if_neg hg]
/-- A text without an error, the end of a line, another text: its tokens behind the first one's, so many bytes further on, and its error. -/
theorem run_behind_text (a b : List UInt8) (h : (run res .idle a 0).2.1 = 0) :
    run res .idle (a ++ 10 :: b) 0 = pre (run res .idle a 0).1 (shO (a.length + 1) (run res .idle b 0)) := by
  rw [run_nl res b a .idle 0 h, ← run_sh res (a.length + 1) b .idle 0, Nat.zero_add, Nat.zero_add]
  rfl
/- Each token's own bytes, read alone, are just that token. -/
/-- The token begins at g; of l, of which the first byte stands at i, it takes so many bytes that the reading of these alone is the same token, and r is the rest. -/
def Cut (f : List UInt8 → DR) (l : List UInt8) (g i : Nat) (tk : Tok) (r : List UInt8) : Prop :=
  tk.beg = g ∧ ∃ n, n ≤ l.length ∧ tk.fin = i + n ∧ r = l.drop n ∧ f (l.take n) = .tok tk []
theorem okTail_take : ∀ (n lo hi k : Nat) (t : List UInt8), okTail n lo hi t = true → n ≤ k → okTail n lo hi (t.take k) = true
  | 0, _, _, _, _, _, _ => rfl
  | n + 1, lo, hi, 0, t, _, hk => by omega
  | n + 1, lo, hi, k + 1, [], h, _ => by simp [okTail] at h
  | n + 1, lo, hi, k + 1, c :: r, h, hk => by
    rw [okTail, Bool.and_eq_true] at h
    rw [List.take_succ_cons, okTail, Bool.and_eq_true]
    exact ⟨h.1, okTail_take n _ _ k r h.2 (by omega)⟩
theorem chr_take (b : UInt8) (t : List UInt8) (k : Nat) (h0 : ¬ chr (b :: t) = 0) (hk : chr (b :: t) ≤ k + 1) : chr (b :: t.take k) = chr (b :: t) := by
  by_cases hb : b.toNat < 128
  · simp [chr, hb]
  · by_cases hf : (follow b).1 = 0
    · simp [chr, hb, hf] at h0
    · by_cases ho : okTail (follow b).1 (follow b).2.1 (follow b).2.2 t = true
      · have e : chr (b :: t) = (follow b).1 + 1 := by simp [chr, hb, hf, ho]
        rw [e] at hk ⊢
        have := okTail_take _ _ _ k t ho (by omega)
        simp [chr, hb, hf, this]
      · simp [chr, hb, hf, ho] at h0
theorem tok_inj {t t' : Tok} {r r' : List UInt8} (h : DR.tok t r = DR.tok t' r') : t = t' ∧ r = r' := by
  simp only [DR.tok, Sum.inl.injEq, Prod.mk.injEq] at h
  exact h
theorem dStr_cut (g : Nat) (a l : List UInt8) (i : Nat) : ∀ tk r, dStr g a l i = .tok tk r → Cut (fun l => dStr g a l i) l g i tk r := by
  induction hn : l.length using Nat.strongRecOn generalizing a l i with
  | _ n ih =>
    intro tk r h
    cases l with
    | nil => rw [dStr] at h; simp at h
    | cons b t =>
      rw [dStr.eq_def] at h
      by_cases h34 : b = 34
      · subst h34
        simp only [if_true] at h
        cases t with
        | nil =>
          obtain ⟨h1, h2⟩ := tok_inj h
          subst h1 h2
          refine ⟨rfl, 1, by simp, rfl, rfl, ?_⟩
          show dStr g a [34] i = _
          rw [dStr.eq_def]
          rfl
        | cons c s =>
          by_cases hc : c = 34
          · subst hc
            simp only [if_true] at h
            obtain ⟨e1, m, hm, e2, e3, e4⟩ := ih _ (by simp at hn; omega) (a ++ [34]) s (i + 2) rfl tk r h
            refine ⟨e1, m + 2, by simp; omega, by omega, by rw [e3]; rfl, ?_⟩
            show dStr g a (34 :: 34 :: s.take m) i = _
            rw [dStr.eq_def]
            simp only [if_true]
            exact e4
          · simp only [hc, if_false] at h
            obtain ⟨h1, h2⟩ := tok_inj h
            subst h1 h2
            refine ⟨rfl, 1, by simp, rfl, rfl, ?_⟩
            show dStr g a [34] i = _
            rw [dStr.eq_def]
            rfl
      · simp only [h34, if_false] at h
        by_cases hc : ctl b = true
        · simp [hc] at h
        · by_cases h0 : chr (b :: t) = 0
          · simp [hc, h0] at h
          · simp only [hc, h0, if_false, Bool.false_eq_true, dite_false] at h
            have hl := chr_le (b :: t)
            obtain ⟨e1, m, hm, e2, e3, e4⟩ := ih _ (by simp at *; omega) _ _ _ rfl tk r h
            obtain ⟨q, hq⟩ : ∃ q, chr (b :: t) = q + 1 := ⟨chr (b :: t) - 1, by omega⟩
            rw [hq] at hl hm e2 e3 e4
            simp only [List.drop_succ_cons, List.take_succ_cons, List.length_drop, List.length_cons] at hm e3 e4 hl
            refine ⟨e1, q + 1 + m, by simp; omega, by omega, ?_, ?_⟩
            · rw [e3, show q + 1 + m = (q + m) + 1 from by omega, List.drop_succ_cons, List.drop_drop]
            · show dStr g a ((b :: t).take (q + 1 + m)) i = _
              rw [show q + 1 + m = (q + m) + 1 from by omega, List.take_succ_cons]
              have hx := chr_take b t (q + m) h0 (by omega)
              rw [dStr.eq_def]
              simp only [h34, hc, if_false, Bool.false_eq_true, hx, h0, dite_false]
              rw [hq, List.take_succ_cons, List.drop_succ_cons, List.take_take, List.drop_take, Nat.min_eq_left (by omega), show q + m - q = m from by omega]
              exact e4
theorem dBars_cut (g : Nat) (a l : List UInt8) (i : Nat) : ∀ tk r, dBars g a l i = .tok tk r → Cut (fun l => dBars g a l i) l g i tk r := by
  induction hn : l.length using Nat.strongRecOn generalizing a l i with
  | _ n ih =>
    intro tk r h
    cases l with
    | nil => rw [dBars] at h; simp at h
    | cons b t =>
      rw [dBars.eq_def] at h
      by_cases h34 : b = 124
      · subst h34
        simp only [if_true] at h
        obtain ⟨h1, h2⟩ := tok_inj h
        subst h1 h2
        refine ⟨rfl, 1, by simp, rfl, rfl, ?_⟩
        show dBars g a [124] i = _
        rw [dBars.eq_def]
        rfl
      · simp only [h34, if_false] at h
        by_cases h92 : b = 92
        · simp [h92] at h
        · simp only [h92, if_false] at h
          by_cases hc : ctl b = true
          · simp [hc] at h
          · by_cases h0 : chr (b :: t) = 0
            · simp [hc, h0] at h
            · simp only [hc, h0, if_false, Bool.false_eq_true, dite_false] at h
              have hl := chr_le (b :: t)
              obtain ⟨e1, m, hm, e2, e3, e4⟩ := ih _ (by simp at *; omega) _ _ _ rfl tk r h
              obtain ⟨q, hq⟩ : ∃ q, chr (b :: t) = q + 1 := ⟨chr (b :: t) - 1, by omega⟩
              rw [hq] at hl hm e2 e3 e4
              simp only [List.drop_succ_cons, List.take_succ_cons, List.length_drop, List.length_cons] at hm e3 e4 hl
              refine ⟨e1, q + 1 + m, by simp; omega, by omega, ?_, ?_⟩
              · rw [e3, show q + 1 + m = (q + m) + 1 from by omega, List.drop_succ_cons, List.drop_drop]
              · show dBars g a ((b :: t).take (q + 1 + m)) i = _
                rw [show q + 1 + m = (q + m) + 1 from by omega, List.take_succ_cons]
                have hx := chr_take b t (q + m) h0 (by omega)
                rw [dBars.eq_def]
                simp only [h34, h92, hc, if_false, Bool.false_eq_true, hx, h0, dite_false]
                rw [hq, List.take_succ_cons, List.drop_succ_cons, List.take_take, List.drop_take, Nat.min_eq_left (by omega), show q + m - q = m from by omega]
                exact e4
theorem front_rest (p : UInt8 → Bool) (l : List UInt8) : front p l ++ rest p l = l := List.takeWhile_append_dropWhile
theorem front_len (p : UInt8 → Bool) (l : List UInt8) : (front p l).length + (rest p l).length = l.length := by
  rw [← List.length_append, front_rest]
theorem take_front (p : UInt8 → Bool) (l : List UInt8) (m : Nat) : l.take ((front p l).length + m) = front p l ++ (rest p l).take m := by
  have h := front_rest p l
  have : (front p l ++ rest p l).take ((front p l).length + m) = front p l ++ (rest p l).take m := by
    rw [List.take_append, List.take_of_length_le (by omega), show (front p l).length + m - (front p l).length = m from by omega]
  rw [h] at this
  exact this
theorem drop_front (p : UInt8 → Bool) (l : List UInt8) (m : Nat) : l.drop ((front p l).length + m) = (rest p l).drop m := by
  have h := front_rest p l
  have : (front p l ++ rest p l).drop ((front p l).length + m) = (rest p l).drop m := by
    rw [List.drop_append, List.drop_of_length_le (by omega), show (front p l).length + m - (front p l).length = m from by omega, List.nil_append]
  rw [h] at this
  exact this
/-- A front, and behind it nothing or a byte that is none of it. -/
theorem front_of (p : UInt8 → Bool) : ∀ (a s : List UInt8), (∀ x, x ∈ a → p x = true) → (∀ c s', s = c :: s' → p c = false) → front p (a ++ s) = a ∧ rest p (a ++ s) = s
  | [], s, _, hs => by
    cases s with
    | nil => exact ⟨rfl, rfl⟩
    | cons c s' => simp [front, rest, List.takeWhile_cons, List.dropWhile_cons, hs c s' rfl]
  | b :: a, s, ha, hs => by
    obtain ⟨h1, h2⟩ := front_of p a s (fun x hx => ha x (List.mem_cons_of_mem _ hx)) hs
    have hb := ha b (List.mem_cons_self ..)
    unfold front at h1 ⊢
    unfold rest at h2 ⊢
    rw [List.cons_append, List.takeWhile_cons, List.dropWhile_cons, if_pos hb, if_pos hb, h1, h2]
    exact ⟨rfl, rfl⟩
theorem front_front (p : UInt8 → Bool) (l : List UInt8) : front p (front p l) = front p l ∧ rest p (front p l) = [] := by
  have := front_of p (front p l) [] (mem_front p l) (by intro c s' h; simp at h)
  rw [List.append_nil] at this
  exact this
theorem dAfter_tok {k g i : Nat} {a l : List UInt8} {tk : Tok} {r : List UInt8} (h : dAfter k g i a l = .tok tk r) : tk = ⟨k, g, i, a⟩ ∧ r = l := by
  unfold dAfter at h
  cases l with
  | nil => obtain ⟨h1, h2⟩ := tok_inj h; exact ⟨h1.symm, h2.symm⟩
  | cons b t =>
    by_cases hs : sym b = true
    · simp [hs] at h
    · simp only [hs, if_false, Bool.false_eq_true] at h
      obtain ⟨h1, h2⟩ := tok_inj h; exact ⟨h1.symm, h2.symm⟩
theorem dNumTail_cut (i : Nat) (u r0 : List UInt8) : ∀ tk r, dNumTail i u r0 = .tok tk r →
    tk.beg = i ∧ ∃ m, m ≤ r0.length ∧ tk.fin = i + u.length + m ∧ r = r0.drop m ∧ dNumTail i u (r0.take m) = .tok tk [] ∧ (∀ c s', r0.take m = c :: s' → c = 46) := by
  intro tk r h
  cases r0 with
  | nil =>
    simp only [dNumTail] at h
    obtain ⟨h1, h2⟩ := dAfter_tok h
    subst h1 h2
    exact ⟨rfl, 0, by simp, rfl, rfl, rfl, by intro c s' h; simp at h⟩
  | cons c t =>
    by_cases hc : c = 46
    · subst hc
      simp only [dNumTail, if_true] at h
      by_cases hf : front dig t = []
      · simp [hf] at h
      · rw [if_neg hf] at h
        obtain ⟨h1, h2⟩ := dAfter_tok h
        subst h1 h2
        have hl := front_len dig t
        have e : (46 :: t).take ((front dig t).length + 1) = 46 :: front dig t := by
          have := take_front dig t 0
          rw [List.take_succ_cons]
          simpa using this
        refine ⟨rfl, (front dig t).length + 1, by simp; omega, ?_, ?_, ?_, ?_⟩
        · show i + u.length + 1 + _ = _
          omega
        · have := drop_front dig t 0
          rw [List.drop_succ_cons]
          simpa using this.symm
        · rw [e]
          obtain ⟨g1, g2⟩ := front_front dig t
          simp only [dNumTail, if_true]
          rw [g1, g2, if_neg hf]
          rfl
        · rw [e]
          intro c s' h
          exact (List.cons.inj h).1.symm
    · simp only [dNumTail, hc, if_false] at h
      obtain ⟨h1, h2⟩ := dAfter_tok h
      subst h1 h2
      exact ⟨rfl, 0, by simp, rfl, rfl, rfl, by intro c s' h; simp at h⟩
theorem dNum_cut (b : UInt8) (t : List UInt8) (i : Nat) : ∀ tk r, dNum b t i = .tok tk r → Cut (fun t => dNum b t i) t i (i + 1) tk r := by
  intro tk r h
  unfold dNum at h
  by_cases hb : b = 48
  · rw [if_pos hb] at h
    obtain ⟨e1, m, e2, e3, e4, e5, _⟩ := dNumTail_cut i [48] t tk r h
    refine ⟨e1, m, e2, e3, e4, ?_⟩
    show dNum b _ i = _
    unfold dNum
    rw [if_pos hb]
    exact e5
  · rw [if_neg hb] at h
    obtain ⟨e1, m, e2, e3, e4, e5, e6⟩ := dNumTail_cut i _ _ tk r h
    have hl := front_len dig t
    refine ⟨e1, (front dig t).length + m, by omega, ?_, ?_, ?_⟩
    · rw [e3]
      simp
      omega
    · rw [drop_front, e4]
    · show dNum b _ i = _
      unfold dNum
      rw [if_neg hb, take_front]
      obtain ⟨g1, g2⟩ := front_of dig (front dig t) ((rest dig t).take m) (mem_front dig t) (by intro c s' h; rw [e6 c s' h]; rfl)
      rw [g1, g2]
      exact e5
theorem dHash_cut (t : List UInt8) (i : Nat) : ∀ tk r, dHash t i = .tok tk r → Cut (fun t => dHash t i) t i (i + 1) tk r := by
  intro tk r h
  have key : ∀ (c : UInt8) (p : UInt8 → Bool) (k : Nat) (s : List UInt8), (∀ s, dHash (c :: s) i = if front p s = [] then .err 12 (i + 2) else dAfter k i (i + 2 + (front p s).length) (35 :: c :: (front p s).map small) (rest p s)) →
      dHash (c :: s) i = .tok tk r → Cut (fun t => dHash t i) (c :: s) i (i + 1) tk r := by
    intro c p k s he h
    rw [he] at h
    by_cases hf : front p s = []
    · rw [if_pos hf] at h
      simp at h
    · rw [if_neg hf] at h
      obtain ⟨h1, h2⟩ := dAfter_tok h
      subst h1 h2
      have hl := front_len p s
      have e := take_front p s 0
      have e' := drop_front p s 0
      rw [Nat.add_zero] at e e'
      rw [List.take_zero, List.append_nil] at e
      rw [List.drop_zero] at e'
      refine ⟨rfl, (front p s).length + 1, by simp; omega, ?_, ?_, ?_⟩
      · show i + 2 + _ = _
        omega
      · rw [List.drop_succ_cons, e']
      · show dHash _ i = _
        obtain ⟨g1, g2⟩ := front_front p s
        rw [List.take_succ_cons, e, he, g1, g2, if_neg hf]
        rfl
  cases t with
  | nil => simp [dHash] at h
  | cons c s =>
    by_cases h1 : c = 120
    · subst h1
      exact key 120 hexa 7 s (by intro s; simp [dHash]) h
    · by_cases h2 : c = 98
      · subst h2
        exact key 98 bin 8 s (by intro s; simp [dHash]) h
      · simp [dHash, h1, h2] at h
theorem dOne_cut (b : UInt8) (t : List UInt8) (i : Nat) : ∀ tk r, dOne res b t i = .tok tk r → Cut (fun t => dOne res b t i) t i (i + 1) tk r := by
  intro tk r h
  unfold Cut
  simp only [dOne] at h ⊢
  by_cases h40 : b = 40
  · simp only [h40, if_true] at h ⊢
    obtain ⟨h1, h2⟩ := tok_inj h
    subst h1 h2
    exact ⟨rfl, 0, by simp, rfl, rfl, rfl⟩
  simp only [h40, if_false] at h ⊢
  by_cases h41 : b = 41
  · simp only [h41, if_true] at h ⊢
    obtain ⟨h1, h2⟩ := tok_inj h
    subst h1 h2
    exact ⟨rfl, 0, by simp, rfl, rfl, rfl⟩
  simp only [h41, if_false] at h ⊢
  by_cases h34 : b = 34
  · simp only [h34, if_true] at h ⊢
    exact dStr_cut i [] t (i + 1) tk r h
  simp only [h34, if_false] at h ⊢
  by_cases h124 : b = 124
  · simp only [h124, if_true] at h ⊢
    exact dBars_cut i [] t (i + 1) tk r h
  simp only [h124, if_false] at h ⊢
  by_cases h35 : b = 35
  · simp only [h35, if_true] at h ⊢
    exact dHash_cut t i tk r h
  simp only [h35, if_false] at h ⊢
  by_cases hd : dig b = true
  · simp only [hd, if_true] at h ⊢
    exact dNum_cut b t i tk r h
  simp only [hd, if_false, Bool.false_eq_true] at h ⊢
  by_cases h58 : b = 58
  · simp only [h58, if_true] at h ⊢
    cases t with
    | nil => simp [dColon] at h
    | cons c s =>
      by_cases hc : sym c ∧ ¬ dig c
      · simp only [dColon] at h
        rw [if_pos hc] at h
        obtain ⟨h1, h2⟩ := tok_inj h
        subst h1 h2
        have hl := front_len sym (c :: s)
        have e := take_front sym (c :: s) 0
        have e' := drop_front sym (c :: s) 0
        rw [Nat.add_zero] at e e'
        rw [List.take_zero, List.append_nil] at e
        rw [List.drop_zero] at e'
        refine ⟨rfl, (front sym (c :: s)).length, by omega, rfl, e'.symm, ?_⟩
        rw [e]
        obtain ⟨g1, g2⟩ := front_front sym (c :: s)
        have hx : front sym (c :: s) = c :: front sym s := by simp [front, List.takeWhile_cons, hc.1]
        rw [hx] at g1 g2 ⊢
        simp only [dColon]
        rw [if_pos hc, g1, g2]
      · simp only [dColon] at h
        rw [if_neg hc] at h
        simp at h
  simp only [h58, if_false] at h ⊢
  by_cases hs : sym b = true
  · simp only [hs, if_true] at h ⊢
    obtain ⟨h1, h2⟩ := tok_inj h
    subst h1 h2
    have hl := front_len sym t
    have hx : ∀ t, front sym (b :: t) = b :: front sym t := by intro t; simp [front, List.takeWhile_cons, hs]
    have hy : ∀ t, rest sym (b :: t) = rest sym t := by intro t; simp [rest, List.dropWhile_cons, hs]
    have e := take_front sym t 0
    have e' := drop_front sym t 0
    rw [Nat.add_zero] at e e'
    rw [List.take_zero, List.append_nil] at e
    rw [List.drop_zero] at e'
    obtain ⟨g1, g2⟩ := front_front sym t
    refine ⟨rfl, (front sym t).length, by omega, ?_, ?_, ?_⟩
    · show i + (front sym (b :: t)).length = _
      rw [hx]
      simp
      omega
    · rw [hy, e']
    · rw [e]
      unfold dName
      rw [hx, hx, hy, g1, g2]
  simp only [hs, if_false, Bool.false_eq_true] at h
  by_cases h128 : 128 ≤ b.toNat
  · simp [h128] at h
  · simp [h128] at h
/- Where an error stands. -/
theorem dStr_err (g : Nat) (a l : List UInt8) (i : Nat) : ∀ e p, dStr g a l i = .err e p → e ≠ 0 ∧ (p = g ∨ (i ≤ p ∧ p ≤ i + l.length)) := by
  induction hn : l.length using Nat.strongRecOn generalizing a l i with
  | _ n ih =>
    intro e p h
    cases l with
    | nil =>
      rw [dStr] at h
      simp at h
      omega
    | cons b t =>
      rw [dStr.eq_def] at h
      by_cases h34 : b = 34
      · subst h34
        simp only [if_true] at h
        cases t with
        | nil => simp at h
        | cons c s =>
          by_cases hc : c = 34
          · subst hc
            simp only [if_true] at h
            have := ih _ (by simp at hn; omega) (a ++ [34]) s (i + 2) rfl e p h
            simp at hn
            omega
          · simp [hc] at h
      · simp only [h34, if_false] at h
        by_cases hc : ctl b = true
        · simp [hc] at h
          omega
        · by_cases h0 : chr (b :: t) = 0
          · simp [hc, h0] at h
            omega
          · simp only [hc, h0, if_false, Bool.false_eq_true, dite_false] at h
            have hl := chr_le (b :: t)
            have := ih _ (by simp at *; omega) _ _ _ rfl e p h
            simp at hn hl this
            omega
theorem dBars_err (g : Nat) (a l : List UInt8) (i : Nat) : ∀ e p, dBars g a l i = .err e p → e ≠ 0 ∧ (p = g ∨ (i ≤ p ∧ p ≤ i + l.length)) := by
  induction hn : l.length using Nat.strongRecOn generalizing a l i with
  | _ n ih =>
    intro e p h
    cases l with
    | nil =>
      rw [dBars] at h
      simp at h
      omega
    | cons b t =>
      rw [dBars.eq_def] at h
      by_cases h34 : b = 124
      · simp [h34] at h
      · simp only [h34, if_false] at h
        by_cases h92 : b = 92
        · simp [h92] at h
          omega
        · simp only [h92, if_false] at h
          by_cases hc : ctl b = true
          · simp [hc] at h
            omega
          · by_cases h0 : chr (b :: t) = 0
            · simp [hc, h0] at h
              omega
            · simp only [hc, h0, if_false, Bool.false_eq_true, dite_false] at h
              have hl := chr_le (b :: t)
              have := ih _ (by simp at *; omega) _ _ _ rfl e p h
              simp at hn hl this
              omega
theorem dAfter_err {k g i : Nat} {a l : List UInt8} {e p : Nat} (h : dAfter k g i a l = .err e p) : e ≠ 0 ∧ p = i := by
  unfold dAfter at h
  cases l with
  | nil => simp at h
  | cons b t =>
    by_cases hs : sym b = true
    · simp [hs] at h
      omega
    · simp [hs] at h
theorem dNumTail_err (i : Nat) (u r0 : List UInt8) {e p : Nat} (h : dNumTail i u r0 = .err e p) : e ≠ 0 ∧ i ≤ p ∧ p ≤ i + u.length + r0.length := by
  cases r0 with
  | nil =>
    simp only [dNumTail] at h
    have := dAfter_err h
    omega
  | cons c t =>
    by_cases hc : c = 46
    · subst hc
      simp only [dNumTail, if_true] at h
      by_cases hf : front dig t = []
      · rw [if_pos hf] at h
        simp at h
        simp
        omega
      · rw [if_neg hf] at h
        have := dAfter_err h
        have := front_len dig t
        simp
        omega
    · simp only [dNumTail, hc, if_false] at h
      have := dAfter_err h
      omega
theorem dNum_err (b : UInt8) (t : List UInt8) (i : Nat) {e p : Nat} (h : dNum b t i = .err e p) : e ≠ 0 ∧ i ≤ p ∧ p ≤ i + 1 + t.length := by
  unfold dNum at h
  by_cases hb : b = 48
  · rw [if_pos hb] at h
    have := dNumTail_err i [48] t h
    simp at this
    omega
  · rw [if_neg hb] at h
    have := dNumTail_err i _ _ h
    have := front_len dig t
    simp at *
    omega
theorem dHash_err (t : List UInt8) (i : Nat) {e p : Nat} (h : dHash t i = .err e p) : e ≠ 0 ∧ i ≤ p ∧ p ≤ i + 1 + t.length := by
  cases t with
  | nil =>
    simp [dHash] at h
    simp
    omega
  | cons c s =>
    by_cases h1 : c = 120
    · subst h1
      simp only [dHash, if_true] at h
      by_cases hf : front hexa s = []
      · rw [if_pos hf] at h
        simp at h
        simp
        omega
      · rw [if_neg hf] at h
        have := dAfter_err h
        have := front_len hexa s
        simp
        omega
    · by_cases h2 : c = 98
      · subst h2
        simp only [dHash, h1, if_false, if_true] at h
        by_cases hf : front bin s = []
        · rw [if_pos hf] at h
          simp at h
          simp
          omega
        · rw [if_neg hf] at h
          have := dAfter_err h
          have := front_len bin s
          simp
          omega
      · simp [dHash, h1, h2] at h
        simp
        omega
theorem dOne_err (b : UInt8) (t : List UInt8) (i : Nat) : ∀ e p, dOne res b t i = .err e p → e ≠ 0 ∧ i ≤ p ∧ p ≤ i + 1 + t.length := by
  intro e p h
  simp only [dOne] at h
  by_cases h40 : b = 40
  · simp [h40] at h
  simp only [h40, if_false] at h
  by_cases h41 : b = 41
  · simp [h41] at h
  simp only [h41, if_false] at h
  by_cases h34 : b = 34
  · simp only [h34, if_true] at h
    have := dStr_err i [] t (i + 1) e p h
    omega
  simp only [h34, if_false] at h
  by_cases h124 : b = 124
  · simp only [h124, if_true] at h
    have := dBars_err i [] t (i + 1) e p h
    omega
  simp only [h124, if_false] at h
  by_cases h35 : b = 35
  · simp only [h35, if_true] at h
    exact dHash_err t i h
  simp only [h35, if_false] at h
  by_cases hd : dig b = true
  · simp only [hd, if_true] at h
    exact dNum_err b t i h
  simp only [hd, if_false, Bool.false_eq_true] at h
  by_cases h58 : b = 58
  · simp only [h58, if_true] at h
    cases t with
    | nil =>
      simp [dColon] at h
      simp
      omega
    | cons c s =>
      simp only [dColon] at h
      by_cases hc : sym c ∧ ¬ dig c
      · rw [if_pos hc] at h
        simp at h
      · rw [if_neg hc] at h
        simp at h
        simp
        omega
  simp only [h58, if_false] at h
  by_cases hs : sym b = true
  · simp [hs, dName] at h
  simp only [hs, if_false, Bool.false_eq_true] at h
  by_cases h128 : 128 ≤ b.toNat
  · simp [h128] at h
    omega
  · simp [h128] at h
    omega
/- The tokens stand one behind the other, between them white and comments alone. -/
/-- Are the bytes white, or in comments? -/
def gapB : Bool → List UInt8 → Bool
  | _, [] => true
  | inside, b :: t =>
    if b = 10 ∨ b = 13 then gapB false t
    else if (inside || decide (b = 59)) = false ∧ b ≠ 9 ∧ b ≠ 32 then false
    else gapB (inside || decide (b = 59)) t
theorem gapB_in : ∀ (l s : List UInt8), (∀ x, x ∈ l → ¬ (x = 10 ∨ x = 13)) → gapB true (l ++ s) = gapB true s
  | [], s, _ => rfl
  | b :: t, s, h => by
    rw [List.cons_append, gapB, if_neg (h b (List.mem_cons_self ..))]
    simp only [Bool.true_or, Bool.true_eq_false, false_and, if_false]
    exact gapB_in t s (fun x hx => h x (List.mem_cons_of_mem _ hx))
/-- No byte of a character of two bytes or more ends a line. -/
theorem okTail_high : ∀ (n lo hi : Nat) (t : List UInt8), 128 ≤ lo → okTail n lo hi t = true → ∀ x, x ∈ t.take n → ¬ (x = 10 ∨ x = 13)
  | 0, _, _, _, _, _, x, hx => by simp at hx
  | n + 1, lo, hi, [], _, h, x, hx => by simp at hx
  | n + 1, lo, hi, c :: r, hlo, h, x, hx => by
    rw [okTail, Bool.and_eq_true] at h
    rw [List.take_succ_cons] at hx
    rcases List.mem_cons.mp hx with rfl | hx
    · have := (of_decide_eq_true h.1).1
      rintro (rfl | rfl)
      · have : (10 : UInt8).toNat = 10 := rfl
        omega
      · have : (13 : UInt8).toNat = 13 := rfl
        omega
    · exact okTail_high n 0x80 0xBF r (by decide) h.2 x hx
theorem follow_low (b : UInt8) (h : ¬ (follow b).1 = 0) : 128 ≤ (follow b).2.1 := by
  unfold follow at h ⊢
  repeat' split
  all_goals first | decide | (exfalso; simp_all)
theorem chr_high (b : UInt8) (t : List UInt8) (hb : ¬ (b = 10 ∨ b = 13)) : ∀ x, x ∈ (b :: t).take (chr (b :: t)) → ¬ (x = 10 ∨ x = 13) := by
  intro x hx
  by_cases h1 : b.toNat < 128
  · have e : chr (b :: t) = 1 := by simp [chr, h1]
    rw [e] at hx
    simp at hx
    rw [hx]
    exact hb
  · by_cases hf : (follow b).1 = 0
    · have e : chr (b :: t) = 0 := by simp [chr, h1, hf]
      rw [e] at hx
      simp at hx
    · by_cases ho : okTail (follow b).1 (follow b).2.1 (follow b).2.2 t = true
      · have e : chr (b :: t) = (follow b).1 + 1 := by simp [chr, h1, hf, ho]
        rw [e, List.take_succ_cons] at hx
        rcases List.mem_cons.mp hx with rfl | hx
        · exact hb
        · exact okTail_high _ _ _ _ (follow_low b hf) ho x hx
      · have e : chr (b :: t) = 0 := by simp [chr, h1, hf, ho]
        rw [e] at hx
        simp at hx
/-- The rest of a comment: it ends ahead of the end of a line, or at the text's end. -/
theorem dCom_gap (l : List UInt8) (i : Nat) : ∀ r k, dCom l i = .ok r k → ∃ n, n ≤ l.length ∧ k = i + n ∧ r = l.drop n ∧ (∀ x, x ∈ l.take n → ¬ (x = 10 ∨ x = 13)) ∧ (∀ b t, r = b :: t → b = 10 ∨ b = 13) := by
  induction hn : l.length using Nat.strongRecOn generalizing l i with
  | _ n ih =>
    intro r k h
    cases l with
    | nil =>
      rw [dCom] at h
      simp at h
      refine ⟨0, by simp, by omega, by simp [h.1], by simp, ?_⟩
      intro b t e
      rw [h.1] at e
      simp at e
    | cons b t =>
      rw [dCom] at h
      by_cases hb : b = 10 ∨ b = 13
      · rw [if_pos hb] at h
        simp at h
        refine ⟨0, by simp, by omega, by simp [h.1], by simp, ?_⟩
        intro c s e
        rw [← h.1] at e
        rw [← (List.cons.inj e).1]
        exact hb
      · rw [if_neg hb] at h
        by_cases hc : ctl b = true
        · simp [hc] at h
        · by_cases h0 : chr (b :: t) = 0
          · simp [hc, h0] at h
          · simp only [hc, h0, if_false, Bool.false_eq_true, dite_false] at h
            have hl := chr_le (b :: t)
            obtain ⟨m, e1, e2, e3, e4, e5⟩ := ih _ (by simp at *; omega) _ _ rfl r k h
            rw [List.length_drop] at e1
            refine ⟨chr (b :: t) + m, by omega, by omega, by rw [e3, List.drop_drop], ?_, e5⟩
            intro x hx
            rw [List.take_add] at hx
            rcases List.mem_append.mp hx with hx | hx
            · exact chr_high b t hb x hx
            · exact e4 x hx
theorem dCom_err (l : List UInt8) (i : Nat) : ∀ e p, dCom l i = .err e p → e ≠ 0 ∧ i ≤ p ∧ p ≤ i + l.length := by
  induction hn : l.length using Nat.strongRecOn generalizing l i with
  | _ n ih =>
    intro e p h
    cases l with
    | nil => rw [dCom] at h; simp at h
    | cons b t =>
      rw [dCom] at h
      by_cases hb : b = 10 ∨ b = 13
      · simp [hb] at h
      · rw [if_neg hb] at h
        by_cases hc : ctl b = true
        · simp [hc] at h
          omega
        · by_cases h0 : chr (b :: t) = 0
          · simp [hc, h0] at h
            omega
          · simp only [hc, h0, if_false, Bool.false_eq_true, dite_false] at h
            have hl := chr_le (b :: t)
            have := ih _ (by simp at *; omega) _ _ rfl e p h
            simp at hn hl this
            omega
theorem white_is {b : UInt8} (hw : white b = true) : b = 9 ∨ b = 10 ∨ b = 13 ∨ b = 32 := by
  have hb : b.toNat = 9 ∨ b.toNat = 10 ∨ b.toNat = 13 ∨ b.toNat = 32 := by unfold white at hw; exact of_decide_eq_true hw
  rcases hb with h | h | h | h
  · exact .inl (UInt8.toNat_inj.1 (by simpa using h))
  · exact .inr (.inl (UInt8.toNat_inj.1 (by simpa using h)))
  · exact .inr (.inr (.inl (UInt8.toNat_inj.1 (by simpa using h))))
  · exact .inr (.inr (.inr (UInt8.toNat_inj.1 (by simpa using h))))
theorem gapB_white {b : UInt8} (hw : white b = true) (s : List UInt8) : gapB false (b :: s) = gapB false s := by
  rcases white_is hw with rfl | rfl | rfl | rfl <;> simp [gapB]
theorem gapB_nl {b : UInt8} (h : b = 10 ∨ b = 13) (s : List UInt8) (f : Bool) : gapB f (b :: s) = gapB false s := by
  rw [gapB, if_pos h]
theorem dSkip_gap (l : List UInt8) (i : Nat) : ∀ r k, dSkip l i = .ok r k → ∃ n, n ≤ l.length ∧ k = i + n ∧ r = l.drop n ∧ gapB false (l.take n) = true := by
  induction hn : l.length using Nat.strongRecOn generalizing l i with
  | _ n ih =>
    intro r k h
    cases l with
    | nil =>
      rw [dSkip] at h
      simp at h
      exact ⟨0, by simp, by omega, by simp [h.1], rfl⟩
    | cons b t =>
      rw [dSkip.eq_def] at h
      by_cases hw : white b = true
      · simp only [hw, if_true] at h
        obtain ⟨m, e1, e2, e3, e4⟩ := ih _ (by simp at hn; omega) t (i + 1) rfl r k h
        exact ⟨m + 1, by simp at hn; omega, by omega, by rw [e3]; rfl, by rw [List.take_succ_cons, gapB_white hw, e4]⟩
      · by_cases h59 : b = 59
        · subst h59
          simp only [hw, if_false, if_true, Bool.false_eq_true] at h
          rcases hc : dCom t (i + 1) with ⟨r', k'⟩ | ⟨e, p⟩
          · rw [hc] at h
            have hlen := dCom_len _ _ _ _ hc
            obtain ⟨m, e1, e2, e3, e4, e5⟩ := dCom_gap _ _ _ _ hc
            have h : dSkip r' k' = .ok r k := h
            obtain ⟨m', f1, f2, f3, f4⟩ := ih _ (by simp at hn; omega) r' k' rfl r k h
            have hl' : r'.length = t.length - m := by rw [e3, List.length_drop]
            refine ⟨m + m' + 1, by simp at hn; omega, by omega, by rw [f3, e3, List.drop_succ_cons, List.drop_drop], ?_⟩
            rw [List.take_succ_cons, List.take_add, ← e3]
            have g1 : ∀ s, gapB false (59 :: s) = gapB true s := by intro s; simp [gapB]
            rw [g1, gapB_in _ _ e4]
            cases r' with
            | nil => simp [gapB]
            | cons c s =>
              cases m' with
              | zero => simp [gapB]
              | succ m' =>
                rw [List.take_succ_cons] at f4 ⊢
                rw [gapB_nl (e5 c s rfl)] at f4 ⊢
                exact f4
          · rw [hc] at h
            simp at h
        · simp only [hw, h59, if_false, Bool.false_eq_true] at h
          simp at h
          exact ⟨0, by simp, by omega, by simp [h.1], rfl⟩
theorem dSkip_err (l : List UInt8) (i : Nat) : ∀ e p, dSkip l i = .err e p → e ≠ 0 ∧ i ≤ p ∧ p ≤ i + l.length := by
  induction hn : l.length using Nat.strongRecOn generalizing l i with
  | _ n ih =>
    intro e p h
    cases l with
    | nil => rw [dSkip] at h; simp at h
    | cons b t =>
      rw [dSkip.eq_def] at h
      by_cases hw : white b = true
      · simp only [hw, if_true] at h
        have := ih _ (by simp at hn; omega) t (i + 1) rfl e p h
        simp at hn
        omega
      · by_cases h59 : b = 59
        · subst h59
          simp only [hw, if_false, if_true, Bool.false_eq_true] at h
          rcases hc : dCom t (i + 1) with ⟨r', k'⟩ | ⟨e', p'⟩
          · rw [hc] at h
            have hlen := dCom_len _ _ _ _ hc
            obtain ⟨m, e1, e2, e3, e4, e5⟩ := dCom_gap _ _ _ _ hc
            have h : dSkip r' k' = .err e p := h
            have := ih _ (by simp at hn; omega) r' k' rfl e p h
            have hl' : r'.length = t.length - m := by rw [e3, List.length_drop]
            simp at hn
            omega
          · rw [hc] at h
            simp at h
            have := dCom_err _ _ _ _ hc
            simp at hn
            omega
        · simp [hw, h59] at h
/-- The tokens, the error e and its place p, of the bytes l, of which the first stands at i. -/
def Stands : List Tok → List UInt8 → Nat → Nat → Nat → Prop
  | [], l, i, e, p => (e = 0 ∧ p = 0 ∧ gapB false l = true) ∨ (e ≠ 0 ∧ i ≤ p ∧ p ≤ i + l.length)
  | t :: ts, l, i, e, p => ∃ n m, 0 < m ∧ n + m ≤ l.length ∧ t.beg = i + n ∧ t.fin = i + n + m ∧ gapB false (l.take n) = true ∧
      run res .idle ((l.drop n).take m) 0 = ([⟨t.kind, 0, m, t.text⟩], 0, 0) ∧ Stands ts (l.drop (n + m)) (i + n + m) e p
theorem shO_one (k : Nat) (t : Tok) (hb : t.beg = k) (m : Nat) (hf : t.fin = k + m) (o : Out) (h : shO k o = ([t], 0, 0)) : o = ([⟨t.kind, 0, m, t.text⟩], 0, 0) ∨ o.2.2 ≠ 0 := by
  obtain ⟨ts, e, p⟩ := o
  by_cases hp : p = 0
  · left
    simp only [shO, Prod.mk.injEq] at h
    obtain ⟨h1, h2, h3⟩ := h
    subst h2 hp
    rcases ts with _ | ⟨t', _ | ⟨t'', ts⟩⟩
    · simp at h1
    · simp only [List.map_cons, List.map_nil, List.cons.injEq, and_true] at h1
      subst h1
      obtain ⟨k', b', f', x'⟩ := t'
      simp only [shT] at hb hf ⊢
      have : b' = 0 := by omega
      have : f' = m := by omega
      subst_vars
      rfl
    · simp at h1
  · right
    exact hp
/-- An answer without an error has the place 0. -/
theorem run_place : ∀ (l : List UInt8) (q : St) (i : Nat), (run res q l i).2.1 = 0 → (run res q l i).2.2 = 0
  | [], q, i, h => by
    have h : (stop res q i).2.1 = 0 := h
    show (stop res q i).2.2 = 0
    rcases q with _ | ⟨k, g, a⟩ | g | ⟨g, a⟩ | ⟨g, a⟩ | g | ⟨k, m, g, a⟩ | ⟨k, m, g, a⟩ | ⟨g, a⟩ | (_ | ⟨g, a⟩ | ⟨g, a⟩) | ⟨c, s, k, lo, hi⟩ <;> first | rfl | (simp [stop] at h)
  | c :: t, q, i, h => by
    have hg := step_good res q c i
    rcases hs : step res q c i with ⟨ts, q'⟩ | ⟨ts, e, p⟩
    · have e1 : run res q (c :: t) i = pre ts (run res q' t (i + 1)) := run_go res hs
      rw [e1] at h ⊢
      exact run_place t q' (i + 1) h
    · exfalso
      rw [hs] at hg
      rw [run_err res hs] at h
      exact hg h
theorem run_stands (l : List UInt8) (i : Nat) : Stands res (run res .idle l i).1 l i (run res .idle l i).2.1 (run res .idle l i).2.2 := by
  induction hn : l.length using Nat.strongRecOn generalizing l i with
  | _ N ih =>
    rw [run_doc]
    rcases hs : dSkip l i with ⟨r, k⟩ | ⟨e, p⟩
    · obtain ⟨n, e1, e2, e3, e4⟩ := dSkip_gap l i r k hs
      cases r with
      | nil =>
        left
        have : l.length ≤ n := by
          have := congrArg List.length e3
          simp at this
          omega
        rw [List.take_of_length_le this] at e4
        exact ⟨rfl, rfl, e4⟩
      | cons b t =>
        obtain ⟨w1, w2⟩ := dSkip_head l i b t k hs
        have hlen : t.length + 1 = l.length - n := by
          have := congrArg List.length e3
          simpa using this
        show Stands res ((dOne res b t k).out res).1 l i ((dOne res b t k).out res).2.1 ((dOne res b t k).out res).2.2
        rcases ho : dOne res b t k with ⟨tk, r'⟩ | ⟨e, p⟩
        · obtain ⟨c1, m, c2, c3, c4, c5⟩ := dOne_cut res b t k tk r' ho
          have c5 : dOne res b (t.take m) k = DR.tok tk [] := c5
          show Stands res (tk :: (run res .idle r' tk.fin).1) l i (run res .idle r' tk.fin).2.1 (run res .idle r' tk.fin).2.2
          have d1 : l.drop (n + (m + 1)) = r' := by
            rw [← List.drop_drop, ← e3, List.drop_succ_cons, c4]
          have d2 : tk.fin = i + n + (m + 1) := by omega
          refine ⟨n, m + 1, by omega, by omega, by omega, d2, e4, ?_, ?_⟩
          · rw [← e3, List.take_succ_cons]
            have x1 : run res .idle (b :: t.take m) k = ([tk], 0, 0) := by
              rw [run_one res b (t.take m) k w1 w2, c5]
              show pre [tk] (run res .idle [] tk.fin) = _
              rfl
            have x2 := run_sh res k (b :: t.take m) .idle 0
            rw [Nat.zero_add] at x2
            have x3 : shO k (run res .idle (b :: t.take m) 0) = ([tk], 0, 0) := by rw [← x2]; exact x1
            rcases shO_one k tk c1 (m + 1) (by omega) _ x3 with h | h
            · exact h
            · exfalso
              apply h
              apply run_place
              have := congrArg (fun o : Out => o.2.1) x3
              exact this
          · rw [d1, d2]
            exact ih _ (by rw [← d1, List.length_drop]; omega) r' _ rfl
        · right
          have := dOne_err res b t k e p ho
          show e ≠ 0 ∧ i ≤ p ∧ p ≤ i + l.length
          omega
    · right
      have := dSkip_err l i e p hs
      show e ≠ 0 ∧ i ≤ p ∧ p ≤ i + l.length
      omega
/- A text in pieces. -/
/-- What a piece tells, and the state behind it, or the error and its place. -/
def feed : St → List UInt8 → Nat → List Tok × (St ⊕ (Nat × Nat))
  | q, [], _ => ([], .inl q)
  | q, b :: t, i =>
    match step res q b i with
    | .inl (ts, q') => (ts ++ (feed q' t (i + 1)).1, (feed q' t (i + 1)).2)
    | .inr (ts, e, p) => (ts, .inr (e, p))
theorem feed_go {q q' : St} {b : UInt8} {t : List UInt8} {i : Nat} {ts : List Tok} (h : step res q b i = .inl (ts, q')) : feed res q (b :: t) i = (ts ++ (feed res q' t (i + 1)).1, (feed res q' t (i + 1)).2) := by
  rw [feed, h]
theorem feed_err {q : St} {b : UInt8} {t : List UInt8} {i e p : Nat} {ts : List Tok} (h : step res q b i = .inr (ts, e, p)) : feed res q (b :: t) i = (ts, .inr (e, p)) := by
  rw [feed, h]
theorem run_append (s : List UInt8) : ∀ (l : List UInt8) (q : St) (i : Nat), run res q (l ++ s) i = match (feed res q l i).2 with
    | .inl q' => pre (feed res q l i).1 (run res q' s (i + l.length))
    | .inr (e, p) => ((feed res q l i).1, e, p)
  | [], q, i => rfl
  | b :: t, q, i => by
    rcases hs : step res q b i with ⟨ts, q'⟩ | ⟨ts, e, p⟩
    · rw [List.cons_append, run_go res hs, feed_go res hs, run_append s t q' (i + 1)]
      rcases (feed res q' t (i + 1)).2 with q'' | ⟨e, p⟩
      · show pre ts (pre _ _) = pre _ _
        rw [pre_pre, show i + 1 + t.length = i + (b :: t).length from by simp; omega]
      · rfl
    · rw [List.cons_append, run_err res hs, feed_err res hs]
/-- Is the token told with its own last byte? -/
def now (s : List UInt8) (t : Tok) : Prop := t.kind = 1 ∨ t.kind = 2 ∨ s[t.beg]? = some 124
def InvC (s : List UInt8) : Cont → Prop
  | .inl () => True
  | .inr (.inl (g, _)) => s[g]? ≠ some 124
  | .inr (.inr (g, _)) => s[g]? = some 124
def Inv (s : List UInt8) : St → Prop
  | .inl () => True
  | .inr (.inl (k, g, _)) => k ≠ 1 ∧ k ≠ 2 ∧ s[g]? ≠ some 124
  | .inr (.inr (.inl g)) => s[g]? ≠ some 124
  | .inr (.inr (.inr (.inl (g, _)))) => s[g]? ≠ some 124
  | .inr (.inr (.inr (.inr (.inl (g, _))))) => s[g]? ≠ some 124
  | .inr (.inr (.inr (.inr (.inr (.inl g))))) => s[g]? ≠ some 124
  | .inr (.inr (.inr (.inr (.inr (.inr (.inl (k, _, g, _))))))) => k ≠ 1 ∧ k ≠ 2 ∧ s[g]? ≠ some 124
  | .inr (.inr (.inr (.inr (.inr (.inr (.inr (.inl (k, _, g, _)))))))) => k ≠ 1 ∧ k ≠ 2 ∧ s[g]? ≠ some 124
  | .inr (.inr (.inr (.inr (.inr (.inr (.inr (.inr (.inl (g, _))))))))) => s[g]? ≠ some 124
  | .inr (.inr (.inr (.inr (.inr (.inr (.inr (.inr (.inr (.inl c))))))))) => InvC s c
  | .inr (.inr (.inr (.inr (.inr (.inr (.inr (.inr (.inr (.inr (c, _, _, _, _)))))))))) => InvC s c
/-- A token that the byte at i tells: it ends ahead of the byte, or with it. -/
def Told (s : List UInt8) (i : Nat) (t : Tok) : Prop := (t.fin = i ∧ ¬ now s t) ∨ (t.fin = i + 1 ∧ now s t)
def Res.fits (s : List UInt8) (i : Nat) : Res → Prop
  | .inl (ts, q) => Inv s q ∧ ∀ t, t ∈ ts → Told s i t
  | .inr (ts, _, _) => ∀ t, t ∈ ts → Told s i t
theorem fits_pre (s : List UInt8) (i : Nat) (ts : List Tok) (r : Res) (h : ∀ t, t ∈ ts → Told s i t) (hr : r.fits s i) : (r.pre ts).fits s i := by
  rcases r with ⟨a, q⟩ | ⟨a, e, p⟩
  · refine ⟨hr.1, ?_⟩
    intro t ht
    rcases List.mem_append.mp ht with ht | ht
    · exact h t ht
    · exact hr.2 t ht
  · intro t ht
    rcases List.mem_append.mp ht with ht | ht
    · exact h t ht
    · exact hr t ht
theorem tok_not_now (s : List UInt8) (k g i : Nat) (a : List UInt8) (h1 : k ≠ 1) (h2 : k ≠ 2) (hg : s[g]? ≠ some 124) : ¬ now s (tok res k g i a) := by
  rintro (h | h | h)
  · simp only [tok, word] at h
    split at h <;> omega
  · simp only [tok, word] at h
    split at h <;> omega
  · exact hg h
theorem tok_told (s : List UInt8) (k g i : Nat) (a : List UInt8) (h1 : k ≠ 1) (h2 : k ≠ 2) (hg : s[g]? ≠ some 124) : ∀ t, t ∈ [tok res k g i a] → Told s i t := by
  intro t ht
  rw [List.mem_singleton] at ht
  subst ht
  exact .inl ⟨rfl, tok_not_now res s k g i a h1 h2 hg⟩
theorem fits_nil {s : List UInt8} {i : Nat} {q : St} (h : Inv s q) : Res.fits s i (.go [] q) := ⟨h, by intro t ht; simp at ht⟩
theorem fits_err {s : List UInt8} {i e p : Nat} : Res.fits s i (.err [] e p) := by intro t ht; simp at ht
theorem stepIdle_fits (s : List UInt8) (b : UInt8) (i : Nat) (hb : s[i]? = some b) : (stepIdle b i).fits s i := by
  have ne : b ≠ 124 → s[i]? ≠ some 124 := by
    intro h h'
    rw [hb] at h'
    exact h (Option.some.inj h')
  unfold stepIdle
  by_cases h0 : 128 ≤ b.toNat
  · rw [if_pos h0]; exact fits_err
  rw [if_neg h0]
  by_cases h1 : dig b = true
  · have n : b ≠ 124 := by rintro rfl; exact absurd h1 (by decide)
    rw [if_pos h1]
    by_cases h48 : b = 48
    · rw [if_pos h48]; exact fits_nil (ne n)
    · rw [if_neg h48]; exact fits_nil (ne n)
  rw [if_neg h1]
  by_cases h2 : sym b = true
  · have n : b ≠ 124 := by rintro rfl; exact absurd h2 (by decide)
    rw [if_pos h2]; exact fits_nil ⟨by decide, by decide, ne n⟩
  rw [if_neg h2]
  by_cases h3 : white b = true
  · rw [if_pos h3]; exact fits_nil trivial
  rw [if_neg h3]
  by_cases h4 : b = 40
  · rw [if_pos h4]
    refine ⟨trivial, ?_⟩
    intro t ht
    rw [List.mem_singleton] at ht
    subst ht
    exact .inr ⟨rfl, .inl rfl⟩
  rw [if_neg h4]
  by_cases h5 : b = 41
  · rw [if_pos h5]
    refine ⟨trivial, ?_⟩
    intro t ht
    rw [List.mem_singleton] at ht
    subst ht
    exact .inr ⟨rfl, .inr (.inl rfl)⟩
  rw [if_neg h5]
  by_cases h6 : b = 34
  · rw [if_pos h6]; exact fits_nil (ne (by rw [h6]; decide))
  rw [if_neg h6]
  by_cases h7 : b = 124
  · rw [if_pos h7]; exact fits_nil (by show s[i]? = some 124; rw [hb, h7])
  rw [if_neg h7]
  by_cases h8 : b = 58
  · rw [if_pos h8]; exact fits_nil (ne h7)
  rw [if_neg h8]
  by_cases h9 : b = 35
  · rw [if_pos h9]; exact fits_nil (ne h7)
  rw [if_neg h9]
  by_cases h10 : b = 59
  · rw [if_pos h10]; exact fits_nil trivial
  rw [if_neg h10]
  exact fits_err
theorem behindNumber_fits (s : List UInt8) (k g : Nat) (a : List UInt8) (b : UInt8) (i : Nat) (hb : s[i]? = some b) (h1 : k ≠ 1) (h2 : k ≠ 2) (hg : s[g]? ≠ some 124) : (behindNumber res k g a b i).fits s i := by
  unfold behindNumber
  split
  · exact fits_err
  · exact fits_pre _ _ _ _ (tok_told res s k g i a h1 h2 hg) (stepIdle_fits s b i hb)
theorem stepZero_fits (s : List UInt8) (g : Nat) (a : List UInt8) (b : UInt8) (i : Nat) (hb : s[i]? = some b) (hg : s[g]? ≠ some 124) : (stepZero res g a b i).fits s i := by
  unfold stepZero
  split
  · exact fits_nil ⟨by decide, by decide, hg⟩
  · exact behindNumber_fits res s 5 g a b i hb (by decide) (by decide) hg
theorem keepC_inv (s : List UInt8) (c : Cont) (b : UInt8) (h : InvC s c) : InvC s (keepC c b) := by
  rcases c with _ | ⟨g, a⟩ | ⟨g, a⟩ <;> exact h
theorem content_fits (s : List UInt8) (c : Cont) (b : UInt8) (i : Nat) (h : InvC s c) : (content c b i).fits s i := by
  unfold content
  repeat' split
  · exact fits_err
  · exact fits_nil (keepC_inv s c b h)
  · exact fits_err
  · exact fits_nil (keepC_inv s c b h)
theorem step_fits (s : List UInt8) (q : St) (b : UInt8) (i : Nat) (hb : s[i]? = some b) (h : Inv s q) : (step res q b i).fits s i := by
  rcases q with _ | ⟨k, g, a⟩ | g | ⟨g, a⟩ | ⟨g, a⟩ | g | ⟨k, m, g, a⟩ | ⟨k, m, g, a⟩ | ⟨g, a⟩ | c | ⟨c, p, n, lo, hi⟩
  · exact stepIdle_fits s b i hb
  · show Res.fits s i (if sym b then _ else _)
    split
    · exact fits_nil h
    · exact fits_pre _ _ _ _ (tok_told res s k g i a h.1 h.2.1 h.2.2) (stepIdle_fits s b i hb)
  · show Res.fits s i (if _ then _ else _)
    split
    · exact fits_nil ⟨by decide, by decide, h⟩
    · exact fits_err
  · show Res.fits s i (if dig b then _ else _)
    split
    · exact fits_nil h
    · exact stepZero_fits res s g a b i hb h
  · exact stepZero_fits res s g a b i hb h
  · show Res.fits s i (if b = 120 then _ else if b = 98 then _ else _)
    repeat' split
    · exact fits_nil ⟨by decide, by decide, h⟩
    · exact fits_nil ⟨by decide, by decide, h⟩
    · exact fits_err
  · show Res.fits s i (if inMost m b then _ else _)
    split
    · exact fits_nil h
    · exact fits_err
  · show Res.fits s i (if inMost m b then _ else _)
    split
    · exact fits_nil h
    · exact behindNumber_fits res s k g a b i hb h.1 h.2.1 h.2.2
  · show Res.fits s i (if b = 34 then _ else _)
    split
    · exact fits_nil h
    · exact fits_pre _ _ _ _ (tok_told res s 9 g i a (by decide) (by decide) h) (stepIdle_fits s b i hb)
  · rcases c with _ | ⟨g, a⟩ | ⟨g, a⟩
    · show Res.fits s i (if _ then _ else _)
      split
      · exact fits_nil trivial
      · exact content_fits s _ b i trivial
    · show Res.fits s i (if _ then _ else _)
      split
      · exact fits_nil h
      · exact content_fits s (.str g a) b i h
    · show Res.fits s i (if b = 124 then _ else if b = 92 then _ else _)
      repeat' split
      · refine ⟨trivial, ?_⟩
        intro t ht
        rw [List.mem_singleton] at ht
        subst ht
        exact .inr ⟨rfl, .inr (.inr h)⟩
      · exact fits_err
      · exact content_fits s (.bars g a) b i h
  · show Res.fits s i (if _ then _ else if n = 1 then _ else _)
    repeat' split
    · exact fits_err
    · exact fits_nil (keepC_inv s c b h)
    · exact fits_nil (keepC_inv s c b h)
theorem stop_fits (s : List UInt8) (q : St) (i : Nat) (h : Inv s q) : ∀ t, t ∈ (stop res q i).1 → t.fin = i ∧ ¬ now s t := by
  intro t ht
  rcases q with _ | ⟨k, g, a⟩ | g | ⟨g, a⟩ | ⟨g, a⟩ | g | ⟨k, m, g, a⟩ | ⟨k, m, g, a⟩ | ⟨g, a⟩ | (_ | ⟨g, a⟩ | ⟨g, a⟩) | ⟨c, p, n, lo, hi⟩
  · simp [stop] at ht
  · rw [List.mem_singleton.mp ht]
    exact ⟨rfl, tok_not_now res s k g i a h.1 h.2.1 h.2.2⟩
  · simp [stop] at ht
  · rw [List.mem_singleton.mp ht]
    exact ⟨rfl, tok_not_now res s 5 g i a (by decide) (by decide) h⟩
  · rw [List.mem_singleton.mp ht]
    exact ⟨rfl, tok_not_now res s 5 g i a (by decide) (by decide) h⟩
  · simp [stop] at ht
  · simp [stop] at ht
  · rw [List.mem_singleton.mp ht]
    exact ⟨rfl, tok_not_now res s k g i a h.1 h.2.1 h.2.2⟩
  · rw [List.mem_singleton.mp ht]
    exact ⟨rfl, tok_not_now res s 9 g i a (by decide) (by decide) h⟩
  all_goals simp [stop] at ht
/-- Behind a place, tokens are told that end behind it, or there, if they are not told with their last byte. -/
theorem run_fits (s : List UInt8) : ∀ (l : List UInt8) (q : St) (i : Nat), s.drop i = l → Inv s q → ∀ t, t ∈ (run res q l i).1 → i < t.fin ∨ (t.fin = i ∧ ¬ now s t)
  | [], q, i, _, h, t, ht => .inr (stop_fits res s q i h t ht)
  | b :: l, q, i, hl, h, t, ht => by
    have hb : s[i]? = some b := by
      have : (s.drop i)[0]? = some b := by rw [hl]; rfl
      simpa using this
    have hl' : s.drop (i + 1) = l := by
      rw [← List.drop_drop, hl]
      rfl
    have hf := step_fits res s q b i hb h
    rcases hs : step res q b i with ⟨ts, q'⟩ | ⟨ts, e, p⟩
    · rw [hs] at hf
      rw [run_go res hs] at ht
      rcases List.mem_append.mp ht with ht | ht
      · rcases hf.2 t ht with h | h
        · exact .inr h
        · exact .inl (by omega)
      · have := run_fits s l q' (i + 1) hl' hf.1 t ht
        exact .inl (by omega)
    · rw [hs] at hf
      rw [run_err res hs] at ht
      rcases hf t ht with h | h
      · exact .inr h
      · exact .inl (by omega)
/-- A piece tells tokens that end ahead of its end, or there, if they are told with their last byte; and the state behind it is one that fits. -/
theorem feed_fits (s : List UInt8) : ∀ (l r : List UInt8) (q : St) (i : Nat), s.drop i = l ++ r → Inv s q →
    (∀ t, t ∈ (feed res q l i).1 → t.fin < i + l.length ∨ (t.fin = i + l.length ∧ now s t)) ∧ ∀ q', (feed res q l i).2 = .inl q' → Inv s q'
  | [], r, q, i, _, h => by
    refine ⟨by intro t ht; simp [feed] at ht, ?_⟩
    intro q' e
    have e : (Sum.inl q : St ⊕ (Nat × Nat)) = .inl q' := e
    rw [← Sum.inl.inj e]
    exact h
  | b :: l, r, q, i, hl, h => by
    have hb : s[i]? = some b := by
      have : (s.drop i)[0]? = some b := by rw [hl]; rfl
      simpa using this
    have hl' : s.drop (i + 1) = l ++ r := by
      rw [← List.drop_drop, hl]
      rfl
    have hf := step_fits res s q b i hb h
    rcases hs : step res q b i with ⟨ts, q'⟩ | ⟨ts, e, p⟩
    · rw [hs] at hf
      rw [feed_go res hs]
      obtain ⟨g1, g2⟩ := feed_fits s l r q' (i + 1) hl' hf.1
      refine ⟨?_, g2⟩
      intro t ht
      rw [List.length_cons]
      rcases List.mem_append.mp ht with ht | ht
      · rcases hf.2 t ht with h | h
        · exact .inl (by omega)
        · by_cases hz : l.length = 0
          · exact .inr ⟨by omega, h.2⟩
          · exact .inl (by omega)
      · rcases g1 t ht with h | h
        · exact .inl (by omega)
        · exact .inr ⟨by omega, h.2⟩
    · rw [hs] at hf
      rw [feed_err res hs]
      refine ⟨?_, by intro q' e; simp at e⟩
      intro t ht
      rw [List.length_cons]
      rcases hf t ht with h | h
      · exact .inl (by omega)
      · by_cases hz : l.length = 0
        · exact .inr ⟨by omega, h.2⟩
        · exact .inl (by omega)
/-- What the first m bytes of a text tell: just the tokens, from the first on, that are certain then; and behind them come only others. -/
theorem feed_certain (s : List UInt8) (m : Nat) (hm : m ≤ s.length) : ∃ R, (run res .idle s 0).1 = (feed res .idle (s.take m) 0).1 ++ R ∧
    (∀ t, t ∈ (feed res .idle (s.take m) 0).1 → t.fin < m ∨ (t.fin = m ∧ now s t)) ∧ ∀ t, t ∈ R → m < t.fin ∨ (t.fin = m ∧ ¬ now s t) := by
  have hl : (s.take m).length = m := by rw [List.length_take]; omega
  obtain ⟨g1, g2⟩ := feed_fits res s (s.take m) (s.drop m) .idle 0 (by simp) trivial
  rw [hl, Nat.zero_add] at g1
  have ha := run_append res (s.drop m) (s.take m) .idle 0
  rw [List.take_append_drop, hl, Nat.zero_add] at ha
  rcases hq : (feed res .idle (s.take m) 0).2 with q' | ⟨e, p⟩
  · rw [hq] at ha
    refine ⟨(run res q' (s.drop m) m).1, by rw [ha]; rfl, g1, ?_⟩
    exact run_fits res s (s.drop m) q' m rfl (g2 q' hq)
  · rw [hq] at ha
    exact ⟨[], by rw [ha, List.append_nil], g1, by intro t ht; simp at ht⟩
end Go.Proofs.YtjbalgjdcdmjjaaDoor.S
