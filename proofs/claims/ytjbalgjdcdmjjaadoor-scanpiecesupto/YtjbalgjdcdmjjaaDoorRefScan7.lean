/-
  The document's side of scan: numbers.
-/
import Derived.Test.YtjbalgjdcdmjjaaDoorRefScan6
namespace Go.Proofs.YtjbalgjdcdmjjaaDoor
open Go.RowKit
set_option linter.unusedVariables false
set_option maxRecDepth 100000 in
set_option maxHeartbeats 1600000 in
theorem rwhole_calls (w : World) (s : ByteArray) (l : List UInt8) (hs : s.data.toList = l) (hl : l.length ≤ 1073741824) (kd i k : Nat) (hk : k ≤ l.length) (x : List UInt8) :
    Calls Tryd.prog 58 #[.string s, .int .i64 kd, .int .i64 i, .int .i64 k, .string ⟨x.toArray⟩] w fun e w' => e = .returned (oneV (S.dAfter kd i k x (l.drop k))) ∧ Below w.heap.size w w' := by
  have hn := size_of s l hs
  have hz : s.size ≤ 1073741824 := by omega
  by_cases hlt : k < s.size
  · have hll : k < l.length := by omega
    have hb : s[k]'hlt = l.getD k 0 := byteAt s l hs k hlt
    rw [drop_cons l k hll]
    obtain ⟨b, hb2⟩ : ∃ b, l.getD k 0 = b := ⟨_, rfl⟩
    rw [hb2] at hb ⊢
    have q := hide (fun W => rSym_calls W b)
    have hlt1 : (k : Int) < s.size := by omega
    cases hp : S.sym b with
    | true =>
      rw [hp] at q
      rw [show S.dAfter kd i k x (b :: l.drop (k + 1)) = .inr (13, k) from by simp [S.dAfter, hp]]
      clear hp hb2 hs hn hll hl hk
      go_enter Tryd.func58, Tryd.ntmps58
      go_wp2_with (go_at_call 48; refine (q.out _).mono ?_; rintro e w1 ⟨rfl, rfl⟩)
      refine bodyPost_ret (v := .tuple #[.agg #[.int .i64 0, .int .i64 0, .int .i64 0, .string ⟨#[]⟩], .int .i64 13, .int .i64 k]) (by simp [results, Tryd.results58, go_sem]) rfl ?_
      exact ⟨rfl, (Below.refl _ w).alloc (Nat.le_refl _) _⟩
    | false =>
      rw [hp] at q
      rw [show S.dAfter kd i k x (b :: l.drop (k + 1)) = .inl (⟨kd, i, k, x⟩, b :: l.drop (k + 1)) from by simp [S.dAfter, hp]]
      clear hp hb2 hs hn hll hl hk
      go_enter Tryd.func58, Tryd.ntmps58
      go_wp2_with (go_at_call 48; refine (q.out _).mono ?_; rintro e w1 ⟨rfl, rfl⟩)
      refine bodyPost_ret (v := .tuple #[.agg #[.int .i64 kd, .int .i64 i, .int .i64 k, .string ⟨x.toArray⟩], .int .i64 0, .int .i64 0]) (by simp [results, Tryd.results58, go_sem]) rfl ?_
      exact ⟨rfl, (Below.refl _ w).alloc (Nat.le_refl _) _⟩
  · have hlt1 : ¬ (k : Int) < s.size := by omega
    rw [show l.drop k = [] from List.drop_eq_nil_of_le (by omega)]
    rw [show S.dAfter kd i k x [] = .inl (⟨kd, i, k, x⟩, []) from rfl]
    clear hs hn hl hk
    go_enter Tryd.func58, Tryd.ntmps58
    go_wp2
    refine bodyPost_ret (v := .tuple #[.agg #[.int .i64 kd, .int .i64 i, .int .i64 k, .string ⟨x.toArray⟩], .int .i64 0, .int .i64 0]) (by simp [results, Tryd.results58, go_sem]) rfl ?_
    exact ⟨rfl, (Below.refl _ w).alloc (Nat.le_refl _) _⟩
theorem res_cells' {w wr : World} (hB : Below (w.alloc (.cells #[.int .i64 0, .int .i64 0, .int .i64 0, .string ⟨#[]⟩] 66)).heap.size (w.alloc (.cells #[.int .i64 0, .int .i64 0, .int .i64 0, .string ⟨#[]⟩] 66)) wr) :
    wr.cell? ⟨w.heap.size, 0, none⟩ = some (.int .i64 0) ∧ wr.cell? ⟨w.heap.size, 1, none⟩ = some (.int .i64 0) ∧ wr.cell? ⟨w.heap.size, 2, none⟩ = some (.int .i64 0) ∧ wr.cell? ⟨w.heap.size, 3, none⟩ = some (.string ⟨#[]⟩) ∧ ∀ j, wr.frozen? ⟨w.heap.size, j, none⟩ = false :=
  res_cells (hB.mono (by simp))
theorem rwhole_at (w : World) (s : ByteArray) (l : List UInt8) (hs : s.data.toList = l) (hl : l.length ≤ 1073741824) (i k : Nat) (hk : k ≤ l.length) (x : List UInt8) (kd : Int) (kd' : Nat) (hkd : kd = kd') :
    Calls Tryd.prog 58 #[.string s, .int .i64 kd, .int .i64 i, .int .i64 k, .string ⟨x.toArray⟩] w fun e w' => e = .returned (oneV (S.dAfter kd' i k x (l.drop k))) ∧ Below w.heap.size w w' := by
  subst hkd
  exact rwhole_calls w s l hs hl kd' i k hk x
theorem digEnd_at (w : World) (s : ByteArray) (l : List UInt8) (hs : s.data.toList = l) (hl : l.length ≤ 1073741824) (i : Nat) (hi : i ≤ l.length) (n : Int) (hn : n = i) :
    Calls Tryd.prog 59 #[.string s, .int .i64 n] w fun e w' => e = .returned (.int .i64 ((i + (S.front S.dig (l.drop i)).length : Nat) : Int)) ∧ w' = w := by
  subst hn
  exact digEnd_calls w s l hs hl i hi
theorem take_front0 (p : UInt8 → Bool) (l : List UInt8) : l.take (S.front p l).length = S.front p l := by
  have := S.take_front p l 0
  simpa using this
theorem drop_front0 (p : UInt8 → Bool) (l : List UInt8) : l.drop (S.front p l).length = S.rest p l := by
  have := S.drop_front p l 0
  simpa using this
theorem mid_take (l : List UInt8) (i m : Nat) : (l.take (i + m)).drop i = (l.drop i).take m := by
  rw [List.drop_take]
  congr 1
  omega
/-- Where the first digits end. -/
def numK (l : List UInt8) (b : UInt8) (i : Nat) : Nat := if b = 48 then i + 1 else i + (S.front S.dig (l.drop i)).length
theorem num_eq {l : List UInt8} {b : UInt8} {t : List UInt8} {i : Nat} (hd : l.drop i = b :: t) (hb : S.dig b = true) :
    S.dNum b t i = S.dNumTail i ((l.take (numK l b i)).drop i) (l.drop (numK l b i)) ∧ i + ((l.take (numK l b i)).drop i).length = numK l b i ∧ i < numK l b i ∧ numK l b i ≤ l.length := by
  have hlen : i + (t.length + 1) = l.length := by
    have := congrArg List.length hd
    simp at this
    omega
  unfold numK S.dNum
  by_cases h : b = 48
  · subst h
    rw [if_pos rfl, if_pos rfl, mid_take, hd]
    have e2 : l.drop (i + 1) = t := by rw [← List.drop_drop, hd]; rfl
    rw [e2]
    exact ⟨rfl, rfl, by omega, by omega⟩
  · rw [if_neg h, if_neg h, mid_take, take_front0, ← List.drop_drop, drop_front0, hd, front_cons_pos hb]
    have e2 : S.rest S.dig (b :: t) = S.rest S.dig t := by simp [S.rest, hb]
    have hle : (S.front S.dig t).length ≤ t.length := by have := S.front_len S.dig t; omega
    rw [e2]
    exact ⟨rfl, rfl, by simp, by simp; omega⟩
set_option maxRecDepth 100000 in
set_option maxHeartbeats 1600000 in
theorem number_calls' (w : World) (s : ByteArray) (l : List UInt8) (hs : s.data.toList = l) (hl : l.length ≤ 1073741824) (i : Nat) (b : UInt8) (t : List UInt8) (hd : l.drop i = b :: t) (hdig : S.dig b = true) :
    Calls Tryd.prog 46 #[.string s, .int .i64 i] w fun e w' => e = .returned (oneV (S.dNum b t i)) ∧ Below w.heap.size w w' := by
  obtain ⟨e1, e2, e3, e4⟩ := num_eq hd hdig
  have hi : i < l.length := by omega
  have hb0 : l.getD i 0 = b := by
    have := drop_cons l i hi
    rw [hd] at this
    exact (List.cons.inj this).1.symm
  have hn := size_of s l hs
  have hz : s.size ≤ 1073741824 := by omega
  have hi0 : i < s.size := by omega
  have hb : s[i]'hi0 = b := by rw [← hb0]; exact byteAt s l hs i hi0
  have qe := fun W => digEnd_calls W s l hs hl i (by omega)
  rw [e1]
  have hK : Hid (b = 48 → numK l b i = i + 1) := fun h => by unfold numK; rw [if_pos h]
  have hK2 : Hid (b ≠ 48 → i + (S.front S.dig (l.drop i)).length = numK l b i) := fun h => by unfold numK; rw [if_neg h]
  obtain ⟨k, hk⟩ : ∃ k, numK l b i = k := ⟨_, rfl⟩
  rw [hk] at e2 e3 e4 hK hK2 ⊢
  obtain ⟨u, hu⟩ : ∃ u, (l.take k).drop i = u := ⟨_, rfl⟩
  rw [hu] at e2 ⊢
  clear e1 hk hd hb0 hi
  have sm := fun W => run_midL s l hs (i : Int) (k : Int) i k rfl rfl (by omega) (by omega) W
  rw [hu] at sm
  -- what stands behind the first digits
  have key : (S.dNumTail i u (l.drop k) = S.dAfter 5 i k u (l.drop k) ∧ (∀ hlt : k < s.size, s[k]'hlt ≠ 46)) ∨
      (∃ (hlt : k < s.size), s[k]'hlt = 46 ∧ S.front S.dig (l.drop (k + 1)) = [] ∧ S.dNumTail i u (l.drop k) = .inr (12, k + 1)) ∨
      (∃ (hlt : k < s.size) (e : Nat), s[k]'hlt = 46 ∧ e = k + 1 + (S.front S.dig (l.drop (k + 1))).length ∧ k + 1 < e ∧ e ≤ l.length ∧ S.dNumTail i u (l.drop k) = S.dAfter 6 i e ((l.take e).drop i) (l.drop e)) := by
    by_cases hlt : k < s.size
    · have hll : k < l.length := by omega
      have hbk := byteAt s l hs k hlt
      have ed := drop_cons l k hll
      by_cases hc : l.getD k 0 = 46
      · rw [hc] at hbk ed
        by_cases hf : S.front S.dig (l.drop (k + 1)) = []
        · refine .inr (.inl ⟨hlt, hbk, hf, ?_⟩)
          rw [ed]
          simp only [S.dNumTail, if_true, hf]
          rw [show i + u.length + 1 = k + 1 from by omega]
        · have hfl : 0 < (S.front S.dig (l.drop (k + 1))).length := List.length_pos_iff.2 hf
          have hfe := S.front_len S.dig (l.drop (k + 1))
          rw [List.length_drop] at hfe
          refine .inr (.inr ⟨hlt, _, hbk, rfl, by omega, by omega, ?_⟩)
          rw [ed]
          simp only [S.dNumTail, if_true, hf, if_false]
          rw [show i + u.length + 1 = k + 1 from by omega]
          congr 1
          · rw [show k + 1 + (S.front S.dig (l.drop (k + 1))).length = i + (u.length + (1 + (S.front S.dig (l.drop (k + 1))).length)) from by omega, mid_take, List.take_add, List.drop_drop, show i + u.length = k from by omega, ed]
            have hu2 : (l.drop i).take u.length = u := by rw [← mid_take, show i + u.length = k from by omega, hu]
            rw [hu2, Nat.add_comm 1, List.take_succ_cons, take_front0]
          · have h := drop_front0 S.dig (l.drop (k + 1))
            rw [List.drop_drop] at h
            exact h.symm
      · refine .inl ⟨?_, fun _ => by rw [hbk]; exact hc⟩
        rw [ed]
        simp only [S.dNumTail, hc, if_false]
        rw [show i + u.length = k from by omega]
    · refine .inl ⟨?_, fun h => absurd h hlt⟩
      rw [show l.drop k = [] from List.drop_eq_nil_of_le (by omega)]
      simp only [S.dNumTail]
      rw [show i + u.length = k from by omega]
  have qw := hide (fun W (kd : Int) (kd' : Nat) (hkd : kd = kd') k (hk : k ≤ l.length) x => rwhole_at W s l hs hl i k hk x kd kd' hkd)
  have qd := hide (fun W (n : Int) k (hk : k ≤ l.length) (hn : n = k) => digEnd_at W s l hs hl k hk n hn)
  have qe0 := hide qe
  clear qe
  have hs' := hide hs
  have B0 : Hid (Below w.heap.size w (w.alloc (.cells #[.int .i64 0, .int .i64 0, .int .i64 0, .string ⟨#[]⟩] 66))) := (Below.refl _ w).alloc (Nat.le_refl _) _
  have hn2 : l.length = s.size := hn.symm
  have first : (b = 48 ∧ (i : Int) + 1 = k) ∨ (¬ (b.toNat : Int) = 48 ∧ i + (S.front S.dig (l.drop i)).length = k) := by
    by_cases h : b = 48
    · exact .inl ⟨h, by have := hK.out h; omega⟩
    · exact .inr ⟨ne_byte (by decide) h, hK2.out h⟩
  clear hs hn hK hK2 hl e2 hu hdig
  rw [hn2] at e4
  have hik : i + 1 ≤ s.size := by omega
  rcases key with ⟨k1, k2⟩ | ⟨hlt, k1, k2, k3⟩ | ⟨hlt, e, k1, k2, k3, k4, k5⟩
  · rw [k1]
    have q5 := hide (fun W => qw.out W 5 5 rfl k (by rw [hn2]; exact e4) u)
    obtain ⟨R, hR⟩ : ∃ R, S.dAfter 5 i k u (l.drop k) = R := ⟨_, rfl⟩
    rw [hR] at q5 ⊢
    have out : (k < s.size ∧ ∃ c : UInt8, ∃ hlt : k < s.size, s[k]'hlt = c ∧ ¬ (c.toNat : Int) = 46) ∨ s.size ≤ k := by
      by_cases hlt : k < s.size
      · exact .inl ⟨hlt, s[k]'hlt, hlt, rfl, ne_byte (by decide) (k2 hlt)⟩
      · exact .inr (by omega)
    clear k1 k2 hR qw qd
    rcases out with ⟨hlt, c, hlt', hc, hne⟩ | hge
    · have hlt1 : (k : Int) < s.size := by omega
      have hlt2 : ¬ (s.size : Int) ≤ k := by omega
      have hne' : ((c.toNat : Int) != 46) = true := by simpa using hne
      rcases first with ⟨rfl, ek⟩ | ⟨h48, hk⟩
      · go_enter Tryd.func46, Tryd.ntmps46
        go_wp2_with (first
          | (go_at_call 58; refine (q5.out _).mono ?_; rintro e w1 ⟨rfl, b1⟩; have rc := res_cells' b1; obtain ⟨r0, r1, r2, r3, rz⟩ := rc; unfold oneV tkAgg; replace b1 := hide b1))
        refine bodyPost_ret (v := oneV R) (by simp [results, Tryd.results46, go_sem, oneV, tkAgg, r0, r1, r2, r3]) rfl ?_
        exact ⟨rfl, res_below B0.out b1.out _ _ _ _ (by simp)⟩
      · have qe0 := qe0.out
        rw [hk] at qe0
        have qe := hide qe0
        clear qe0 hk
        have QE : Hid True := trivial
        go_enter Tryd.func46, Tryd.ntmps46
        go_wp2_with (first
          | (go_at_call 59; have y := QE; clear y; refine (qe.out _).mono ?_; rintro e w1 ⟨rfl, rfl⟩; clear QE)
          | (go_at_call 58; refine (q5.out _).mono ?_; rintro e w1 ⟨rfl, b1⟩; have rc := res_cells' b1; obtain ⟨r0, r1, r2, r3, rz⟩ := rc; unfold oneV tkAgg; replace b1 := hide b1))
        refine bodyPost_ret (v := oneV R) (by simp [results, Tryd.results46, go_sem, oneV, tkAgg, r0, r1, r2, r3]) rfl ?_
        exact ⟨rfl, res_below B0.out b1.out _ _ _ _ (by simp)⟩
    · have hlt2 : (s.size : Int) ≤ k := by omega
      rcases first with ⟨rfl, ek⟩ | ⟨h48, hk⟩
      · go_enter Tryd.func46, Tryd.ntmps46
        go_wp2_with (first
          | (go_at_call 58; refine (q5.out _).mono ?_; rintro e w1 ⟨rfl, b1⟩; have rc := res_cells' b1; obtain ⟨r0, r1, r2, r3, rz⟩ := rc; unfold oneV tkAgg; replace b1 := hide b1))
        refine bodyPost_ret (v := oneV R) (by simp [results, Tryd.results46, go_sem, oneV, tkAgg, r0, r1, r2, r3]) rfl ?_
        exact ⟨rfl, res_below B0.out b1.out _ _ _ _ (by simp)⟩
      · have qe0 := qe0.out
        rw [hk] at qe0
        have qe := hide qe0
        clear qe0 hk
        have QE : Hid True := trivial
        go_enter Tryd.func46, Tryd.ntmps46
        go_wp2_with (first
          | (go_at_call 59; have y := QE; clear y; refine (qe.out _).mono ?_; rintro e w1 ⟨rfl, rfl⟩; clear QE)
          | (go_at_call 58; refine (q5.out _).mono ?_; rintro e w1 ⟨rfl, b1⟩; have rc := res_cells' b1; obtain ⟨r0, r1, r2, r3, rz⟩ := rc; unfold oneV tkAgg; replace b1 := hide b1))
        refine bodyPost_ret (v := oneV R) (by simp [results, Tryd.results46, go_sem, oneV, tkAgg, r0, r1, r2, r3]) rfl ?_
        exact ⟨rfl, res_below B0.out b1.out _ _ _ _ (by simp)⟩
  · rw [k3]
    have hlt1 : (k : Int) < s.size := by omega
    have hlt2 : ¬ (s.size : Int) ≤ k := by omega
    have hlt3 : decide (s.size ≤ k) = false := by simp; omega
    have qf2 : Hid (∀ W, Calls Tryd.prog 59 #[.string s, .int .i64 ((k : Int) + 1)] W fun e w' => e = .returned (.int .i64 ((k : Int) + 1)) ∧ w' = W) := by
      intro W
      have h := qd.out W ((k : Int) + 1) (k + 1) (by rw [hn2]; exact hlt) (by omega)
      rw [k2] at h
      exact h
    clear qw qd k2 k3
    rcases first with ⟨rfl, ek⟩ | ⟨h48, hk⟩
    · go_enter Tryd.func46, Tryd.ntmps46
      go_wp2_with (first
        | (go_at_call 59; refine (qf2.out _).mono ?_; rintro e w1 ⟨rfl, rfl⟩))
      refine bodyPost_ret (v := .tuple #[.agg #[.int .i64 0, .int .i64 0, .int .i64 0, .string ⟨#[]⟩], .int .i64 12, .int .i64 ((k : Int) + 1)]) (by simp [results, Tryd.results46, go_sem]) rfl ?_
      exact ⟨rfl, (Below.refl _ w).alloc (Nat.le_refl _) _⟩
    · have qe0 := qe0.out
      rw [hk] at qe0
      have qe := hide qe0
      clear qe0 hk
      have QE : Hid True := trivial
      go_enter Tryd.func46, Tryd.ntmps46
      go_wp2_with (first
        | (go_at_call 59; have y := QE; clear y; refine (qe.out _).mono ?_; rintro e w1 ⟨rfl, rfl⟩; clear QE)
        | (go_at_call 59; refine (qf2.out _).mono ?_; rintro e w1 ⟨rfl, rfl⟩))
      refine bodyPost_ret (v := .tuple #[.agg #[.int .i64 0, .int .i64 0, .int .i64 0, .string ⟨#[]⟩], .int .i64 12, .int .i64 ((k : Int) + 1)]) (by simp [results, Tryd.results46, go_sem]) rfl ?_
      exact ⟨rfl, (Below.refl _ w).alloc (Nat.le_refl _) _⟩
  · rw [k5]
    have hlt1 : (k : Int) < s.size := by omega
    have hlt2 : ¬ (s.size : Int) ≤ k := by omega
    have hlt3 : decide (s.size ≤ k) = false := by simp; omega
    have qf2 : Hid (∀ W, Calls Tryd.prog 59 #[.string s, .int .i64 ((k : Int) + 1)] W fun x w' => x = .returned (.int .i64 (e : Int)) ∧ w' = W) := by
      intro W
      have h := qd.out W ((k : Int) + 1) (k + 1) (by rw [hn2]; exact hlt) (by omega)
      rw [← k2] at h
      exact h
    have sm2 := fun W => run_midL s l hs'.out (i : Int) (e : Int) i e rfl rfl (by omega) (by rw [← hn2]; exact k4) W
    have q5 := hide (fun W => qw.out W 6 6 rfl e k4 ((l.take e).drop i))
    obtain ⟨R, hR⟩ : ∃ R, S.dAfter 6 i e ((l.take e).drop i) (l.drop e) = R := ⟨_, rfl⟩
    rw [hR] at q5 ⊢
    generalize (l.take e).drop i = x at q5 sm2
    have k3' : ¬ (e : Int) = (k : Int) + 1 := by omega
    rw [hn2] at k4
    clear qw qd k2 k5 hR sm k3
    rcases first with ⟨rfl, ek⟩ | ⟨h48, hk⟩
    · go_enter Tryd.func46, Tryd.ntmps46
      go_wp2_with (first
        | (go_at_call 59; refine (qf2.out _).mono ?_; rintro e w1 ⟨rfl, rfl⟩)
        | (go_at_call 58; refine (q5.out _).mono ?_; rintro e w1 ⟨rfl, b1⟩; have rc := res_cells' b1; obtain ⟨r0, r1, r2, r3, rz⟩ := rc; unfold oneV tkAgg; replace b1 := hide b1))
      refine bodyPost_ret (v := oneV R) (by simp [results, Tryd.results46, go_sem, oneV, tkAgg, r0, r1, r2, r3]) rfl ?_
      exact ⟨rfl, res_below B0.out b1.out _ _ _ _ (by simp)⟩
    · have qe0 := qe0.out
      rw [hk] at qe0
      have qe := hide qe0
      clear qe0 hk
      have QE : Hid True := trivial
      go_enter Tryd.func46, Tryd.ntmps46
      go_wp2_with (first
        | (go_at_call 59; have y := QE; clear y; refine (qe.out _).mono ?_; rintro e w1 ⟨rfl, rfl⟩; clear QE)
        | (go_at_call 59; refine (qf2.out _).mono ?_; rintro e w1 ⟨rfl, rfl⟩)
        | (go_at_call 58; refine (q5.out _).mono ?_; rintro e w1 ⟨rfl, b1⟩; have rc := res_cells' b1; obtain ⟨r0, r1, r2, r3, rz⟩ := rc; unfold oneV tkAgg; replace b1 := hide b1))
      refine bodyPost_ret (v := oneV R) (by simp [results, Tryd.results46, go_sem, oneV, tkAgg, r0, r1, r2, r3]) rfl ?_
      exact ⟨rfl, res_below B0.out b1.out _ _ _ _ (by simp)⟩
end Go.Proofs.YtjbalgjdcdmjjaaDoor
