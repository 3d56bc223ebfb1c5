/- Laid together of: QuoteMath, Quote1. -/
import Derived.Test.YtackibimlpkcmaaGreatDoorScanModelKz
import Derived.Test.YtackibimlpkcmaaGreatDoorKz3
import Derived.Test.YtackibimlpkcmaaGreatDoorKz18
import Derived.Test.YtackibimlpkcmaaGreatDoorShelf
import Derived.Lib.OthersKept
import Derived.WalkMore
/- ==== QuoteMath ==== -/
namespace Go.Proofs.YtackibimlpkcmaaGreatDoor.S
set_option linter.unusedVariables false
/-- Characters that may stand in a string, and nothing else. -/
def wr (l : List UInt8) : Bool :=
  match l with
  | [] => true
  | b :: t =>
    if ctl b then false
    else if h : chr (b :: t) = 0 then false
    else
      have := so_cut b t _ h
      wr ((b :: t).drop (chr (b :: t)))
theorem wr_nil : wr [] = true := by rw [wr]
theorem wr_ctl {b : UInt8} {t : List UInt8} (h : ctl b = true) : wr (b :: t) = false := by rw [wr, if_pos h]
theorem wr_none {b : UInt8} {t : List UInt8} (h : chr (b :: t) = 0) : wr (b :: t) = false := by
  rw [wr]
  by_cases hc : ctl b = true
  · rw [if_pos hc]
  · rw [if_neg hc, dif_pos h]
theorem wr_on {b : UInt8} {t : List UInt8} (hc : ctl b = false) (h : chr (b :: t) ≠ 0) : wr (b :: t) = wr ((b :: t).drop (chr (b :: t))) := by
  rw [wr, if_neg (by rw [hc]; simp), dif_neg h]
/-- Neither a bar nor a backslash. -/
def nobar (l : List UInt8) : Bool := l.all fun b => b != 124 && b != 92
theorem okTail_bar : ∀ (n lo hi : Nat) (t : List UInt8), 128 ≤ lo → okTail n lo hi (t ++ [124]) = okTail n lo hi t
  | 0, _, _, _, _ => rfl
  | n + 1, lo, hi, [], h => by
    rw [List.nil_append, okTail, okTail]
    simp
    intro h1
    omega
  | n + 1, lo, hi, c :: r, h => by
    rw [List.cons_append, okTail, okTail, okTail_bar n 0x80 0xBF r (by decide)]
theorem chr_cons (b : UInt8) (t : List UInt8) : chr (b :: t) = if b.toNat < 128 then 1 else if (follow b).1 = 0 then 0 else if okTail (follow b).1 (follow b).2.1 (follow b).2.2 t then (follow b).1 + 1 else 0 := rfl
theorem chr_bar (b : UInt8) (t : List UInt8) : chr (b :: (t ++ [124])) = chr (b :: t) := by
  rw [chr_cons, chr_cons]
  by_cases h1 : b.toNat < 128
  · rw [if_pos h1, if_pos h1]
  · rw [if_neg h1, if_neg h1]
    by_cases h2 : (follow b).1 = 0
    · rw [if_pos h2, if_pos h2]
    · rw [if_neg h2, if_neg h2, okTail_bar _ _ _ _ (follow_low b h2)]
theorem okTail_all : ∀ (n lo hi : Nat) (t : List UInt8), 128 ≤ lo → okTail n lo hi t = true → ∀ x, x ∈ t.take n → 128 ≤ x.toNat
  | 0, _, _, _, _, _ => by simp
  | n + 1, lo, hi, [], h, e => by simp [okTail] at e
  | n + 1, lo, hi, c :: r, h, e => by
    rw [okTail, Bool.and_eq_true] at e
    intro x hx
    rw [List.take_succ_cons] at hx
    rcases List.mem_cons.1 hx with rfl | hx
    · have := of_decide_eq_true e.1
      omega
    · exact okTail_all n 0x80 0xBF r (by decide) e.2 x hx
/-- A character's bytes: one below 128, or all from 128 on. -/
theorem chr_bytes (b : UInt8) (t : List UInt8) (h : chr (b :: t) ≠ 0) : (chr (b :: t) = 1 ∧ b.toNat < 128) ∨ ∀ x, x ∈ (b :: t).take (chr (b :: t)) → 128 ≤ x.toNat := by
  rw [chr_cons] at *
  by_cases h1 : b.toNat < 128
  · rw [if_pos h1]
    exact .inl ⟨rfl, h1⟩
  · rw [if_neg h1] at *
    by_cases h2 : (follow b).1 = 0
    · rw [if_pos h2] at h
      exact absurd rfl h
    · rw [if_neg h2] at *
      by_cases h3 : okTail (follow b).1 (follow b).2.1 (follow b).2.2 t = true
      · rw [if_pos h3]
        refine .inr fun x hx => ?_
        rw [List.take_succ_cons] at hx
        rcases List.mem_cons.1 hx with rfl | hx
        · omega
        · exact okTail_all _ _ _ _ (follow_low b h2) h3 x hx
      · rw [if_neg h3] at h
        exact absurd rfl h
theorem nobar_char (b : UInt8) (t : List UInt8) (h : chr (b :: t) ≠ 0) (h1 : b ≠ 124) (h2 : b ≠ 92) : nobar (b :: t) = nobar ((b :: t).drop (chr (b :: t))) := by
  have e : nobar (b :: t) = (nobar ((b :: t).take (chr (b :: t))) && nobar ((b :: t).drop (chr (b :: t)))) := by
    conv => lhs; rw [← List.take_append_drop (chr (b :: t)) (b :: t)]
    unfold nobar
    rw [List.all_append]
  have q : nobar ((b :: t).take (chr (b :: t))) = true := by
    unfold nobar
    rw [List.all_eq_true]
    intro x hx
    rcases chr_bytes b t h with ⟨a, c⟩ | a
    · rw [a] at hx
      simp at hx
      subst hx
      simp [h1, h2]
    · have := a x hx
      have n1 : x ≠ 124 := by rintro rfl; revert this; decide
      have n2 : x ≠ 92 := by rintro rfl; revert this; decide
      simp [n1, n2]
  rw [e, q, Bool.true_and]
theorem ctl_bar : ctl 124 = false := by decide
theorem ctl_slash : ctl 92 = false := by decide
theorem dBars_on (g : Nat) (a : List UInt8) {b : UInt8} {t : List UInt8} (i : Nat) (n1 : b ≠ 124) (n2 : b ≠ 92) (hc : ctl b = false) (h : chr (b :: t) ≠ 0) : dBars g a (b :: t) i = dBars g (a ++ (b :: t).take (chr (b :: t))) ((b :: t).drop (chr (b :: t))) (i + chr (b :: t)) := by
  rw [dBars, if_neg n1, if_neg n2, if_neg (by rw [hc]; simp), dif_neg h]
theorem bars_yes (g : Nat) (a l : List UInt8) (i : Nat) (h : wr l = true) (hn : nobar l = true) : dBars g a (l ++ [124]) i = .tok ⟨3, g, i + l.length + 1, a ++ l⟩ [] := by
  induction hm : l.length using Nat.strongRecOn generalizing a l i with
  | _ n ih =>
    cases l with
    | nil =>
      rw [List.nil_append, dBars, if_pos rfl]
      subst hm
      simp
    | cons b t =>
      have n1 : b ≠ 124 := by rintro rfl; simp [nobar] at hn
      have n2 : b ≠ 92 := by rintro rfl; simp [nobar] at hn
      have hc : ctl b = false := by
        cases hc : ctl b
        · rfl
        · rw [wr_ctl hc] at h
          exact absurd h (by simp)
      have h0 : chr (b :: t) ≠ 0 := by
        intro e
        rw [wr_none e] at h
        exact absurd h (by simp)
      have hle := chr_le (b :: t)
      rw [wr_on hc h0] at h
      rw [nobar_char b t h0 n1 n2] at hn
      rw [List.cons_append, dBars_on g a i n1 n2 hc (by rw [chr_bar]; exact h0)]
      rw [chr_bar, ← List.cons_append, List.take_append_of_le_length hle, List.drop_append_of_le_length hle]
      rw [ih ((b :: t).drop (chr (b :: t))).length (by rw [List.length_drop]; simp at *; omega) _ _ _ h hn rfl, List.append_assoc, List.take_append_drop]
      subst hm
      congr 3
      rw [List.length_drop]
      omega
theorem bars_no (g : Nat) (a l : List UInt8) (i : Nat) (h : ¬ (wr l = true ∧ nobar l = true)) : (∃ e p, dBars g a (l ++ [124]) i = .err e p ∧ e ≠ 0) ∨ ∃ tk r, dBars g a (l ++ [124]) i = .tok tk r ∧ tk.fin ≤ i + l.length := by
  induction hm : l.length using Nat.strongRecOn generalizing a l i with
  | _ n ih =>
    cases l with
    | nil => exact absurd ⟨wr_nil, rfl⟩ h
    | cons b t =>
      rw [List.cons_append]
      by_cases n1 : b = 124
      · rw [dBars, if_pos n1]
        refine .inr ⟨_, _, rfl, ?_⟩
        subst hm
        simp
      · by_cases n2 : b = 92
        · rw [dBars, if_neg n1, if_pos n2]
          exact .inl ⟨_, _, rfl, by decide⟩
        · by_cases hc : ctl b = true
          · rw [dBars, if_neg n1, if_neg n2, if_pos hc]
            exact .inl ⟨_, _, rfl, by decide⟩
          · by_cases h0 : chr (b :: t) = 0
            · rw [dBars, if_neg n1, if_neg n2, if_neg hc, dif_pos (by rw [chr_bar]; exact h0)]
              exact .inl ⟨_, _, rfl, by decide⟩
            · have hle := chr_le (b :: t)
              have hc' : ctl b = false := by simpa using hc
              rw [dBars_on g a i n1 n2 hc' (by rw [chr_bar]; exact h0), chr_bar, ← List.cons_append, List.take_append_of_le_length hle, List.drop_append_of_le_length hle]
              rw [wr_on hc' h0, nobar_char b t h0 n1 n2] at h
              rcases ih ((b :: t).drop (chr (b :: t))).length (by rw [List.length_drop]; simp at *; omega) (a ++ (b :: t).take (chr (b :: t))) _ (i + chr (b :: t)) h rfl with q | ⟨tk, r, q1, q2⟩
              · exact .inl q
              · refine .inr ⟨tk, r, q1, ?_⟩
                rw [List.length_drop] at q2
                omega
/-- A string's marks doubled. -/
def dbl (l : List UInt8) : List UInt8 := l.flatMap fun b => if b = 34 then [34, 34] else [b]
theorem dbl_nil : dbl [] = [] := rfl
theorem dbl_cons (b : UInt8) (t : List UInt8) : dbl (b :: t) = (if b = 34 then [34, 34] else [b]) ++ dbl t := rfl
theorem dbl_append (a b : List UInt8) : dbl (a ++ b) = dbl a ++ dbl b := by simp [dbl]
theorem dbl_len (l : List UInt8) : (dbl l).length ≤ 2 * l.length := by
  induction l with
  | nil => simp [dbl]
  | cons b t ih =>
    rw [dbl_cons, List.length_append, List.length_cons]
    by_cases h : b = 34
    · rw [if_pos h]; simp; omega
    · rw [if_neg h]; simp; omega
theorem dbl_plain (l : List UInt8) (h : ∀ x, x ∈ l → x ≠ 34) : dbl l = l := by
  induction l with
  | nil => rfl
  | cons b t ih =>
    rw [dbl_cons, if_neg (h b List.mem_cons_self), ih (fun x hx => h x (List.mem_cons_of_mem _ hx))]
    rfl
/-- A character's bytes, a mark doubled. -/
theorem dbl_char (b : UInt8) (t : List UInt8) (h : chr (b :: t) ≠ 0) : dbl ((b :: t).take (chr (b :: t))) = (if b = 34 then [34] else []) ++ (b :: t).take (chr (b :: t)) := by
  rcases chr_bytes b t h with ⟨a, c⟩ | a
  · rw [a]
    by_cases h34 : b = 34
    · subst h34
      rfl
    · rw [if_neg h34]
      exact dbl_plain _ (by intro x hx; simp at hx; subst hx; exact h34)
  · have hb : b ≠ 34 := by
      have := a b (by
        obtain ⟨n, hn⟩ : ∃ n, chr (b :: t) = n + 1 := ⟨chr (b :: t) - 1, by omega⟩
        rw [hn, List.take_succ_cons]
        exact List.mem_cons_self)
      rintro rfl
      revert this
      decide
    rw [if_neg hb]
    refine dbl_plain _ fun x hx => ?_
    have := a x hx
    rintro rfl
    revert this
    decide
/-- Could it stand as a symbol without bars? -/
def smp (l : List UInt8) : Bool := match l with | [] => false | b :: t => !dig b && (b :: t).all sym
/-- A symbol's spelling; none: it has none. -/
def quo (res : List UInt8 → Bool) (l : List UInt8) : Option (List UInt8) := if smp l && !res l then some l else if wr l && nobar l then some (124 :: (l ++ [124])) else none
/-- A string's spelling. -/
def lit (l : List UInt8) : Option (List UInt8) := if wr l then some (34 :: (dbl l ++ [34])) else none
end Go.Proofs.YtackibimlpkcmaaGreatDoor.S
/- ==== Quote1 ==== -/
namespace Go.Proofs.YtackibimlpkcmaaGreatDoor
open Go.RowKit
set_option linter.unusedVariables false
theorem qcls_sym (b : UInt8) : (cls b.toNat ≤ 3) = (S.sym b = true) := by
  have h : (List.range 256).all (fun n => decide (decide (cls n ≤ 3) = S.sym (UInt8.ofNat n))) = true := by decide +kernel
  have := of_decide_eq_true (List.all_eq_true.1 h b.toNat (by simpa using b.toNat_lt))
  rw [UInt8.ofNat_toNat] at this
  rw [← this]
  simp
theorem qcls_dig (b : UInt8) : (cls b.toNat ≤ 1) = (S.dig b = true) := by
  have h : (List.range 256).all (fun n => decide (decide (cls n ≤ 1) = S.dig (UInt8.ofNat n))) = true := by decide +kernel
  have := of_decide_eq_true (List.all_eq_true.1 h b.toNat (by simpa using b.toNat_lt))
  rw [UInt8.ofNat_toNat] at this
  rw [← this]
  simp
theorem qcls_ctl (b : UInt8) : (cls b.toNat = 5) = (S.ctl b = true) := by
  have h : (List.range 256).all (fun n => decide (decide (cls n = 5) = S.ctl (UInt8.ofNat n))) = true := by decide +kernel
  have := of_decide_eq_true (List.all_eq_true.1 h b.toNat (by simpa using b.toNat_lt))
  rw [UInt8.ofNat_toNat] at this
  rw [← this]
  simp
theorem all_upto {l : List UInt8} {p : UInt8 → Bool} (k : Nat) (hk : k < l.length) (h : (l.take k).all p = true) (hp : p (l.getD k 0) = true) : (l.take (k + 1)).all p = true := by
  rw [List.take_succ_eq_append_getElem hk, List.all_append, h]
  rw [List.getD_eq_getElem?_getD, List.getElem?_eq_getElem hk] at hp
  simpa using hp
theorem all_not {l : List UInt8} {p : UInt8 → Bool} (k : Nat) (hk : k < l.length) (hp : p (l.getD k 0) = false) : l.all p = false := by
  rw [List.getD_eq_getElem?_getD, List.getElem?_eq_getElem hk] at hp
  cases h : l.all p
  · rfl
  · have := List.all_eq_true.1 h _ (List.getElem_mem hk)
    rw [show p l[k] = false from hp] at this
    exact absurd this (by simp)

theorem str_toList2 (s : ByteArray) : s.toList = s.data.toList := Lib.toList_data s
theorem str_ne4' {T s : ByteArray} (h : T ≠ s) : ¬ T.toList = s.toList ∧ (T.toList == s.toList) = false ∧ ¬ T.data.toList = s.data.toList ∧ ¬ T = s ∧ ¬ s = T := by
  have h3 : ¬ T.data.toList = s.data.toList := fun e => h (by
    cases T with
    | mk a => cases s with
      | mk b => simp at e; rw [e])
  have h2 : ¬ T.toList = s.toList := by rw [str_toList2, str_toList2]; exact h3
  exact ⟨h2, by simpa using h2, h3, h, fun e => h e.symm⟩
set_option maxRecDepth 100000 in
set_option maxHeartbeats 600000 in
theorem simple_calls (w : World) (hc : Cls w) (s : ByteArray) (l : List UInt8) (hs : s.data.toList = l) (hl : l.length ≤ 1073741824) :
    Calls Tryz.prog 41 #[.string s] w fun e w' => e = .returned (.bool (S.smp l)) ∧ w' = w := by
  have hn := size_of s l hs
  have hat := hide (fun (k : Nat) (h : k < s.size) => byteAt s l hs k h)
  obtain ⟨R, hR⟩ : ∃ R, S.smp l = R := ⟨_, rfl⟩
  rw [hR]
  replace hR := hide hR
  have hcH := hide hc
  have hs' := hide hs
  have hnH := hide hn
  have hz : s.size ≤ 1073741824 := by omega
  clear hc hs hn hl
  go_enter Tryz.func41, Tryz.ntmps41
  go_wp2
  go_loop [6] (fun j => ∃ k : Nat, k ≤ s.size ∧ j = .int .i64 k ∧ Hid ((l.take k).all S.sym = true)) (fun j => s.size - (intOf j).toNat)
  case atStart => exact ⟨0, Nat.zero_le _, rfl, rfl⟩
  case round =>
    obtain ⟨k, hk, rfl, hall⟩ := hrel
    by_cases hlt : k < s.size
    · have hkl : k < l.length := by rw [← hnH.out]; exact hlt
      have hb : s[k]'hlt = l.getD k 0 := hat.out k hlt
      obtain ⟨b, hbb⟩ : ∃ b, l.getD k 0 = b := ⟨_, rfl⟩
      rw [hbb] at hb
      have hcc := hcH.out b.toNat b.toNat_lt
      have i1 : (k : Int) < s.size := by omega
      have hy := qcls_sym b
      obtain ⟨cb, hcb⟩ : ∃ n, cls b.toNat = n := ⟨_, rfl⟩
      rw [hcb] at hcc hy
      have hbl : (b.toNat : Int) < 256 := by have := b.toNat_lt; omega
      cases hp : S.sym b with
      | true =>
        have hc3 : ¬ (3 : Int) < cb := by
          rw [hp] at hy
          have : cb ≤ 3 := by rw [hy]
          omega
        have hall2 : Hid ((l.take (k + 1)).all S.sym = true) := all_upto k hkl hall.out (by rw [hbb]; exact hp)
        clear hy hcb hall hbb hp
        go_wp2
        go_round
        case rel => exact ⟨k + 1, by omega, by go_num, hall2⟩
        case measure => simp [intOf]; omega
      | false =>
        have hc3 : (3 : Int) < cb := by
          rw [hp] at hy
          have : ¬ cb ≤ 3 := by rw [hy]; simp
          omega
        have hR2 : Hid (R = false) := by
          rw [← hR.out]
          have := all_not k hkl (p := S.sym) (by rw [hbb]; exact hp)
          cases l with
          | nil => rfl
          | cons x t =>
            show (!S.dig x && (x :: t).all S.sym) = false
            rw [this]
            simp
        clear hy hcb hall hbb hp
        go_wp2
        go_ret
        exact ⟨ret_bool (a := false) hR2.out.symm, rfl⟩
    · have hall2 : l.all S.sym = true := by
        have := hall.out
        rwa [show k = l.length from by have := hnH.out; omega, List.take_length] at this
      by_cases h0 : s.size = 0
      · have hl0 : l = [] := List.length_eq_zero_iff.1 (by rw [← hnH.out]; exact h0)
        have hse : s = ⟨#[]⟩ := by
          have := hs'.out
          rw [hl0] at this
          cases s with
          | mk a => simp at this; rw [this]
        have hR2 : Hid (R = false) := by rw [← hR.out, hl0]; rfl
        have i1 : ¬ (k : Int) < s.size := by omega
        clear hall hall2
        subst hse
        go_wp2
        go_ret
        exact ⟨ret_bool (a := false) hR2.out.symm, rfl⟩
      · have h0' : 0 < s.size := by omega
        have hb : s[0]'h0' = l.getD 0 0 := hat.out 0 h0'
        obtain ⟨b, hbb⟩ : ∃ b, l.getD 0 0 = b := ⟨_, rfl⟩
        rw [hbb] at hb
        have hcc := hcH.out b.toNat b.toNat_lt
        have hy := qcls_dig b
        obtain ⟨cb, hcb⟩ : ∃ n, cls b.toNat = n := ⟨_, rfl⟩
        rw [hcb] at hcc hy
        have hbl : (b.toNat : Int) < 256 := by have := b.toNat_lt; omega
        have hR2 : Hid (R = !S.dig b) := by
          rw [← hR.out]
          cases l with
          | nil => exact absurd hnH.out h0
          | cons x t =>
            have : x = b := hbb
            subst this
            show (!S.dig x && (x :: t).all S.sym) = _
            rw [hall2, Bool.and_true]
        have hne : s ≠ ⟨#[]⟩ := by
          intro e
          rw [e] at h0
          exact h0 rfl
        have n6 : ¬ s.toList = [] := by rw [str_toList2]; intro e; exact h0 (by rw [hnH.out, ← hs'.out, e]; rfl)
        have n7 : (s.toList == []) = false := by simpa using n6
        have n8 : s.toList.isEmpty = false := by simpa using n6
        obtain ⟨n1, n2, n3, n4, n5⟩ := str_ne4' hne
        have i1 : ¬ (k : Int) < s.size := by omega
        have i2 : (0 : Int) < s.size := by omega
        cases hp : S.dig b with
        | true =>
          have hc3 : ¬ (1 : Int) < cb := by
            rw [hp] at hy
            have : cb ≤ 1 := by rw [hy]
            omega
          rw [hp] at hR2
          clear hy hcb hall hbb hp hall2
          go_wp2
          go_ret
          exact ⟨ret_bool (a := false) hR2.out.symm, rfl⟩
        | false =>
          have hc3 : (1 : Int) < cb := by
            rw [hp] at hy
            have : ¬ cb ≤ 1 := by rw [hy]; simp
            omega
          rw [hp] at hR2
          clear hy hcb hall hbb hp hall2
          go_wp2
          go_ret
          exact ⟨ret_bool (a := true) hR2.out.symm, rfl⟩
end Go.Proofs.YtackibimlpkcmaaGreatDoor
