/-
  The document's numbers and literals: IsNumber, Value, AsLiteral.
-/
import Derived.Test.YtkdalejceclanaaRdRefW
namespace Go.Proofs.Ytkdalejceclanaa
open Go.RowKit
set_option linter.unusedVariables false
set_option maxRecDepth 100000 in
set_option maxHeartbeats 8000000 in
theorem isnum_calls (w : World) (s : ByteArray) (l : List UInt8) (hs : s.data.toList = l) (hl : l.length ≤ 140737488355328) :
    Calls Try.prog 48 #[.string s] w fun e w' => e = .returned (.bool (RD.num l)) ∧ w' = w := by
  have hz := hide (size_of s l hs)
  have HL := hide hs
  by_cases h0 : l = []
  · have E : Hid (RD.num l = false) := by show _ = _; rw [h0]; rfl
    obtain rfl := sis (hs.trans h0)
    clear hs hz HL h0
    go_enter Try.func48, Try.ntmps48
    go_wp2
    go_ret
    exact ⟨by rw [E.out]; rfl, rfl⟩
  · obtain ⟨e1, e2, e3, e4, e5⟩ := sno hs h0
    have hpos : 0 < l.length := List.length_pos_iff.2 h0
    have hs0 : 0 < s.size := by have := hz.out; omega
    obtain ⟨e6, e7⟩ := sempty (S := s) (by omega)
    have hb := byteAt s l HL.out 0 hs0
    have zz : (s.size : Int) = (l.length : Int) := by have := hz.out; omega
    have NZ := hide (fun (h : l.getD 0 0 = 48) (h1 : 1 < l.length) => num_zero h h1)
    have NY := hide (fun (h1 : ¬ (l.getD 0 0 = 48 ∧ 1 < l.length)) (h : ∀ k, k < l.length → RD.dig (l.getD k 0) = true) => num_yes h0 h1 h)
    have NN := hide (fun k (hk : k < l.length) (h : RD.dig (l.getD k 0) = false) => num_no hk h)
    generalize RD.num l = R at *
    have k00 : (0 : Int) < (l.length : Int) := by omega
    clear h0 hs
    by_cases c1 : l.getD 0 0 = 48 ∧ 1 < l.length
    · have E := hide (NZ.out c1.1 c1.2)
      have t1 : (((l.getD 0 0).toNat : Int) == 48) = true := by rw [c1.1]; rfl
      have t2 : decide ((1 : Int) < (l.length : Int)) = true := decide_eq_true (by omega)
      have t3 : (1 : Int) < (l.length : Int) := by omega
      generalize l.getD 0 0 = b0 at *
      clear c1 NZ NY NN
      go_enter Try.func48, Try.ntmps48
      go_wp2
      go_ret
      exact ⟨by rw [E.out]; rfl, rfl⟩
    · have c2 := hide c1
      obtain ⟨b0, hb0⟩ : ∃ b0, l.getD 0 0 = b0 := ⟨_, rfl⟩
      rw [hb0] at hb
      go_enter Try.func48, Try.ntmps48
      go_upto_region 1 with fail
      go_cut [15] (fun x wx => x = .bool false ∧ wx = w)
      case first =>
        rw [hb0] at c1
        clear NZ NY NN
        by_cases q : b0 = 48
        · have t1 : ((b0.toNat : Int) == 48) = true := by rw [q]; rfl
          have t2 : decide ((1 : Int) < (l.length : Int)) = false := decide_eq_false (fun h => c1 ⟨q, by omega⟩)
          clear c1 q
          go_wp2
          go_meet
          exact ⟨rfl, rfl⟩
        · have t1 : ((b0.toNat : Int) == 48) = false := u8_ne q
          clear c1 q
          go_wp2
          go_meet
          exact ⟨rfl, rfl⟩
      case rest =>
        obtain ⟨rfl, rfl⟩ := hcut
        clear e1 e2 e3 e4 e5 e6 e7 hb hb0 c1 NZ
        go_wp2_with fail
        go_loop [3] (fun y => ∃ k : Nat, y = .int .i64 (k : Int) ∧ k ≤ l.length ∧ Hid (∀ q, q < k → RD.dig (l.getD q 0) = true)) (fun y => l.length - (intOf y).toNat)
        case atStart => exact ⟨0, rfl, Nat.zero_le _, fun q hq => absurd hq (Nat.not_lt_zero _)⟩
        case round =>
          obtain ⟨k, rfl, hk, HD⟩ := hrel
          by_cases hlt : k < l.length
          · have hks : k < s.size := by have := hz.out; omega
            have hb := byteAt s l HL.out k hks
            have NO := hide (fun h => NN.out k hlt h)
            have DS : Hid (RD.dig (l.getD k 0) = true → ∀ q, q < k + 1 → RD.dig (l.getD q 0) = true) := fun h q hq => by
              rcases Nat.lt_or_ge q k with c | c
              · exact HD.out q c
              · obtain rfl : q = k := by omega
                exact h
            have k0 : (0 : Int) ≤ (k : Int) := by omega
            have k1 : (k : Int) < (l.length : Int) := by omega
            have k3 : (k : Int) < (s.size : Int) := by omega
            generalize l.getD k 0 = b at *
            have DD : Hid (RD.dig b = decide (48 ≤ b.toNat ∧ b.toNat ≤ 57)) := rfl
            by_cases d1 : b.toNat < 48
            · have E := hide (NO.out (DD.out.trans (decide_eq_false (by omega))))
              have t1 : decide ((b.toNat : Int) < 48) = true := decide_eq_true (by omega)
              have t1' : (b.toNat : Int) < 48 := by omega
              clear NO DS HD DD
              go_wp2_with fail
              go_ret
              exact ⟨by rw [E.out]; rfl, rfl⟩
            · by_cases d2 : 57 < b.toNat
              · have E := hide (NO.out (DD.out.trans (decide_eq_false (by omega))))
                have t1 : decide ((b.toNat : Int) < 48) = false := decide_eq_false (by omega)
                have t2 : decide (57 < (b.toNat : Int)) = true := decide_eq_true (by omega)
                clear NO DS HD DD
                go_wp2_with fail
                go_ret
                exact ⟨by rw [E.out]; rfl, rfl⟩
              · have D1 := hide (DS.out (DD.out.trans (decide_eq_true (by omega))))
                have t1 : decide ((b.toNat : Int) < 48) = false := decide_eq_false (by omega)
                have t2 : decide (57 < (b.toNat : Int)) = false := decide_eq_false (by omega)
                clear NO DS HD DD
                go_wp2_with fail
                go_round
                case rel => exact ⟨k + 1, by go_num, by omega, D1⟩
                case measure => simp [intOf]; omega
          · obtain rfl : k = l.length := by omega
            have E := hide (NY.out c2.out HD.out)
            clear hlt hk HD NY NN
            go_wp2
            go_ret
            exact ⟨by rw [E.out]; rfl, rfl⟩
theorem num_digs {l : List UInt8} (h : RD.num l = true) : ∀ b ∈ l, RD.dig b = true := by
  unfold RD.num at h
  simp only [Bool.and_eq_true, List.all_eq_true] at h
  exact h.2
theorem take_small {l : List UInt8} (h : RD.num l = true) {k : Nat} (hk : k ≤ 17) : RD.val (l.take k) < 100000000000000000 := by
  have h1 := RD.val_lt (w := l.take k) (fun b hb => num_digs h b (List.mem_of_mem_take hb))
  have h2 : (l.take k).length ≤ 17 := by rw [List.length_take]; omega
  exact Nat.lt_of_lt_of_le h1 (Nat.le_trans (Nat.pow_le_pow_right (by decide) h2) (by decide))
set_option maxRecDepth 100000 in
set_option maxHeartbeats 8000000 in
theorem value_calls (w : World) (s : ByteArray) (l : List UInt8) (lid : Nat) (hs : s.data.toList = l) (hl : l.length ≤ 140737488355328) (hd : lid < 1000000000000000000) :
    Calls Try.prog 47 #[.string s, .int .i64 (lid : Int)] w fun e w' => e = .returned (.int .i64 (RD.valueOf l lid)) ∧ w' = w := by
  have hz := hide (size_of s l hs)
  have HL := hide hs
  have q := isnum_calls w s l hs hl
  have zz : (s.size : Int) = (l.length : Int) := by have := hz.out; omega
  cases hn : RD.num l
  · rw [hn] at q
    replace q := hide q
    have E : Hid (RD.valueOf l lid = -1) := by show _ = _; unfold RD.valueOf; rw [if_neg (by rw [hn]; simp)]
    clear hn
    generalize RD.valueOf l lid = R at *
    go_enter Try.func47, Try.ntmps47
    go_wp2_with (go_at_call 48; refine q.out.mono ?_; rintro e w2 ⟨rfl, hw2⟩; subst w2)
    go_ret
    exact ⟨by rw [E.out]; rfl, rfl⟩
  · rw [hn] at q
    replace q := hide q
    by_cases h18 : 18 < l.length
    · have E : Hid (RD.valueOf l lid = -1) := RD.value_long hn h18 (Nat.lt_of_lt_of_le hd (by decide))
      have t1 : decide ((18 : Int) < (l.length : Int)) = true := decide_eq_true (by omega)
      clear hn
      generalize RD.valueOf l lid = R at *
      go_enter Try.func47, Try.ntmps47
      go_wp2_with (go_at_call 48; refine q.out.mono ?_; rintro e w2 ⟨rfl, hw2⟩; subst w2)
      go_ret
      exact ⟨by rw [E.out]; rfl, rfl⟩
    · have t1 : decide ((18 : Int) < (l.length : Int)) = false := decide_eq_false (by omega)
      have TS := hide (fun k (hk : k ≤ 17) => take_small hn hk)
      have DG := hide (num_digs hn)
      have V1 : Hid (RD.val l ≤ lid → RD.valueOf l lid = (RD.val l : Int)) := fun h => by unfold RD.valueOf; rw [if_pos ⟨hn, h⟩]
      have V2 : Hid (¬ RD.val l ≤ lid → RD.valueOf l lid = -1) := fun h => by unfold RD.valueOf; rw [if_neg (fun c => h c.2)]
      clear hn
      generalize RD.valueOf l lid = R at *
      go_enter Try.func47, Try.ntmps47
      go_wp2_with (go_at_call 48; refine q.out.mono ?_; rintro e w2 ⟨rfl, hw2⟩; subst w2)
      clear q
      go_loop [5, 6] (fun x y => ∃ k : Nat, x = .int .i64 ((RD.val (l.take k) : Nat) : Int) ∧ y = .int .i64 (k : Int) ∧ k ≤ l.length) (fun _ y => l.length - (intOf y).toNat)
      case atStart => exact ⟨0, rfl, rfl, Nat.zero_le _⟩
      case round =>
        obtain ⟨k, rfl, rfl, hk⟩ := hrel
        by_cases hlt : k < l.length
        · have hks : k < s.size := by have := hz.out; omega
          have hb := byteAt s l HL.out k hks
          have VS := hide (RD.val_next hlt)
          have k0 : (0 : Int) ≤ (k : Int) := by omega
          have k1 : (k : Int) < (l.length : Int) := by omega
          have k3 : (k : Int) < (s.size : Int) := by omega
          have hv := TS.out k (by omega)
          have hdg := of_decide_eq_true (DG.out (l.getD k 0) (by rw [List.getD_eq_getElem?_getD, List.getElem?_eq_getElem hlt]; exact List.getElem_mem hlt))
          generalize l.getD k 0 = b at *
          generalize RD.val (l.take k) = v at *
          have w0 : IntKind.u8.wrap ((b.toNat : Int) - 48) = (b.toNat : Int) - 48 := by rw [IntKind.wrap_u8]; omega
          have w1 : wrap64 ((v : Int) * 10) = (v : Int) * 10 := w64 _ (by omega) (by omega)
          have w2 : wrap64 ((b.toNat : Int) - 48) = (b.toNat : Int) - 48 := w64 _ (by omega) (by omega)
          have w3 : wrap64 ((v : Int) * 10 + ((b.toNat : Int) - 48)) = (v : Int) * 10 + ((b.toNat : Int) - 48) := w64 _ (by omega) (by omega)
          clear hv
          go_wp2_with fail
          go_round
          case rel => exact ⟨k + 1, by rw [VS.out]; exact congrArg (Value.int .i64) (by omega), by go_num, by omega⟩
          case measure => simp [intOf]; omega
        · obtain rfl : k = l.length := by omega
          have hk' : l.take l.length = l := List.take_length
          rw [hk']
          clear hlt hk hk' TS DG
          generalize RD.val l = v at *
          by_cases g : v ≤ lid
          · have E := hide (V1.out g)
            have t2 : ¬ lid < v := by omega
            have t3 : decide (lid < v) = false := decide_eq_false t2
            clear V1 V2
            go_wp2_with fail
            go_ret
            exact ⟨by rw [E.out]; rfl, rfl⟩
          · have E := hide (V2.out g)
            have t2 : lid < v := by omega
            have t3 : decide (lid < v) = true := decide_eq_true t2
            clear V1 V2 g
            go_wp2_with fail
            go_ret
            exact ⟨by rw [E.out]; rfl, rfl⟩
theorem value_cases (l : List UInt8) (lid : Nat) : RD.valueOf l lid = -1 ∨ (RD.valueOf l lid = (RD.val l : Int) ∧ RD.num l = true ∧ RD.val l ≤ lid) := by
  unfold RD.valueOf
  split
  · next h => exact .inr ⟨rfl, h.1, h.2⟩
  · exact .inl rfl
theorem value_no {l : List UInt8} {lid : Nat} (h : RD.valueOf l lid = -1) : ¬ (RD.num l = true ∧ RD.val l ≤ lid) := by
  intro c
  unfold RD.valueOf at h
  rw [if_pos c] at h
  omega
/-- What AsLiteral answers. -/
def asL (l : List UInt8) (vars : Nat) : Int := (RD.lit l vars).getD 0
theorem asL_neg {l : List UInt8} {vars : Nat} (h : l.getD 0 0 = 45) : asL l vars = if RD.valueOf l.tail vars ≤ 0 then 0 else -(RD.valueOf l.tail vars) := by
  unfold asL RD.lit
  rw [if_pos h]
  rcases value_cases l.tail vars with e | ⟨e, h1, h2⟩
  · have := value_no e
    rw [if_neg (fun c => this ⟨c.1, c.2.1⟩), e]
    rfl
  · rw [e]
    by_cases h3 : RD.val l.tail = 0
    · rw [if_neg (fun c => c.2.2 h3), h3]
      rfl
    · rw [if_pos ⟨h1, h2, h3⟩, if_neg (by omega)]
      rfl
theorem asL_pos {l : List UInt8} {vars : Nat} (h : ¬ l.getD 0 0 = 45) : asL l vars = if RD.valueOf l vars ≤ 0 then 0 else RD.valueOf l vars := by
  unfold asL RD.lit
  rw [if_neg h]
  rcases value_cases l vars with e | ⟨e, h1, h2⟩
  · have := value_no e
    rw [if_neg this, e]
    rfl
  · rw [if_pos ⟨h1, h2⟩, e]
    by_cases h3 : RD.val l = 0
    · rw [h3]
      rfl
    · rw [if_neg (by omega)]
      rfl
theorem value_bd (l : List UInt8) (lid : Nat) : -1 ≤ RD.valueOf l lid ∧ RD.valueOf l lid ≤ lid := by
  rcases value_cases l lid with e | ⟨e, h1, h2⟩ <;> rw [e] <;> omega
set_option maxRecDepth 100000 in
set_option maxHeartbeats 8000000 in
theorem aslit_calls (w : World) (s : ByteArray) (l : List UInt8) (vars : Nat) (hs : s.data.toList = l) (hl : l.length ≤ 140737488355328) (hd : vars ≤ 1000000) :
    Calls Try.prog 103 #[.string s, .int .i64 (vars : Int)] w fun e w' => e = .returned (.int .i64 (asL l vars)) ∧ w' = w := by
  by_cases h0 : l = []
  · have q := value_calls w s l vars hs hl (by omega)
    have E : Hid (asL l vars = 0) := by show _ = _; rw [h0]; rfl
    have V : RD.valueOf l vars = -1 := by rw [h0]; rfl
    rw [V] at q
    obtain rfl := sis (hs.trans h0)
    replace q := hide q
    clear hs V
    generalize asL l vars = R at *
    go_enter Try.func103, Try.ntmps103
    go_wp2_with (go_at_call 47; refine q.out.mono ?_; rintro e w2 ⟨rfl, hw2⟩; subst w2)
    go_ret
    exact ⟨by rw [E.out]; rfl, rfl⟩
  · obtain ⟨e1, e2, e3, e4, e5⟩ := sno hs h0
    have hz := size_of s l hs
    have hpos : 0 < l.length := List.length_pos_iff.2 h0
    have hs0 : 0 < s.size := by omega
    obtain ⟨e6, e7⟩ := sempty (S := s) (by omega)
    have hb := byteAt s l hs 0 hs0
    have hus' : (0 : Int) < (s.size : Int) := by omega
    have hus1 : (1 : Int) ≤ (s.size : Int) := by omega
    by_cases h45 : l.getD 0 0 = 45
    · have q := value_calls w (s.extract 1 s.size) l.tail vars (tail_data s l hs) (by rw [List.length_tail]; omega) (by omega)
      have E := hide (asL_neg (vars := vars) h45)
      have VB := value_bd l.tail vars
      have t1 : (((l.getD 0 0).toNat : Int) == 45) = true := by rw [h45]; rfl
      generalize RD.valueOf l.tail vars = V at *
      generalize asL l vars = R at *
      generalize l.getD 0 0 = b0 at *
      replace q := hide q
      clear h45 hs hz hpos h0
      go_enter Try.func103, Try.ntmps103
      by_cases hv : V ≤ 0
      · have E1 : Hid (R = 0) := E.out.trans (if_pos hv)
        clear E
        go_wp2_with (go_at_call 47; refine q.out.mono ?_; rintro e w2 ⟨rfl, hw2⟩; subst w2)
        go_ret
        exact ⟨by rw [E1.out]; rfl, rfl⟩
      · have E1 : Hid (R = -V) := E.out.trans (if_neg hv)
        have wv : wrap64 (-V) = -V := w64 _ (by omega) (by omega)
        clear E
        go_wp2_with (go_at_call 47; refine q.out.mono ?_; rintro e w2 ⟨rfl, hw2⟩; subst w2)
        go_ret
        exact ⟨by rw [E1.out]; rfl, rfl⟩
    · have q := value_calls w s l vars hs hl (by omega)
      have E := hide (asL_pos (vars := vars) h45)
      have VB := value_bd l vars
      have t1 : (((l.getD 0 0).toNat : Int) == 45) = false := u8_ne h45
      generalize RD.valueOf l vars = V at *
      generalize asL l vars = R at *
      generalize l.getD 0 0 = b0 at *
      replace q := hide q
      clear h45 hs hz hpos h0
      go_enter Try.func103, Try.ntmps103
      by_cases hv : V ≤ 0
      · have E1 : Hid (R = 0) := E.out.trans (if_pos hv)
        clear E
        go_wp2_with (go_at_call 47; refine q.out.mono ?_; rintro e w2 ⟨rfl, hw2⟩; subst w2)
        go_ret
        exact ⟨by rw [E1.out]; rfl, rfl⟩
      · have E1 : Hid (R = V) := E.out.trans (if_neg hv)
        clear E
        go_wp2_with (go_at_call 47; refine q.out.mono ?_; rintro e w2 ⟨rfl, hw2⟩; subst w2)
        go_ret
        exact ⟨by rw [E1.out]; rfl, rfl⟩
end Go.Proofs.Ytkdalejceclanaa
