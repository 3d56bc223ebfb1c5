/-
  Package num: Spell.
-/
import Derived.Test.YtebnjolkolobhaaGreatDoorSpellA
import Derived.Test.YtebnjolkolobhaaGreatDoorMulB
/- ==== Spell ==== -/
namespace Go.Proofs.YtebnjolkolobhaaGreatDoor
open Go.RowKit
set_option linter.unusedVariables false
theorem tup_eq {s : ByteArray} {l : List UInt8} {c : Int} (h : s.data.toList = l) : Ending.returned (.tuple #[.string s, .int .i64 c]) = .returned (.tuple #[.string ⟨l.toArray⟩, .int .i64 c]) := by
  subst h
  rfl
set_option maxRecDepth 100000 in
set_option maxHeartbeats 8000000 in
theorem numSpell_calls (w : World) (sa : ByteArray) (la : List UInt8) (ha : sa.data.toList = la) (hla : la.length ≤ 1073741824) (m : Int) (hM : w.cell? ⟨0, 0, none⟩ = some (.int .i64 m)) (hT : Tab w) (hP : Pows w) :
    Calls Tryz.prog 8 #[.string sa] w fun e w' => e = .returned (.tuple #[.string ⟨(spellT la).1.toArray⟩, .int .i64 (spellT la).2]) ∧ Below w.heap.size w w' := by
  have bA := alloc_below w (.cells #[.string sa] 9)
  have t0 := one_cell w (.string sa) 9
  have hM' : (w.alloc (.cells #[.string sa] 9)).cell? ⟨0, 0, none⟩ = some (.int .i64 m) := by rw [bA.cell (World.block_lt_of_cell? w _ hM)]; exact hM
  obtain ⟨W0, hW0⟩ : ∃ W0, (w.alloc (.cells #[.string sa] 9)) = W0 := ⟨_, rfl⟩
  have hz : W0.heap.size = w.heap.size + 1 := by rw [← hW0]; show (w.heap.push _).size = _; simp
  rw [hW0] at bA t0 hM'
  have q0 := parse_single W0 sa la ha hla w.heap.size 1 t0 m hM' (hT.below bA) _ (canB_iff la)
  cases hk : canB la with
  | false =>
    rw [spellT_no hk]
    rw [hk] at q0
    have q1 := hide (q0.mono (fun e w' ⟨⟨_, h2⟩, h3⟩ => (⟨h2 rfl, h3⟩ : e = Ending.returned (.tuple #[.slice none 0 0, .bool false]) ∧ Below W0.heap.size W0 w')))
    replace bA := hide bA
    clear ha t0 hM hM' hT hP hk q0 hz
    go_enter Tryz.func8, Tryz.ntmps8
    go_wp2_with (go_at_call 29; (with_reducible refine q1.out.mono ?_); rintro e w1 ⟨rfl, b1⟩; replace b1 := hide b1)
    go_ret2
    exact ⟨rfl, bA.out.then_below b1.out⟩
  | true =>
    have hca := (canB_iff la).1 hk
    rw [spellT_yes hca]
    rw [hk] at q0
    have q2 := q0.mono (fun e w' ⟨⟨h1, _⟩, h3⟩ => (⟨h1 rfl, h3⟩ : (e = Ending.returned (.tuple #[.slice (some ⟨W0.heap.size, 0, none⟩) 1 1, .bool true]) ∧ OneS W0 w' la) ∧ Below W0.heap.size W0 w'))
    unfold OneS at q2
    have HZ := hide hz
    rw [hz] at q2
    obtain ⟨kn, kd⟩ := can_BB hca (K := la.length + 1) (by omega)
    rw [← lowN_can hca] at kd
    have PP := hide (hP.below bA)
    replace bA := hide bA
    have ln := dig_len kn
    have ld := dig_len kd
    have hneg := neg_up hca
    obtain ⟨K, hKe⟩ : ∃ K, K = la.length + 1 := ⟨_, rfl⟩
    have hK : K ≤ 54975581388 := by omega
    rw [← hKe] at kn kd ln ld
    change Calls Tryz.prog 29 #[.slice (some ⟨w.heap.size, 0, none⟩) 1 1] W0 (fun e w' => (e = Ending.returned (.tuple #[.slice (some ⟨w.heap.size + 1, 0, none⟩) 1 1, .bool true]) ∧ ∃ (b1 : Bool) (x1 : Int) (x2 : Option Addr) (x3 x4 : Nat) (y1 : Int) (y2 : Option Addr) (y3 y4 : Nat), w'.heap[w.heap.size + 1]? = some (.cells #[.bool b1, .int .u64 x1, .slice x2 x3 x4, .int .u64 y1, .slice y2 y3 y4] 45 (0, 0)) ∧ DenR w' (.agg #[.bool b1, .int .u64 x1, .slice x2 x3 x4, .int .u64 y1, .slice y2 y3 y4]) (cneg la) (M.dec (cup la)) (cden la) ∧ Below (w.heap.size + 1) W0 w') ∧ Below (w.heap.size + 1) W0 w') at q2
    generalize M.dec (cup la) = n at *
    generalize cden la = d at *
    generalize cneg la = s at *
    have q1 := hide q2
    obtain ⟨SN, hSN⟩ : ∃ S : ByteArray, S = ⟨(Lib.decDigits n).toArray⟩ := ⟨_, rfl⟩
    obtain ⟨SD, hSD⟩ : ∃ S : ByteArray, S = ⟨(Lib.decDigits (lowN d)).toArray⟩ := ⟨_, rfl⟩
    have zn : SN.size ≤ 20 * K + 1 := by rw [hSN]; exact ln
    have zd : SD.size ≤ 20 * K + 1 := by rw [hSD]; exact ld
    have m0 : SN.size ≤ 1100000000000 := by omega
    have m0' : SD.size ≤ 1100000000000 := by omega
    have HSN := hide hSN
    have HSD := hide hSD
    replace kn := hide kn
    replace kd := hide kd
    clear ha t0 hM hM' hT hP hk q0 q2 hz hca ln ld zn zd hSN hSD hKe hla
    by_cases hd : d = 0
    · replace hd := hide hd
      cases s with
      | false =>
        have hsg : Hid (∃ c : Int, (if false = true then (-1 : Int) else if n = 0 then 0 else 1) = c ∧ 0 ≤ c) := ⟨_, rfl, by rw [if_neg (by simp)]; split <;> decide⟩
        obtain ⟨c, hsg, hc0⟩ := hsg.out
        replace hsg := hide hsg
        clear hneg
        go_enter Tryz.func8, Tryz.ntmps8
        go_wp2_with (first
              | (go_at_call 29; (with_reducible refine q1.out.mono ?_); rintro e w1 ⟨⟨rfl, h1⟩, b1_1⟩; obtain ⟨b1, x1, x2, x3, x4, y1, y2, y3, y4, A1, da, B1⟩ := h1; obtain ⟨⟨z0, z1, z2, z3, z4⟩, -⟩ := ratBox A1; replace A1 := hide A1; replace da := hide da; replace B1 := hide B1; replace b1_1 : Below W0.heap.size W0 w1 := (by rw [HZ.out]; exact b1_1); replace b1_1 := hide b1_1)
              | (go_at_call 30; refine (upper_calls _ _ false n d da.out).mono ?_; rintro e w2 ⟨⟨ru, rfl, du⟩, b2⟩; have q2 := hide (natText_calls w2 ru n K du kn.out hK ((PP.out.below b1_1.out).below b2)); rw [← HSN.out] at q2; replace b2 := hide b2)
              | (go_at_call_of 31 ru; (with_reducible refine q2.out.mono ?_); rintro e w3 ⟨rfl, b3⟩; have b13 := hide (b2.out.then_below b3); obtain ⟨⟨c0, c1, c2, c3, c4⟩, -⟩ := ratBox (kept_block A1.out b13.out))
              | (go_at_call 32; refine (isWhole_calls _ _ false n d (da.out.below b13.out)).mono ?_; rintro e w4 ⟨rfl, b4⟩; rw [decide_eq_true hd.out]; have b14 := hide (b13.out.then_below b4); obtain ⟨⟨g0, g1, g2, g3, g4⟩, -⟩ := ratBox (kept_block A1.out b14.out))
              | (go_at_call 34; refine (psign_calls _ _ false n d (da.out.below b14.out)).mono ?_; rintro e w7 ⟨rfl, b7⟩; (try rw [hsg.out]); have b17 := hide (b14.out.then_below b7)))
        go_ret2
        exact ⟨tup_eq (by rw [HSN.out]; simp [spellL, spellP, hd.out]), (bA.out.then_below b1_1.out).then_below b17.out⟩
      | true =>
        clear hneg
        go_enter Tryz.func8, Tryz.ntmps8
        go_wp2_with (first
              | (go_at_call 29; (with_reducible refine q1.out.mono ?_); rintro e w1 ⟨⟨rfl, h1⟩, b1_1⟩; obtain ⟨b1, x1, x2, x3, x4, y1, y2, y3, y4, A1, da, B1⟩ := h1; obtain ⟨⟨z0, z1, z2, z3, z4⟩, -⟩ := ratBox A1; replace A1 := hide A1; replace da := hide da; replace B1 := hide B1; replace b1_1 : Below W0.heap.size W0 w1 := (by rw [HZ.out]; exact b1_1); replace b1_1 := hide b1_1)
              | (go_at_call 30; refine (upper_calls _ _ true n d da.out).mono ?_; rintro e w2 ⟨⟨ru, rfl, du⟩, b2⟩; have q2 := hide (natText_calls w2 ru n K du kn.out hK ((PP.out.below b1_1.out).below b2)); rw [← HSN.out] at q2; replace b2 := hide b2)
              | (go_at_call_of 31 ru; (with_reducible refine q2.out.mono ?_); rintro e w3 ⟨rfl, b3⟩; have b13 := hide (b2.out.then_below b3); obtain ⟨⟨c0, c1, c2, c3, c4⟩, -⟩ := ratBox (kept_block A1.out b13.out))
              | (go_at_call 32; refine (isWhole_calls _ _ true n d (da.out.below b13.out)).mono ?_; rintro e w4 ⟨rfl, b4⟩; rw [decide_eq_true hd.out]; have b14 := hide (b13.out.then_below b4); obtain ⟨⟨g0, g1, g2, g3, g4⟩, -⟩ := ratBox (kept_block A1.out b14.out))
              | (go_at_call 34; refine (psign_calls _ _ true n d (da.out.below b14.out)).mono ?_; rintro e w7 ⟨rfl, b7⟩; have b17 := hide (b14.out.then_below b7)))
        go_ret2
        exact ⟨tup_eq (by rw [HSN.out]; simp [spellL, spellP, hd.out]), (bA.out.then_below b1_1.out).then_below b17.out⟩
    · replace hd := hide hd
      cases s with
      | false =>
        have hsg : Hid (∃ c : Int, (if false = true then (-1 : Int) else if n = 0 then 0 else 1) = c ∧ 0 ≤ c) := ⟨_, rfl, by rw [if_neg (by simp)]; split <;> decide⟩
        obtain ⟨c, hsg, hc0⟩ := hsg.out
        replace hsg := hide hsg
        clear hneg
        go_enter Tryz.func8, Tryz.ntmps8
        go_wp2_with (first
              | (go_at_call 29; (with_reducible refine q1.out.mono ?_); rintro e w1 ⟨⟨rfl, h1⟩, b1_1⟩; obtain ⟨b1, x1, x2, x3, x4, y1, y2, y3, y4, A1, da, B1⟩ := h1; obtain ⟨⟨z0, z1, z2, z3, z4⟩, -⟩ := ratBox A1; replace A1 := hide A1; replace da := hide da; replace B1 := hide B1; replace b1_1 : Below W0.heap.size W0 w1 := (by rw [HZ.out]; exact b1_1); replace b1_1 := hide b1_1)
              | (go_at_call 30; refine (upper_calls _ _ false n d da.out).mono ?_; rintro e w2 ⟨⟨ru, rfl, du⟩, b2⟩; have q2 := hide (natText_calls w2 ru n K du kn.out hK ((PP.out.below b1_1.out).below b2)); rw [← HSN.out] at q2; replace b2 := hide b2)
              | (go_at_call_of 31 ru; (with_reducible refine q2.out.mono ?_); rintro e w3 ⟨rfl, b3⟩; have b13 := hide (b2.out.then_below b3); obtain ⟨⟨c0, c1, c2, c3, c4⟩, -⟩ := ratBox (kept_block A1.out b13.out))
              | (go_at_call 32; refine (isWhole_calls _ _ false n d (da.out.below b13.out)).mono ?_; rintro e w4 ⟨rfl, b4⟩; rw [decide_eq_false hd.out]; have b14 := hide (b13.out.then_below b4); obtain ⟨⟨g0, g1, g2, g3, g4⟩, -⟩ := ratBox (kept_block A1.out b14.out))
              | (go_at_call 33; refine (lower_low _ _ false n d (da.out.below b14.out)).mono ?_; rintro e w5 ⟨⟨rl, rfl, dl⟩, b5⟩; have q5 := hide (natText_calls w5 rl (lowN d) K dl kd.out hK (((PP.out.below b1_1.out).below b14.out).below b5)); rw [← HSD.out] at q5; replace b5 := hide (b14.out.then_below b5))
              | (go_at_call_of 31 rl; (with_reducible refine q5.out.mono ?_); rintro e w6 ⟨rfl, b6⟩; have b16 := hide (b5.out.then_below b6); obtain ⟨⟨k0, k1, k2, k3, k4⟩, -⟩ := ratBox (kept_block A1.out b16.out))
              | (go_at_call 34; refine (psign_calls _ _ false n d (da.out.below b16.out)).mono ?_; rintro e w7 ⟨rfl, b7⟩; (try rw [hsg.out]); have b17 := hide (b16.out.then_below b7)))
        go_ret2
        exact ⟨tup_eq (by rw [HSN.out, HSD.out]; simp [spellL, spellP, hd.out, lowN]), (bA.out.then_below b1_1.out).then_below b17.out⟩
      | true =>
        clear hneg
        go_enter Tryz.func8, Tryz.ntmps8
        go_wp2_with (first
              | (go_at_call 29; (with_reducible refine q1.out.mono ?_); rintro e w1 ⟨⟨rfl, h1⟩, b1_1⟩; obtain ⟨b1, x1, x2, x3, x4, y1, y2, y3, y4, A1, da, B1⟩ := h1; obtain ⟨⟨z0, z1, z2, z3, z4⟩, -⟩ := ratBox A1; replace A1 := hide A1; replace da := hide da; replace B1 := hide B1; replace b1_1 : Below W0.heap.size W0 w1 := (by rw [HZ.out]; exact b1_1); replace b1_1 := hide b1_1)
              | (go_at_call 30; refine (upper_calls _ _ true n d da.out).mono ?_; rintro e w2 ⟨⟨ru, rfl, du⟩, b2⟩; have q2 := hide (natText_calls w2 ru n K du kn.out hK ((PP.out.below b1_1.out).below b2)); rw [← HSN.out] at q2; replace b2 := hide b2)
              | (go_at_call_of 31 ru; (with_reducible refine q2.out.mono ?_); rintro e w3 ⟨rfl, b3⟩; have b13 := hide (b2.out.then_below b3); obtain ⟨⟨c0, c1, c2, c3, c4⟩, -⟩ := ratBox (kept_block A1.out b13.out))
              | (go_at_call 32; refine (isWhole_calls _ _ true n d (da.out.below b13.out)).mono ?_; rintro e w4 ⟨rfl, b4⟩; rw [decide_eq_false hd.out]; have b14 := hide (b13.out.then_below b4); obtain ⟨⟨g0, g1, g2, g3, g4⟩, -⟩ := ratBox (kept_block A1.out b14.out))
              | (go_at_call 33; refine (lower_low _ _ true n d (da.out.below b14.out)).mono ?_; rintro e w5 ⟨⟨rl, rfl, dl⟩, b5⟩; have q5 := hide (natText_calls w5 rl (lowN d) K dl kd.out hK (((PP.out.below b1_1.out).below b14.out).below b5)); rw [← HSD.out] at q5; replace b5 := hide (b14.out.then_below b5))
              | (go_at_call_of 31 rl; (with_reducible refine q5.out.mono ?_); rintro e w6 ⟨rfl, b6⟩; have b16 := hide (b5.out.then_below b6); obtain ⟨⟨k0, k1, k2, k3, k4⟩, -⟩ := ratBox (kept_block A1.out b16.out))
              | (go_at_call 34; refine (psign_calls _ _ true n d (da.out.below b16.out)).mono ?_; rintro e w7 ⟨rfl, b7⟩; have b17 := hide (b16.out.then_below b7)))
        go_ret2
        exact ⟨tup_eq (by rw [HSN.out, HSD.out]; simp [spellL, spellP, hd.out, lowN]), (bA.out.then_below b1_1.out).then_below b17.out⟩
end Go.Proofs.YtebnjolkolobhaaGreatDoor
