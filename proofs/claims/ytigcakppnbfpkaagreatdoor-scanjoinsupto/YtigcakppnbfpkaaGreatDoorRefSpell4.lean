/-
  The document's spell, walked to plain words.
-/
import Derived.Test.YtigcakppnbfpkaaGreatDoorRefSpell2
import Derived.Test.YtigcakppnbfpkaaGreatDoorRefSpell3
namespace Go.Proofs.YtigcakppnbfpkaaGreatDoor
open Go.RowKit
set_option linter.unusedVariables false
set_option maxRecDepth 100000 in
set_option maxHeartbeats 4000000 in
theorem rspell_calls (w : World) (hr : Rsv w) (k a b : Int) (s : ByteArray) (l : List UInt8) (hs : s.data.toList = l) (hl : l.length ≤ 1073741822) :
    Calls Tryz.prog 22 #[.agg #[.int .i64 k, .int .i64 a, .int .i64 b, .string s]] w fun e w' => e = .returned (.tuple #[qv (S.spl resv k l), .int .i64 (qe (S.spl resv k l))]) ∧ Below w.heap.size w w' := by
  by_cases k1 : k = 1
  · subst k1
    exact rspell_1 w hr a b s l hs hl
  by_cases k2 : k = 2
  · subst k2
    exact rspell_2 w hr a b s l hs hl
  by_cases k4 : k = 4
  · subst k4
    exact rspell_4 w hr a b s l hs hl
  by_cases k5 : k = 5
  · subst k5
    exact rspell_5 w hr a b s l hs hl
  by_cases k6 : k = 6
  · subst k6
    exact rspell_6 w hr a b s l hs hl
  by_cases k7 : k = 7
  · subst k7
    exact rspell_7 w hr a b s l hs hl
  by_cases k8 : k = 8
  · subst k8
    exact rspell_8 w hr a b s l hs hl
  have hn := size_of s l hs
  obtain ⟨W0, hW0⟩ : ∃ W, w.alloc (.cells #[.int .i64 k, .int .i64 a, .int .i64 b, .string s] 24) = W := ⟨_, rfl⟩
  obtain ⟨B0, z0, z3, hz0⟩ := SpW.all (w := w) hW0
  have q3 := hide (rquote_calls W0 (hr.below B0) s l hs hl)
  have q9 := hide (rliteral_calls W0 s l hs (by omega))
  have q10 := hide (rsimple_calls W0 s l hs (by omega))
  replace B0 := hide B0
  have m1 : s.size ≤ 1073741824 := by omega
  by_cases h3 : k = 3
  · subst h3
    rw [show S.spl resv 3 l = S.quo resv l from rfl]
    generalize S.quo resv l = o at q3
    unfold qv at q3
    go_enter Tryz.func22, Tryz.ntmps22
    go_wp2_with (go_at_call 38; refine q3.out.mono ?_; rintro e w1 ⟨rfl, b1⟩; replace b1 := hide b1)
    go_ret2
    exact ⟨rfl, B0.out.then_below b1.out⟩
  · by_cases h9 : k = 9
    · subst h9
      rw [show S.spl resv 9 l = S.lit l from rfl]
      generalize S.lit l = o at q9
      unfold qv at q9
      go_enter Tryz.func22, Tryz.ntmps22
      go_wp2_with (go_at_call 39; refine q9.out.mono ?_; rintro e w1 ⟨rfl, b1⟩; replace b1 := hide b1)
      go_ret2
      exact ⟨rfl, B0.out.then_below b1.out⟩
    · by_cases h10 : k = 10
      · subst h10
        have e10 : S.spl resv 10 l = if S.smp l then some (58 :: l) else none := rfl
        rw [e10]
        have hs' := hide hs
        cases hsm : S.smp l with
        | true =>
          rw [hsm] at q10
          clear e10 hsm hs hn
          go_enter Tryz.func22, Tryz.ntmps22
          go_wp2_with (go_at_call 40; refine q10.out.mono ?_; rintro e w1 ⟨rfl, rfl⟩)
          go_ret2
          exact ⟨ret_qv (by simp [hs'.out]) rfl, B0.out⟩
        | false =>
          rw [hsm] at q10
          clear e10 hsm hs hn
          go_enter Tryz.func22, Tryz.ntmps22
          go_wp2_with (go_at_call 40; refine q10.out.mono ?_; rintro e w1 ⟨rfl, rfl⟩)
          go_ret2
          exact ⟨ret_qv rfl rfl, B0.out⟩
      · have eo : S.spl resv k l = none := by
          unfold S.spl
          rw [if_neg h3, if_neg h9, if_neg h10, if_neg]
          intro h
          have := oneOf_kinds h
          omega
        rw [eo]
        clear eo hs hn hr hl q3 q9 q10
        go_enter Tryz.func22, Tryz.ntmps22
        go_wp2
        go_ret2
        exact ⟨ret_qv rfl rfl, B0.out⟩
end Go.Proofs.YtigcakppnbfpkaaGreatDoor
