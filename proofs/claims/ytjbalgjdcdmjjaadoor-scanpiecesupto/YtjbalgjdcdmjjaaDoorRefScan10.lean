/-
  The document's side of scan: what begins with #, and one token.
-/
import Derived.Test.YtjbalgjdcdmjjaaDoorRefScan8
import Derived.Test.YtjbalgjdcdmjjaaDoorRefScan9
namespace Go.Proofs.YtjbalgjdcdmjjaaDoor
open Go.RowKit
set_option linter.unusedVariables false
theorem len_of_drop {l : List UInt8} {i : Nat} {b : UInt8} {t : List UInt8} (hd : l.drop i = b :: t) : i < l.length ∧ l.getD i 0 = b ∧ l.drop (i + 1) = t ∧ i + 1 + t.length = l.length := by
  have hlen : i + (t.length + 1) = l.length := by
    have := congrArg List.length hd
    simp at this
    omega
  have hi : i < l.length := by omega
  have := drop_cons l i hi
  rw [hd] at this
  exact ⟨hi, (List.cons.inj this).1.symm, (List.cons.inj this).2.symm, by omega⟩
set_option maxRecDepth 100000 in
set_option maxHeartbeats 600000 in
theorem hash_calls (w : World) (s : ByteArray) (l : List UInt8) (hs : s.data.toList = l) (hl : l.length ≤ 1073741824) (i : Nat) (hi : i < l.length) :
    Calls Tryd.prog 44 #[.string s, .int .i64 i] w fun e w' => e = .returned (oneV (S.dHash (l.drop (i + 1)) i)) ∧ Below w.heap.size w w' := by
  have hn := size_of s l hs
  have hz : s.size ≤ 1073741824 := by omega
  by_cases h1 : i + 1 < l.length
  · have e1 := drop_cons l (i + 1) h1
    by_cases hx : l.getD (i + 1) 0 = 120
    · exact hash_x w s l hs hl i h1 hx _ (by rw [e1, hx]; rfl)
    · by_cases hb : l.getD (i + 1) 0 = 98
      · exact hash_b w s l hs hl i h1 hb _ (by rw [e1, hb]; rfl)
      · have e2 : S.dHash (l.drop (i + 1)) i = .inr (12, i + 1) := by
          rw [e1]
          simp only [S.dHash, hx, hb, if_false]
        rw [e2]
        have hi0 : i + 1 < s.size := by omega
        have hb1 : s[i + 1]'hi0 = l.getD (i + 1) 0 := byteAt s l hs (i + 1) hi0
        obtain ⟨c, hc⟩ : ∃ c, l.getD (i + 1) 0 = c := ⟨_, rfl⟩
        rw [hc] at hb1 hx hb
        have n1 : ((c.toNat : Int) != 120) = true := by simpa using ne_byte (n := 120) (by decide) hx
        have n2 : ((c.toNat : Int) != 98) = true := by simpa using ne_byte (n := 98) (by decide) hb
        have hi2 : (i : Int) + 1 < s.size := by omega
        have hi3 : ¬ (s.size : Int) ≤ (i : Int) + 1 := by omega
        have hi4 : decide ((s.size : Int) ≤ (i : Int) + 1) = false := by simp; omega
        clear e1 e2 hc hs hn hl hx hb h1 hi
        go_enter Tryd.func44, Tryd.ntmps44
        go_wp2
        refine bodyPost_ret (v := .tuple #[.agg #[.int .i64 0, .int .i64 0, .int .i64 0, .string ⟨#[]⟩], .int .i64 12, .int .i64 ((i : Int) + 1)]) (by simp [results, Tryd.results44, go_sem]) rfl ?_
        exact ⟨rfl, (Below.refl _ w).alloc (Nat.le_refl _) _⟩
  · rw [show l.drop (i + 1) = [] from List.drop_eq_nil_of_le (by omega)]
    have hi3 : (s.size : Int) ≤ (i : Int) + 1 := by omega
    have hiz : i ≤ 1073741824 := by omega
    clear hs hn hl h1 hi
    go_enter Tryd.func44, Tryd.ntmps44
    go_wp2
    refine bodyPost_ret (v := .tuple #[.agg #[.int .i64 0, .int .i64 0, .int .i64 0, .string ⟨#[]⟩], .int .i64 12, .int .i64 ((i : Int) + 1)]) (by simp [results, Tryd.results44, go_sem]) rfl ?_
    exact ⟨rfl, (Below.refl _ w).alloc (Nat.le_refl _) _⟩
end Go.Proofs.YtjbalgjdcdmjjaaDoor
