/-
  The document's side of scan: reserved words.
-/
import Derived.Test.YtjbalgjdcdmjjaaDoorRefScan7
namespace Go.Proofs.YtjbalgjdcdmjjaaDoor
open Go.RowKit
set_option linter.unusedVariables false
/-- The list of reserved words lies where start-up lays it. -/
def Rsv (w : World) : Prop := ∃ b off cap, w.cell? ⟨0, 0, none⟩ = some (.slice (some ⟨b, off, none⟩) 44 cap) ∧ 44 ≤ cap ∧ cap ≤ 9223372036854775807 ∧ ∀ j, j < 44 → w.cell? ⟨b, off + j, none⟩ = some (.string ⟨(words.getD j []).toArray⟩)
theorem Rsv.below {w w' : World} (h : Rsv w) (q : Below w.heap.size w w') : Rsv w' := by
  obtain ⟨b, off, cap, h1, h2, h3, h4⟩ := h
  have g1 : 0 < w.heap.size := World.block_lt_of_cell? w _ h1
  have g2 : b < w.heap.size := World.block_lt_of_cell? w _ (h4 0 (by decide))
  exact ⟨b, off, cap, (q.cell (p := ⟨_, _, none⟩) g1).trans h1, h2, h3, fun j hj => (q.cell (p := ⟨b, _, none⟩) g2).trans (h4 j hj)⟩
theorem str_ne4 {T s : ByteArray} (h : T ≠ s) : ¬ T.toList = s.toList ∧ (T.toList == s.toList) = false ∧ ¬ T.data.toList = s.data.toList ∧ ¬ T = s ∧ ¬ s = T := by
  have h3 : ¬ T.data.toList = s.data.toList := fun e => h (by
    cases T with
    | mk a => cases s with
      | mk b => simp at e; rw [e])
  have h2 : ¬ T.toList = s.toList := by rw [str_toList', str_toList']; exact h3
  exact ⟨h2, by simpa using h2, h3, h, fun e => h e.symm⟩
set_option maxRecDepth 100000 in
set_option maxHeartbeats 600000 in
theorem rReserved_calls (w : World) (hr : Rsv w) (s : ByteArray) (x : List UInt8) (hs : s.data.toList = x) :
    Calls Tryd.prog 49 #[.string s] w fun e w' => e = .returned (.bool (resv x)) ∧ w' = w := by
  obtain ⟨b, off, cap, c0, hc1, hc2, hc⟩ := hr
  obtain ⟨R, hR⟩ : ∃ R, resv x = R := ⟨_, rfl⟩
  rw [hR]
  replace hR := hide hR
  have hs' := hide hs
  clear hs
  have hc' := hide hc
  clear hc
  go_enter Tryd.func49, Tryd.ntmps49
  go_wp2
  go_loop [3] (fun j => ∃ k : Nat, k ≤ 44 ∧ j = .int .i64 k ∧ Hid (∀ m, m < k → words.getD m [] ≠ x)) (fun j => 44 - (intOf j).toNat)
  case atStart => exact ⟨0, Nat.zero_le _, rfl, fun m h => absurd h (Nat.not_lt_zero m)⟩
  case round =>
    obtain ⟨k, hk, rfl, hno⟩ := hrel
    by_cases hlt : k < 44
    · have hlt1 : (k : Int) < 44 := by omega
      have ck := hc'.out k hlt
      obtain ⟨T, hT⟩ : ∃ T : ByteArray, (⟨(words.getD k []).toArray⟩ : ByteArray) = T := ⟨_, rfl⟩
      rw [hT] at ck
      have hTl : T.data.toList = words.getD k [] := by rw [← hT]
      by_cases he : words.getD k [] = x
      · have hTs : T = s := by
          have h1 : T.data.toList = s.data.toList := by rw [hTl, he, hs'.out]
          cases T with
          | mk a => cases s with
            | mk c => simp at h1; rw [h1]
        subst hTs
        have hin : Hid (R = true) := by
          rw [← hR.out, ← he]
          have hm : words.getD k [] ∈ words := by
            rw [List.getD_eq_getElem?_getD, List.getElem?_eq_getElem (show k < words.length from hlt)]
            exact List.getElem_mem _
          exact List.contains_iff_mem.2 hm
        clear hT hTl he hno
        go_wp2
        go_ret
        exact ⟨ret_bool (a := true) hin.out.symm, rfl⟩
      · have hne : T ≠ s := fun e => he (by rw [← hTl, e, hs'.out])
        obtain ⟨n1, n2, n3, n4, n5⟩ := str_ne4 hne
        have hno2 : Hid (∀ m, m < k + 1 → words.getD m [] ≠ x) := by
          intro m hm
          by_cases h : m = k
          · rw [h]; exact he
          · exact hno.out m (by omega)
        clear hT hTl he hno
        go_wp2
        go_round
        case rel => exact ⟨k + 1, by omega, by go_num, hno2⟩
        case measure => simp [intOf]; omega
    · have hout : Hid (R = false) := by
        rw [← hR.out]
        have hk17 : k = 44 := by omega
        have hnm : ¬ x ∈ words := by
          intro hm
          obtain ⟨j, hj, e⟩ := List.getElem_of_mem hm
          refine hno.out j (by rw [hk17]; exact hj) ?_
          rw [List.getD_eq_getElem?_getD, List.getElem?_eq_getElem hj]
          exact e
        rw [Bool.eq_false_iff]
        intro h
        exact hnm (List.contains_iff_mem.1 h)
      have hlt1 : ¬ (k : Int) < 44 := by omega
      go_wp2
      go_ret
      exact ⟨ret_bool (a := false) hout.out.symm, rfl⟩
end Go.Proofs.YtjbalgjdcdmjjaaDoor
