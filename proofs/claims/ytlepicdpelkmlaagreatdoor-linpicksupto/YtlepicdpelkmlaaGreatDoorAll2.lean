/- Laid together of: AddAt, SubProduct, MoveUp, Tops, Simulate, Difference, Apply, LongMath, Guess. -/
import Derived.Test.YtlepicdpelkmlaaGreatDoorAll1
import Derived.Test.YtlepicdpelkmlaaGreatDoorAllMath
import Derived.Deep.RegionWith
import Derived.Deep.DeepMust
/- ==== AddAt ==== -/
namespace Go.Proofs.YtlepicdpelkmlaaGreatDoor
open Go.RowKit

theorem addAt_step {y z l : List Int} {at_ k : Nat} {u x c : Int} (hyl : y.length = z.length) (hlen : at_ + k < z.length) (hlt : k < l.length) (hx : l.getD k 0 = x) (hy : y.getD (at_ + k) 0 = u)
    (hv : M.val M.BB y + M.BB ^ (at_ + k) * c = M.val M.BB z + M.BB ^ at_ * M.val M.BB (l.take k)) :
    M.val M.BB (y.set (at_ + k) (M.lo (u + x + c))) + M.BB ^ (at_ + (k + 1)) * M.hi (u + x + c) = M.val M.BB z + M.BB ^ at_ * M.val M.BB (l.take (k + 1)) := by
  rw [M.val_set _ _ _ (by omega), M.val_take_succ _ _ hlt, hx, hy, show at_ + (k + 1) = at_ + k + 1 from rfl, Int.pow_succ, Int.pow_add]
  rw [Int.pow_add] at hv
  have := M.lo_hi (u + x + c)
  generalize M.lo (u + x + c) = p at *
  generalize M.hi (u + x + c) = q at *
  grind
theorem carry_step {y : List Int} {n N : Nat} {u c V : Int} (hyl : y.length = N) (hlt : n < N) (hy : y.getD n 0 = u) (hv : M.val M.BB y + M.BB ^ n * c = V) :
    M.val M.BB (y.set n (M.lo (u + c))) + M.BB ^ (n + 1) * M.hi (u + c) = V := by
  rw [M.val_set _ _ _ (by omega), hy, Int.pow_succ]
  have := M.lo_hi (u + c)
  generalize M.lo (u + c) = p at *
  generalize M.hi (u + c) = q at *
  grind

set_option maxHeartbeats 400000 in
theorem addAt_nil (w : World) (g : Nat) (z : List Int) (ao : Option Addr) (cb cap at_ : Nat) (hz : Own .u64 87 w g z) (hd : M.Dig M.BB z) (hcap : z.length ≤ 140737488355328) (hlen : at_ ≤ z.length) :
    Calls Tryz.prog 124 #[.slice (some ⟨g, 0, none⟩) z.length cap, .slice ao 0 cb, .int .i64 at_] w fun e w' => e = .returned (.tuple #[]) ∧
      ∃ z', Own .u64 87 w' g z' ∧ M.Dig M.BB z' ∧ z'.length = z.length ∧ M.val M.BB z' = M.val M.BB z + M.BB ^ at_ * M.val M.BB [] ∧ w.grownBy w' (some g) := by
  go_enter Tryz.func124, Tryz.ntmps124
  go_wp2
  refine wp_loop_rounds 1 ?_
  rw [rounds_succ]
  go_wp2
  refine wp_loop_rounds 1 ?_
  rw [rounds_succ]
  go_wp2
  go_end0
  exact ⟨rfl, z, hz, hd, rfl, by simp [M.val], grown_refl _ _⟩

set_option maxHeartbeats 800000 in
theorem addAt_at (w : World) (g : Nat) (z : List Int) (b off cb cap at_ : Nat) (l : List Int) (hz : Own .u64 87 w g z) (hd : M.Dig M.BB z) (hl : M.Dig M.BB l) (hcap : z.length ≤ 140737488355328)
    (hlen : at_ + l.length ≤ z.length) (hbg : b ≠ g)
    (hc : ∀ j, j < l.length → w.cell? ⟨b, off + j, none⟩ = some (.int .u64 (l.getD j 0)))
    (hroom : M.val M.BB z + M.BB ^ at_ * M.val M.BB l < M.BB ^ z.length) :
    Calls Tryz.prog 124 #[.slice (some ⟨g, 0, none⟩) z.length cap, .slice (some ⟨b, off, none⟩) l.length cb, .int .i64 at_] w fun e w' => e = .returned (.tuple #[]) ∧
      ∃ z', Own .u64 87 w' g z' ∧ M.Dig M.BB z' ∧ z'.length = z.length ∧ M.val M.BB z' = M.val M.BB z + M.BB ^ at_ * M.val M.BB l ∧ w.grownBy w' (some g) := by
  have hroom' := hide hroom
  clear hroom
  go_enter Tryz.func124, Tryz.ntmps124
  go_wp2
  go_loopw [6, 12] (fun cv i wr => ∃ (k : Nat) (c : Int) (y : List Int), k ≤ l.length ∧ i = .int .i64 k ∧ cv = .int .u64 c ∧ 0 ≤ c ∧ c ≤ 1 ∧ Own .u64 87 wr g y ∧ M.Dig M.BB y ∧ y.length = z.length ∧
      Hid (M.val M.BB y + M.BB ^ (at_ + k) * c = M.val M.BB z + M.BB ^ at_ * M.val M.BB (l.take k)) ∧ w.grownBy wr (some g)) (fun _ i _ => l.length - (intOf i).toNat)
  case atStart => exact ⟨0, 0, z, Nat.zero_le _, rfl, rfl, by decide, by decide, hz, hd, rfl, by show _ = _; simp [M.val], grown_refl _ _⟩
  case round =>
    obtain ⟨k, c, y, hk, rfl, rfl, hc0, hc1, hy, hyd, hyl, hv, hg⟩ := hrel
    by_cases hlt : k < l.length
    · have hcell : wr.cell? ⟨b, off + k, none⟩ = some (.int .u64 (l.getD k 0)) := hg.cell (hc k hlt) (by simpa using hbg)
      have hcy := hy.cell (at_ + k) (by omega)
      have hfy := hy.frozen (at_ + k)
      have hb1 := hl.getD M.BB_pos k
      have hb2 := hyd.getD M.BB_pos (at_ + k)
      generalize hx : l.getD k 0 = x at *
      generalize hyx : y.getD (at_ + k) 0 = u at *
      have hadd := add64 u x c hb2.1 hb1.1 hc0 hc1
      clear hc
      have Hx := hide hx
      have Hy := hide hyx
      have Hl := hide hyl
      clear hx hyx hyl
      go_wp2_with fail
      go_roundw
      case rel =>
        refine ⟨k + 1, M.hi (u + x + c), y.set (at_ + k) (M.lo (u + x + c)), by omega, by go_num, rfl, M.hi_nn (by omega), ?_, hy.set _ _, hyd.set _ (M.lo_bd _).1 (M.lo_bd _).2, by simpa using Hl.out, ?_, ?_⟩
        · exact M.hi_le (by omega)
        · show _ = _
          exact addAt_step Hl.out (by omega) hlt Hx.out Hy.out hv.out
        · exact grown_trans hg (grown_set _ _ _ _)
      case measure => simp [intOf]; omega
    · have hk' : k = l.length := by omega
      subst hk'
      rw [List.take_length] at hv
      clear hc
      go_wp2
      go_loopw [6, 9] (fun cv i wr => ∃ (n : Nat) (c : Int) (y : List Int), n ≤ z.length ∧ i = .int .i64 n ∧ cv = .int .u64 c ∧ 0 ≤ c ∧ c ≤ 1 ∧ Own .u64 87 wr g y ∧ M.Dig M.BB y ∧ y.length = z.length ∧
        Hid (M.val M.BB y + M.BB ^ n * c = M.val M.BB z + M.BB ^ at_ * M.val M.BB l) ∧ w.grownBy wr (some g)) (fun _ i _ => z.length - (intOf i).toNat)
      case atStart => exact ⟨at_ + l.length, c, y, by omega, by go_num, rfl, hc0, hc1, hy, hyd, hyl, hv, hg⟩
      case round =>
        clear hc0 hc1 hy hyd hyl hv hg
        obtain ⟨n, c, y, hn, rfl, rfl, hc0, hc1, hy, hyd, hyl, hv, hg⟩ := hrel
        by_cases hz0 : c = 0
        · subst hz0
          go_wp2
          go_end0
          exact ⟨rfl, y, hy, hyd, hyl, by have := hv.out; simpa using this, hg⟩
        · have hc' : c = 1 := by omega
          subst hc'
          have hlt : n < z.length := by
            have h1 := hv.out
            have h2 := hroom'.out
            have h3 := M.val_nonneg M.BB_pos hyd
            rcases Nat.lt_or_ge n z.length with h | h
            · exact h
            · have := M.pow_le M.BB_pos h
              omega
          have hcy := hy.cell n (by omega)
          have hfy := hy.frozen n
          have hb2 := hyd.getD M.BB_pos n
          generalize hyx : y.getD n 0 = u at *
          have hadd := add64_0 u 1 hb2.1 (by decide) (by decide)
          have Hy := hide hyx
          have Hl := hide hyl
          clear hyx hyl
          go_wp2_with fail
          go_roundw
          case rel =>
            refine ⟨n + 1, M.hi (u + 1), y.set n (M.lo (u + 1)), by omega, by go_num, rfl, M.hi_nn (by omega), ?_, hy.set _ _, hyd.set _ (M.lo_bd _).1 (M.lo_bd _).2, by simpa using Hl.out, ?_, ?_⟩
            · exact M.hi_le (by have := M.BB_eq; omega)
            · show _ = _
              exact carry_step Hl.out hlt Hy.out hv.out
            · exact grown_trans hg (grown_set _ _ _ _)
          case measure => simp [intOf]; omega

/-- addAt of a slice that reads l. -/
theorem addAt_calls (w : World) (g : Nat) (z : List Int) (v : Value) (cap at_ : Nat) (l : List Int) (hz : Own .u64 87 w g z) (hd : M.Dig M.BB z) (hv : Row .u64 w v l) (hl : M.Dig M.BB l) (hcap : z.length ≤ 140737488355328)
    (hlen : at_ + l.length ≤ z.length) (hbg : Apart v l g) (hroom : M.val M.BB z + M.BB ^ at_ * M.val M.BB l < M.BB ^ z.length) :
    Calls Tryz.prog 124 #[.slice (some ⟨g, 0, none⟩) z.length cap, v, .int .i64 at_] w fun e w' => e = .returned (.tuple #[]) ∧
      ∃ z', Own .u64 87 w' g z' ∧ M.Dig M.BB z' ∧ z'.length = z.length ∧ M.val M.BB z' = M.val M.BB z + M.BB ^ at_ * M.val M.BB l ∧ w.grownBy w' (some g) := by
  obtain ⟨ao, cb, rfl, h1, h2, h3, h4⟩ := hv
  by_cases hn : l = []
  · subst hn
    exact addAt_nil w g z ao cb cap at_ hz hd hcap (by simpa using hlen)
  · obtain ⟨b, off, rfl, hc⟩ := h4 hn
    exact addAt_at w g z b off cb cap at_ l hz hd hl hcap hlen (hbg hn _ _ _ rfl) hc hroom
end Go.Proofs.YtlepicdpelkmlaaGreatDoor
/- ==== SubProduct ==== -/
namespace Go.Proofs.YtlepicdpelkmlaaGreatDoor
open Go.RowKit
set_option linter.unusedVariables false

/-- The two words of a product and a word, taken from a word: nothing runs over. -/
theorem words_sub {x y l s : Int} (hx : 0 ≤ x ∧ x < M.BB) (hy : 0 ≤ y ∧ y < M.BB) (hl : 0 ≤ l ∧ l < M.BB) (hs : 0 ≤ s ∧ s < M.BB) :
    0 ≤ M.hi (x * y) ∧ 0 ≤ M.hi (M.lo (x * y) + l) ∧ 0 ≤ M.bo (s - M.lo (M.lo (x * y) + l)) ∧ M.hi (x * y) + M.hi (M.lo (x * y) + l) + M.bo (s - M.lo (M.lo (x * y) + l)) ≤ 18446744073709551615 ∧
    M.lo (s - M.lo (M.lo (x * y) + l)) - M.BB * (M.hi (x * y) + M.hi (M.lo (x * y) + l) + M.bo (s - M.lo (M.lo (x * y) + l))) = s - (x * y + l) := by
  have h := mul_le hx hy
  generalize x * y = p at *
  unfold M.BB at *
  unfold M.hi M.lo M.bo
  split <;> omega

theorem subp_step {y z l : List Int} {off k : Nat} {x u d left p q : Int} (hlen : off + k < y.length) (hlt : k < l.length) (hd : l.getD k 0 = d) (hu : y.getD (off + k) 0 = u)
    (he : p - M.BB * q = u - (x * d + left)) (hv : M.val M.BB y - M.BB ^ (off + k) * left = M.val M.BB z - M.BB ^ off * (x * M.val M.BB (l.take k))) :
    M.val M.BB (y.set (off + k) p) - M.BB ^ (off + (k + 1)) * q = M.val M.BB z - M.BB ^ off * (x * M.val M.BB (l.take (k + 1))) := by
  rw [M.val_set _ _ _ hlen, M.val_take_succ _ _ hlt, hd, hu, show off + (k + 1) = off + k + 1 from rfl, Int.pow_succ, Int.pow_add]
  rw [Int.pow_add] at hv
  grind
theorem subp_last {y : List Int} {n : Nat} {u left V : Int} (hlen : n < y.length) (hu : y.getD n 0 = u) (u0 : 0 ≤ u ∧ u < M.BB) (l0 : 0 ≤ left ∧ left < M.BB) (hv : M.val M.BB y - M.BB ^ n * left = V) :
    M.val M.BB (y.set n (M.lo (u - left))) = V + M.BB ^ (n + 1) * M.bo (u - left) := by
  rw [M.val_set _ _ _ hlen, hu, Int.pow_succ]
  have := M.lo_bo (x := u - left) (by omega) (by omega)
  generalize M.lo (u - left) = p at *
  generalize M.bo (u - left) = q at *
  grind
theorem addb_last {y : List Int} {n : Nat} {u c V : Int} (hlen : n < y.length) (hu : y.getD n 0 = u) (hv : M.val M.BB y + M.BB ^ n * c = V) :
    M.val M.BB (y.set n (M.lo (u + c))) + M.BB ^ (n + 1) * M.hi (u + c) = V := by
  rw [M.val_set _ _ _ hlen, hu, Int.pow_succ]
  have := M.lo_hi (u + c)
  generalize M.lo (u + c) = p at *
  generalize M.hi (u + c) = q at *
  grind
theorem set_getD_ne {l : List Int} {i j : Nat} (x : Int) (h : i ≠ j) : (l.set i x).getD j 0 = l.getD j 0 := by
  rw [List.getD_eq_getElem?_getD, List.getElem?_set_ne h, ← List.getD_eq_getElem?_getD]

set_option maxRecDepth 100000 in
set_option maxHeartbeats 1600000 in
theorem subProduct_calls (w : World) (g off n cap : Nat) (z : List Int) (v : Value) (l : List Int) (x : Int) (hz : Own .u64 87 w g z) (hd : M.Dig M.BB z) (hr : Row .u64 w v l) (hl : M.Dig M.BB l)
    (hn : n = l.length + 1) (hlen : off + n ≤ z.length) (hbg : Apart v l g) (hx : 0 ≤ x ∧ x < M.BB) :
    Calls Tryz.prog 160 #[.slice (some ⟨g, off, none⟩) n cap, v, .int .u64 x] w fun e w' => ∃ c z', e = .returned (.int .u64 c) ∧ 0 ≤ c ∧ c ≤ 1 ∧
      Own .u64 87 w' g z' ∧ M.Dig M.BB z' ∧ z'.length = z.length ∧ (∀ j, j < off ∨ off + n ≤ j → z'.getD j 0 = z.getD j 0) ∧ M.val M.BB z' = M.val M.BB z - M.BB ^ off * (x * M.val M.BB l) + M.BB ^ (off + n) * c ∧ w.grownBy w' (some g) := by
  obtain ⟨ab, cb, rfl, b1, b2, b3, b4⟩ := hr
  have HN := hide hn
  have hn1 : l.length < n := by omega
  clear hn
  go_enter Tryz.func160, Tryz.ntmps160
  go_wp2
  go_loopw [7, 8, 16] (fun lv bv i wr => ∃ (k : Nat) (left bo : Int) (y : List Int), k ≤ l.length ∧ i = .int .i64 k ∧ lv = .int .u64 left ∧ bv = .int .u64 bo ∧ 0 ≤ left ∧ left < M.BB ∧ Own .u64 87 wr g y ∧ M.Dig M.BB y ∧ y.length = z.length ∧
      Hid (∀ j, j < off ∨ off + l.length ≤ j → y.getD j 0 = z.getD j 0) ∧ Hid (M.val M.BB y - M.BB ^ (off + k) * left = M.val M.BB z - M.BB ^ off * (x * M.val M.BB (l.take k))) ∧ w.grownBy wr (some g)) (fun _ _ i _ => l.length - (intOf i).toNat)
  case atStart => exact ⟨0, 0, 0, z, Nat.zero_le _, rfl, rfl, rfl, by decide, by decide, hz, hd, rfl, fun _ _ => rfl, by show _ = _; simp [M.val], grown_refl _ _⟩
  case round =>
    obtain ⟨k, left, bo, y, hk, rfl, rfl, rfl, hc0, hc1, hy, hyd, hyl, hh, hv, hg⟩ := hrel
    by_cases hlt : k < l.length
    · have hne : l ≠ [] := by rintro rfl; simp at hlt
      obtain ⟨b, ob, rfl, hcb⟩ := b4 hne
      have hcell : wr.cell? ⟨b, ob + k, none⟩ = some (.int .u64 (l.getD k 0)) := hg.cell (hcb k hlt) (by have := hbg hne _ _ _ rfl; simpa using this)
      have hcy := hy.cell (off + k) (by omega)
      have hfy := hy.frozen (off + k)
      have hb1 := hl.getD M.BB_pos k
      have hb2 := hyd.getD M.BB_pos (off + k)
      generalize hdx : l.getD k 0 = d at *
      generalize hyx : y.getD (off + k) 0 = u at *
      obtain ⟨p1, p2, p3, p4, p5⟩ := words_sub hx hb1 ⟨hc0, hc1⟩ hb2
      have hadd1 := add64_00 (M.lo (x * d)) left (M.lo_bd _).1 hc0
      have hadd2 := sub64_00 u (M.lo (M.lo (x * d) + left)) hb2.1 (M.lo_bd _).1 (M.lo_bd _).2
      have P5 := hide p5
      clear hcb b4 p5
      have Hx := hide hdx
      have Hy := hide hyx
      have Hl := hide hyl
      have HX := hide hx
      have HB1 := hide hb1
      clear hdx hyx hyl hx hb1
      generalize hA : M.hi (x * d) = A at *
      generalize hB : M.lo (x * d) = Bl at *
      have MM : ∀ W, Calls Tryz.prog 98 #[.int .u64 x, .int .u64 d] W fun e w' => e = .returned (.tuple #[.int .u64 A, .int .u64 Bl]) ∧ w' = W := by
        intro W; rw [← hA, ← hB]; exact mul64_calls x d W HX.out HB1.out
      clear hA hB
      have MM := hide MM
      go_wp2_with (go_at_call 98; refine (unhide MM _).mono ?_; rintro e w' ⟨rfl, rfl⟩)
      go_roundw
      case rel =>
        refine ⟨k + 1, _, _, y.set (off + k) (M.lo (u - M.lo (Bl + left))), by omega, by go_num, rfl, rfl, by omega, by rw [M.BB_eq]; omega, hy.set _ _, hyd.set _ (M.lo_bd _).1 (M.lo_bd _).2, by simpa using Hl.out, ?_, ?_, ?_⟩
        · intro j hj
          rw [set_getD_ne _ (by omega)]
          exact hh.out j hj
        · show _ = _
          exact subp_step (by have := Hl.out; omega) hlt Hx.out Hy.out P5.out hv.out
        · exact grown_trans hg (grown_set _ _ _ _)
      case measure => simp [intOf]; omega
    · have hk' : k = l.length := by omega
      subst hk'
      rw [List.take_length] at hv
      have hcy := hy.cell (off + l.length) (by omega)
      have hfy := hy.frozen (off + l.length)
      have hb2 := hyd.getD M.BB_pos (off + l.length)
      generalize hyx : y.getD (off + l.length) 0 = u at *
      have hadd2 := sub64_00 u left hb2.1 hc0 hc1
      have Hy := hide hyx
      have Hl := hide hyl
      clear b4 hyx hyl
      go_wp2
      go_ret
      refine ⟨M.bo (u - left), y.set (off + l.length) (M.lo (u - left)), rfl, (M.bo_bd _).1, (M.bo_bd _).2, hy.set _ _, hyd.set _ (M.lo_bd _).1 (M.lo_bd _).2, by simpa using Hl.out, ?_, ?_, grown_trans hg (grown_set _ _ _ _)⟩
      · intro j hj
        have := HN.out
        rw [set_getD_ne _ (by omega)]
        exact hh.out j (by omega)
      · rw [subp_last (by have := Hl.out; omega) Hy.out hb2 ⟨hc0, hc1⟩ hv.out, HN.out, Nat.add_assoc]

set_option maxRecDepth 100000 in
set_option maxHeartbeats 1600000 in
theorem addBack_calls (w : World) (g off n cap : Nat) (z : List Int) (v : Value) (l : List Int) (hz : Own .u64 87 w g z) (hd : M.Dig M.BB z) (hr : Row .u64 w v l) (hl : M.Dig M.BB l)
    (hn : n = l.length + 1) (hlen : off + n ≤ z.length) (hbg : Apart v l g) :
    Calls Tryz.prog 161 #[.slice (some ⟨g, off, none⟩) n cap, v] w fun e w' => ∃ c z', e = .returned (.int .u64 c) ∧ 0 ≤ c ∧ c ≤ 1 ∧
      Own .u64 87 w' g z' ∧ M.Dig M.BB z' ∧ z'.length = z.length ∧ (∀ j, j < off ∨ off + n ≤ j → z'.getD j 0 = z.getD j 0) ∧ M.val M.BB z' + M.BB ^ (off + n) * c = M.val M.BB z + M.BB ^ off * M.val M.BB l ∧ w.grownBy w' (some g) := by
  obtain ⟨ab, cb, rfl, b1, b2, b3, b4⟩ := hr
  have HN := hide hn
  have hn1 : l.length < n := by omega
  clear hn
  go_enter Tryz.func161, Tryz.ntmps161
  go_wp2
  go_loopw [5, 10] (fun cv i wr => ∃ (k : Nat) (c : Int) (y : List Int), k ≤ l.length ∧ i = .int .i64 k ∧ cv = .int .u64 c ∧ 0 ≤ c ∧ c ≤ 1 ∧ Own .u64 87 wr g y ∧ M.Dig M.BB y ∧ y.length = z.length ∧
      Hid (∀ j, j < off ∨ off + l.length ≤ j → y.getD j 0 = z.getD j 0) ∧ Hid (M.val M.BB y + M.BB ^ (off + k) * c = M.val M.BB z + M.BB ^ off * M.val M.BB (l.take k)) ∧ w.grownBy wr (some g)) (fun _ i _ => l.length - (intOf i).toNat)
  case atStart => exact ⟨0, 0, z, Nat.zero_le _, rfl, rfl, by decide, by decide, hz, hd, rfl, fun _ _ => rfl, by show _ = _; simp [M.val], grown_refl _ _⟩
  case round =>
    obtain ⟨k, c, y, hk, rfl, rfl, hc0, hc1, hy, hyd, hyl, hh, hv, hg⟩ := hrel
    by_cases hlt : k < l.length
    · have hne : l ≠ [] := by rintro rfl; simp at hlt
      obtain ⟨b, ob, rfl, hcb⟩ := b4 hne
      have hcell : wr.cell? ⟨b, ob + k, none⟩ = some (.int .u64 (l.getD k 0)) := hg.cell (hcb k hlt) (by have := hbg hne _ _ _ rfl; simpa using this)
      have hcy := hy.cell (off + k) (by omega)
      have hfy := hy.frozen (off + k)
      have hb1 := hl.getD M.BB_pos k
      have hb2 := hyd.getD M.BB_pos (off + k)
      generalize hdx : l.getD k 0 = d at *
      generalize hyx : y.getD (off + k) 0 = u at *
      have hadd := add64 u d c hb2.1 hb1.1 hc0 hc1
      clear hcb b4
      have Hx := hide hdx
      have Hy := hide hyx
      have Hl := hide hyl
      clear hdx hyx hyl
      go_wp2_with fail
      go_roundw
      case rel =>
        refine ⟨k + 1, M.hi (u + d + c), y.set (off + k) (M.lo (u + d + c)), by omega, by go_num, rfl, M.hi_nn (by omega), M.hi_le (by omega), hy.set _ _, hyd.set _ (M.lo_bd _).1 (M.lo_bd _).2, by simpa using Hl.out, ?_, ?_, ?_⟩
        · intro j hj
          rw [set_getD_ne _ (by omega)]
          exact hh.out j hj
        · show _ = _
          exact addAt_step Hl.out (by omega) hlt Hx.out Hy.out hv.out
        · exact grown_trans hg (grown_set _ _ _ _)
      case measure => simp [intOf]; omega
    · have hk' : k = l.length := by omega
      subst hk'
      rw [List.take_length] at hv
      have hcy := hy.cell (off + l.length) (by omega)
      have hfy := hy.frozen (off + l.length)
      have hb2 := hyd.getD M.BB_pos (off + l.length)
      generalize hyx : y.getD (off + l.length) 0 = u at *
      have hadd2 := add64_0 u c hb2.1 hc0 hc1
      have Hy := hide hyx
      have Hl := hide hyl
      clear b4 hyx hyl
      go_wp2
      go_ret
      refine ⟨M.hi (u + c), y.set (off + l.length) (M.lo (u + c)), rfl, M.hi_nn (by omega), M.hi_le (by have := M.BB_eq; omega), hy.set _ _, hyd.set _ (M.lo_bd _).1 (M.lo_bd _).2, by simpa using Hl.out, ?_, ?_, grown_trans hg (grown_set _ _ _ _)⟩
      · intro j hj
        have := HN.out
        rw [set_getD_ne _ (by omega)]
        exact hh.out j (by omega)
      · rw [HN.out, ← Nat.add_assoc]
        exact addb_last (by have := Hl.out; omega) Hy.out hv.out
end Go.Proofs.YtlepicdpelkmlaaGreatDoor
/- ==== MoveUp ==== -/
namespace Go.Proofs.YtlepicdpelkmlaaGreatDoor
open Go.RowKit
set_option linter.unusedVariables false

/-- What one digit becomes, and what it hands on. -/
theorem up_digit (d y : Int) (s : Nat) (hs : s ≤ 64) (hd : 0 ≤ d ∧ d < M.BB) (hy : 0 ≤ y ∧ y < 2 ^ s) :
    bits BinOp.or IntKind.u64 y (IntKind.u64.wrap (d * 2 ^ s)) = IntKind.u64.wrap (d * 2 ^ s) + y ∧ 0 ≤ d / 2 ^ (64 - s) ∧ d / 2 ^ (64 - s) < 2 ^ s ∧ 0 ≤ IntKind.u64.wrap (d * 2 ^ s) + y ∧ IntKind.u64.wrap (d * 2 ^ s) + y < M.BB ∧
    IntKind.u64.wrap (d * 2 ^ s) + M.BB * (d / 2 ^ (64 - s)) = d * 2 ^ s ∧ d / 2 ^ (64 - s) < M.BB := by
  have P := pow_split s (by omega)
  have p0 := two_pos s
  have p1 := two_pos (64 - s)
  have T := top_bits d s (by omega)
  rw [M.BB_eq] at *
  have pb : (2 : Int) ^ s ≤ 18446744073709551616 := by
    have : (2 : Int) ^ s ≤ 2 ^ 64 := by
      obtain ⟨c, hc⟩ := Nat.le.dest hs
      rw [← hc, Int.pow_add]
      have := Int.mul_le_mul_of_nonneg_left (show (1 : Int) ≤ 2 ^ c from two_pos c) (Int.le_of_lt p0)
      omega
    exact this
  have t0 : 0 ≤ d / 2 ^ (64 - s) := Int.ediv_nonneg hd.1 (Int.le_of_lt p1)
  have t1 : d / 2 ^ (64 - s) < 2 ^ s := by
    rw [Int.ediv_lt_iff_lt_mul p1, Int.mul_comm, P]; omega
  have e0 := Int.mul_ediv_add_emod (d * 2 ^ s) 18446744073709551616
  rw [T] at e0
  have ew : IntKind.u64.wrap (d * 2 ^ s) = d * 2 ^ s % 18446744073709551616 := by rw [IntKind.wrap_u64]
  have em : d * 2 ^ s % 18446744073709551616 = (d - d / 2 ^ (64 - s) * 2 ^ (64 - s)) * 2 ^ s := by
    rw [Int.sub_mul, Int.mul_assoc, P]
    omega
  have eA : 0 ≤ d - d / 2 ^ (64 - s) * 2 ^ (64 - s) := by have := Int.ediv_mul_le d (Int.ne_of_gt p1); omega
  have m0 := Int.emod_nonneg (d * 2 ^ s) (show (18446744073709551616 : Int) ≠ 0 by decide)
  have m1 := Int.emod_lt_of_pos (d * 2 ^ s) (show (0 : Int) < 18446744073709551616 by decide)
  have O := or_add (d * 2 ^ s % 18446744073709551616) y s _ eA em (by omega) hy.1 hy.2 (by omega)
  have mle : d * 2 ^ s % 18446744073709551616 ≤ 18446744073709551616 - 2 ^ s := by
    rw [em]
    have h1 : d - d / 2 ^ (64 - s) * 2 ^ (64 - s) ≤ 2 ^ (64 - s) - 1 := by
      have h2 := Int.emod_lt_of_pos d p1
      have h3 := Int.mul_ediv_add_emod d (2 ^ (64 - s))
      rw [Int.mul_comm] at h3
      omega
    have h4 := Int.mul_le_mul_of_nonneg_right h1 (Int.le_of_lt p0)
    rw [Int.sub_mul _ 1, P, Int.one_mul] at h4
    exact h4
  rw [ew]
  refine ⟨?_, t0, t1, by omega, by omega, by omega, by omega⟩
  have h1 : ∀ a b : Int, 0 ≤ a → a ≤ 18446744073709551615 → 0 ≤ b → b ≤ 18446744073709551615 → bits BinOp.or IntKind.u64 a b = bits BinOp.or IntKind.u64 b a := by
    intro a b ha ha1 hb hb1
    rw [u64_or a b ha (by omega) hb (by omega), u64_or b a hb (by omega) ha (by omega), Nat.or_comm]
  rw [h1 _ _ hy.1 (by omega) m0 (by omega), O]

theorem up_step {y la : List Int} {k : Nat} {d u x t p : Int} (hk : k < la.length) (hl : k + 1 < y.length) (hd : la.getD k 0 = d) (hu : y.getD k 0 = u) (h0 : y.getD (k + 1) 0 = 0) (hx : x + M.BB * t = d * p)
    (hv : M.val M.BB y = M.val M.BB (la.take k) * p) : M.val M.BB ((y.set k (x + u)).set (k + 1) t) = M.val M.BB (la.take (k + 1)) * p := by
  rw [M.val_set _ _ _ (by simpa using hl), M.val_set _ _ _ (by omega), M.val_take_succ _ _ hk, hd, hu, set_getD_ne _ (by omega), h0, Int.pow_succ]
  grind

set_option maxRecDepth 100000 in
set_option maxHeartbeats 1600000 in
theorem moveUp_calls (w : World) (va : Value) (la : List Int) (s : Nat) (ra : Row .u64 w va la) (da : M.Dig M.BB la) (na : la.length ≤ 17592186044416) (hs : s < 64) :
    Calls Tryz.prog 158 #[va, .int .i64 s] w fun e w' => (∃ z, e = .returned (.slice (some ⟨w.heap.size, 0, none⟩) (la.length + 1) (la.length + 1)) ∧ Own .u64 87 w' w.heap.size z ∧ M.Dig M.BB z ∧ z.length = la.length + 1 ∧ M.val M.BB z = M.val M.BB la * 2 ^ s) ∧ Below w.heap.size w w' := by
  obtain ⟨aa, ca, rfl, a1, a2, a3, a4⟩ := ra
  go_enter Tryz.func158, Tryz.ntmps158
  go_wp2_with (at_make; refine wpList_make_row _ rfl _ _ _ rfl .u64 _ 8 sliceU64 infoU64 .i64 .i64 _ _ (la.length + 1) rfl rfl (by omega) (by omega) (by decide) (by omega) ?_; intro w1 z1 hz1 ho1 hg1 hs1)
  have l1 : z1.length = la.length + 1 := by rw [hz1.out]; simp
  have d1 : M.Dig M.BB z1 := by rw [hz1.out]; exact M.Dig.replicate M.BB_pos _
  have v1 : M.val M.BB z1 = 0 := by rw [hz1.out]; exact M.val_replicate _
  have g1 : ∀ j, z1.getD j 0 = 0 := by
    intro j
    rw [hz1.out, List.getD_eq_getElem?_getD]
    simp [List.getElem?_replicate]
    split <;> rfl
  go_loopw [14] (fun i wr => ∃ (k : Nat) (y : List Int), k ≤ la.length ∧ i = .int .i64 k ∧ Own .u64 87 wr w.heap.size y ∧ M.Dig M.BB y ∧ y.length = la.length + 1 ∧
      Hid (∀ j, k < j → y.getD j 0 = 0) ∧ Hid (y.getD k 0 < 2 ^ s) ∧ Hid (M.val M.BB y = M.val M.BB (la.take k) * 2 ^ s) ∧ Below w.heap.size w wr) (fun i _ => la.length - (intOf i).toNat)
  case atStart => exact ⟨0, z1, Nat.zero_le _, rfl, ho1, d1, l1, fun j _ => g1 j, by show _ < _; rw [g1]; exact two_pos s, by show _ = _; rw [v1]; simp [M.val], grown_below hg1⟩
  case round =>
    clear l1 d1 v1 g1 ho1 hg1 hs1 hz1
    obtain ⟨k, y, hk, rfl, hy, hyd, hyl, hh, hu, hv, hg⟩ := hrel
    by_cases hlt : k < la.length
    · have hne : la ≠ [] := by rintro rfl; simp at hlt
      obtain ⟨b, oa, rfl, hca⟩ := a4 hne
      have hcell : wr.cell? ⟨b, oa + k, none⟩ = some (.int .u64 (la.getD k 0)) := (hg.cell (p := ⟨b, oa + k, none⟩) (World.block_lt_of_cell? w _ (hca k hlt))).trans (hca k hlt)
      have hx := da.getD M.BB_pos k
      have hyk := hyd.getD M.BB_pos k
      have hcy := hy.cell k (by omega)
      have hfy := hy.frozen k
      have hcy1 := hy.cell (k + 1) (by omega)
      have hfy1 := hy.frozen (k + 1)
      have UD := up_digit (la.getD k 0) (y.getD k 0) s (by omega) hx ⟨hyk.1, hu.out⟩
      generalize hdx : la.getD k 0 = d at *
      generalize hux : y.getD k 0 = u at *
      obtain ⟨e1, t0, t1, x0, x1, e2, t2⟩ := UD
      have E2 := hide e2
      have T1 := hide t1
      have Hx := hide hdx
      have Hu := hide hux
      have Hl := hide hyl
      clear hdx hux hyl a4 hca e2 t1
      generalize hW : IntKind.u64.wrap (d * 2 ^ s) = x at *
      generalize hT : d / 2 ^ (64 - s) = t at *
      go_wp2
      go_region
      all_goals (try go_wp2)
      go_roundw
      case rel =>
        have hlen : k + 1 < y.length := by have := Hl.out; omega
        refine ⟨k + 1, (y.set k (x + u)).set (k + 1) t, by omega, by go_num, (hy.set k (x + u)).set (k + 1) t, (hyd.set k x0 x1).set (k + 1) t0 t2, by simpa using Hl.out, ?_, ?_, ?_, ?_⟩
        · intro j hj
          rw [set_getD_ne _ (by omega), set_getD_ne _ (by omega)]
          exact hh.out j (by omega)
        · show _ < _
          have : ((y.set k (x + u)).set (k + 1) t).getD (k + 1) 0 = t := by simp [List.getD_eq_getElem?_getD, hlen]
          rw [this]
          exact T1.out
        · show _ = _
          exact up_step hlt hlen Hx.out Hu.out (hh.out _ (by omega)) E2.out hv.out
        · exact ((hg.then_grown (grown_set _ _ _ _) (by simp)).then_grown (grown_set _ _ _ _) (by simp)).drew
      case measure => simp [intOf]; omega
    · have hk' : k = la.length := by omega
      subst hk'
      rw [List.take_length] at hv
      clear a4
      go_wp2
      go_ret
      exact ⟨⟨y, rfl, hy, hyd, hyl, hv.out⟩, hg⟩
end Go.Proofs.YtlepicdpelkmlaaGreatDoor
/- ==== Tops ==== -/
namespace Go.Proofs.YtlepicdpelkmlaaGreatDoor
open Go.RowKit
set_option linter.unusedVariables false

/-- Two digits moved up, and the upper one taken. -/
theorem top_word (h l : Int) (s : Nat) (hs : s < 64) (hh : 0 ≤ h ∧ h * 2 ^ s ≤ 18446744073709551615) (hl : 0 ≤ l ∧ l < M.BB) :
    bits BinOp.or IntKind.u64 (IntKind.u64.wrap (h * 2 ^ s)) (l / 2 ^ (64 - s)) = (h * M.BB + l) / 2 ^ (64 - s) := by
  have P := pow_split s (by omega)
  have p0 := two_pos s
  have p1 := two_pos (64 - s)
  rw [M.BB_eq] at *
  have h0 : 0 ≤ h * 2 ^ s := Int.mul_nonneg hh.1 (Int.le_of_lt p0)
  have t0 : 0 ≤ l / 2 ^ (64 - s) := Int.ediv_nonneg hl.1 (Int.le_of_lt p1)
  have t1 : l / 2 ^ (64 - s) < 2 ^ s := by rw [Int.ediv_lt_iff_lt_mul p1, Int.mul_comm, P]; omega
  have t2 : l / 2 ^ (64 - s) ≤ 18446744073709551615 := Int.le_trans (Int.ediv_le_self _ hl.1) (by omega)
  have ew : IntKind.u64.wrap (h * 2 ^ s) = h * 2 ^ s := by rw [IntKind.wrap_u64]; omega
  rw [ew, or_add _ _ s h hh.1 rfl hh.2 t0 t1 t2, ← P]
  have e : h * (2 ^ (64 - s) * 2 ^ s) + l = l + 2 ^ (64 - s) * (h * 2 ^ s) := by grind
  rw [e, Int.add_mul_ediv_left _ _ (Int.ne_of_gt p1)]
  omega

set_option maxRecDepth 100000 in
set_option maxHeartbeats 2000000 in
theorem tops_at (w : World) (ba oa ca bb ob cb n m : Nat) (a1 a0 b1 b0 : Int) (hn : n + 2 ≤ 140737488355328) (k1 : w.cell? ⟨ba, oa + (n + 1), none⟩ = some (.int .u64 a1)) (k2 : w.cell? ⟨ba, oa + n, none⟩ = some (.int .u64 a0))
    (hm : m ≤ n + 2) (c0 : m = n + 2 → w.cell? ⟨bb, ob + (n + 1), none⟩ = some (.int .u64 b1)) (c1 : n + 1 ≤ m → w.cell? ⟨bb, ob + n, none⟩ = some (.int .u64 b0)) (d0 : m < n + 2 → b1 = 0) (d1 : m < n + 1 → b0 = 0)
    (ga : 0 < a1 ∧ a1 < M.BB) (ga0 : 0 ≤ a0 ∧ a0 < M.BB) (gb : 0 ≤ b1 ∧ b1 ≤ a1) (gb0 : 0 ≤ b0 ∧ b0 < M.BB) :
    Calls Tryz.prog 138 #[.slice (some ⟨ba, oa, none⟩) (n + 2) ca, .slice (some ⟨bb, ob, none⟩) m cb] w fun e w' => e = .returned (.tuple #[.int .u64 ((a1 * M.BB + a0) / 2 ^ (64 - lz a1)), .int .u64 ((b1 * M.BB + b0) / 2 ^ (64 - lz a1))]) ∧ ∃ nd, w' = w.drewN nd := by
  have a1le : a1 ≤ 18446744073709551615 := by have := ga.2; rw [M.BB_eq] at this; omega
  obtain ⟨f1, f2, f3⟩ := lz_facts a1 ga.1 a1le
  have LZ := hide (lz_calls a1 ga.1 a1le)
  have X := top_word a1 a0 (lz a1) f1 ⟨by omega, f3⟩ ga0
  have hb3 : b1 * 2 ^ lz a1 ≤ 18446744073709551615 := by
    have := Int.mul_le_mul_of_nonneg_right gb.2 (Int.le_of_lt (two_pos (lz a1)))
    omega
  have Y := top_word b1 b0 (lz a1) f1 ⟨gb.1, hb3⟩ gb0
  generalize lz a1 = s at *
  generalize (a1 * M.BB + a0) / 2 ^ (64 - s) = x at *
  clear f2 f3 hb3
  by_cases h0 : m = n + 2
  · subst h0
    have q1 := c0 rfl
    have q2 := c1 (by omega)
    generalize (b1 * M.BB + b0) / 2 ^ (64 - s) = y at *
    clear c0 c1 d0 d1
    go_enter Tryz.func138, Tryz.ntmps138
    go_wp2_with (go_at_call 156; refine (LZ.out _).mono ?_; rintro e w' ⟨rfl, hw'⟩; rw [hw']; clear hw' w')
    go_region
    all_goals (try go_wp2)
    all_goals (try go_region)
    all_goals (try go_wp2)
    all_goals go_ret2
    all_goals exact ⟨rfl, 2, rfl⟩
  · by_cases h1 : m = n + 1
    · subst h1
      have q2 := c1 (by omega)
      obtain rfl := d0 (by omega)
      have ey : (0 * M.BB + b0) / 2 ^ (64 - s) = b0 / 2 ^ (64 - s) := by simp
      rw [ey]
      clear c0 c1 d0 d1 Y ey
      go_enter Tryz.func138, Tryz.ntmps138
      go_wp2_with (go_at_call 156; refine (LZ.out _).mono ?_; rintro e w' ⟨rfl, hw'⟩; rw [hw']; clear hw' w')
      go_region
      all_goals (try go_wp2)
      all_goals (try go_region)
      all_goals (try go_wp2)
      all_goals go_ret2
      all_goals exact ⟨rfl, 2, rfl⟩
    · obtain rfl := d0 (by omega)
      obtain rfl := d1 (by omega)
      have ey : (0 * M.BB + 0) / 2 ^ (64 - s) = 0 := by simp
      rw [ey]
      have e1 : ((n : Int) + 2 - (m : Int) == 0) = false := by simp; omega
      have e2 : ((n : Int) + 2 - (m : Int) == 1) = false := by simp; omega
      clear c0 c1 d0 d1 Y ey h0 h1
      go_enter Tryz.func138, Tryz.ntmps138
      go_wp2_with (go_at_call 156; refine (LZ.out _).mono ?_; rintro e w' ⟨rfl, hw'⟩; rw [hw']; clear hw' w')
      go_region
      all_goals (try go_wp2)
      all_goals go_ret2
      all_goals exact ⟨rfl, _, rfl⟩
end Go.Proofs.YtlepicdpelkmlaaGreatDoor
/- ==== Simulate ==== -/
namespace Go.Proofs.YtlepicdpelkmlaaGreatDoor
open Go.RowKit
set_option linter.unusedVariables false

/-- A block of the record steps. -/
def Rec (w : World) (g : Nat) (u0 u1 v0 v1 : Int) (ev : Bool) : Prop := w.heap[g]? = some (.cells #[.int .u64 u0, .int .u64 u1, .int .u64 v0, .int .u64 v1, .bool ev] 158 (0, 0))
theorem Rec.c0 {w : World} {g : Nat} {u0 u1 v0 v1 : Int} {ev : Bool} (h : Rec w g u0 u1 v0 v1 ev) : w.cell? ⟨g, 0, none⟩ = some (.int .u64 u0) := by rw [cell_of_row w g 0 _ _ (0, 0) h]; rfl
theorem Rec.c1 {w : World} {g : Nat} {u0 u1 v0 v1 : Int} {ev : Bool} (h : Rec w g u0 u1 v0 v1 ev) : w.cell? ⟨g, 1, none⟩ = some (.int .u64 u1) := by rw [cell_of_row w g 1 _ _ (0, 0) h]; rfl
theorem Rec.c2 {w : World} {g : Nat} {u0 u1 v0 v1 : Int} {ev : Bool} (h : Rec w g u0 u1 v0 v1 ev) : w.cell? ⟨g, 2, none⟩ = some (.int .u64 v0) := by rw [cell_of_row w g 2 _ _ (0, 0) h]; rfl
theorem Rec.c3 {w : World} {g : Nat} {u0 u1 v0 v1 : Int} {ev : Bool} (h : Rec w g u0 u1 v0 v1 ev) : w.cell? ⟨g, 3, none⟩ = some (.int .u64 v1) := by rw [cell_of_row w g 3 _ _ (0, 0) h]; rfl
theorem Rec.c4 {w : World} {g : Nat} {u0 u1 v0 v1 : Int} {ev : Bool} (h : Rec w g u0 u1 v0 v1 ev) : w.cell? ⟨g, 4, none⟩ = some (.bool ev) := by rw [cell_of_row w g 4 _ _ (0, 0) h]; rfl
theorem Rec.fr {w : World} {g : Nat} {u0 u1 v0 v1 : Int} {ev : Bool} (h : Rec w g u0 u1 v0 v1 ev) (j : Nat) : w.frozen? ⟨g, j, none⟩ = false := by
  unfold Rec at h
  simp [World.frozen?, h]

/-- What simulate tells. -/
def SimPost (A B : Int) (e : Ending) : Prop := ∃ u0 u1 v0 v1 ev, e = .returned (.agg #[.int .u64 u0, .int .u64 u1, .int .u64 v0, .int .u64 v1, .bool ev]) ∧ 0 ≤ u0 ∧ u0 ≤ 18446744073709551615 ∧ 0 ≤ u1 ∧ u1 ≤ 18446744073709551615 ∧ 0 ≤ v0 ∧ v0 ≤ 18446744073709551615 ∧ 0 ≤ v1 ∧ v1 ≤ 18446744073709551615 ∧ (v0 ≠ 0 → M.Good A B u0 u1 v0 v1 ev)

theorem cells_set {w : World} {g j : Nat} {cs : Array Value} {t : TypeId} (h : w.heap[g]? = some (.cells cs t (0, 0))) (v : Value) : (w.setCell ⟨g, j, none⟩ v).heap[g]? = some (.cells (cs.setIfInBounds j v) t (0, 0)) := by
  simp [World.setCell, Array.getElem?_modify, h]
theorem Rec.step {w : World} {g : Nat} {u0 u1 v0 v1 : Int} {ev : Bool} (h : Rec w g u0 u1 v0 v1 ev) (a b c d : Int) (e : Bool) :
    Rec (((((w.setCell ⟨g, 0, none⟩ (.int .u64 a)).setCell ⟨g, 1, none⟩ (.int .u64 b)).setCell ⟨g, 2, none⟩ (.int .u64 c)).setCell ⟨g, 3, none⟩ (.int .u64 d)).setCell ⟨g, 4, none⟩ (.bool e)) g a b c d e := by
  have h1 := cells_set (j := 4) (cells_set (j := 3) (cells_set (j := 2) (cells_set (j := 1) (cells_set (j := 0) h (.int .u64 a)) (.int .u64 b)) (.int .u64 c)) (.int .u64 d)) (.bool e)
  exact h1
theorem grown5 (w : World) (g : Nat) (a b c d e : Value) : w.grownBy (((((w.setCell ⟨g, 0, none⟩ a).setCell ⟨g, 1, none⟩ b).setCell ⟨g, 2, none⟩ c).setCell ⟨g, 3, none⟩ d).setCell ⟨g, 4, none⟩ e) (some g) :=
  grown_trans (grown_trans (grown_trans (grown_trans (grown_set _ _ _ _) (grown_set _ _ _ _)) (grown_set _ _ _ _)) (grown_set _ _ _ _)) (grown_set _ _ _ _)
theorem Rec.kept {w w' : World} {g r : Nat} {u0 u1 v0 v1 : Int} {ev : Bool} (h : Rec w g u0 u1 v0 v1 ev) (q : w.grownBy w' (some r)) (hr : r ≠ g) : Rec w' g u0 u1 v0 v1 ev := by
  unfold Rec at *
  rw [q.block g (Array.getElem?_eq_some_iff.1 h).1 (by simp; omega)]
  exact h

set_option maxRecDepth 100000 in
set_option maxHeartbeats 2000000 in
theorem simulate_at (w : World) (va vb : Value) (X Y A B P a b : Int) (TP : ∀ W, Below w.heap.size w W → Calls Tryz.prog 138 #[va, vb] W fun e w' => e = .returned (.tuple #[.int .u64 X, .int .u64 Y]) ∧ ∃ nd, w' = W.drewN nd)
    (hY : 0 ≤ Y) (hXY : Y ≤ X) (hX : X ≤ 18446744073709551615) (hP : 0 < P) (hA : A = P * X + a) (hB : B = P * Y + b) (a0 : 0 ≤ a) (a1 : a < P) (b0 : 0 ≤ b) (b1 : b < P) :
    Calls Tryz.prog 117 #[va, vb] w fun e w' => SimPost A B e ∧ Below w.heap.size w w' := by
  have TP := hide TP
  have HA := hide hA
  have HB := hide hB
  have S0 := hide (M.Sim.start hY hXY)
  clear hA hB
  go_enter Tryz.func117, Tryz.ntmps117
  go_wp2_with (go_at_call 138; refine (TP.out _ (by exact (Below.refl _ _).alloc (Nat.le_refl _) _)).mono ?_; rintro e w1 ⟨rfl, nd, rfl⟩)
  go_loopw [5, 6, 8, 9] (fun xv yv uv vv wr => ∃ (x y u0 u1 u2 v0 v1 v2 : Int) (ev : Bool), xv = .int .u64 x ∧ yv = .int .u64 y ∧ uv = .int .u64 u2 ∧ vv = .int .u64 v2 ∧ Rec wr (w.heap.size + 1) u0 u1 v0 v1 ev ∧ Rec wr w.heap.size 0 0 0 0 false ∧ Hid (M.Sim X Y x y u1 u2 v1 v2 (M.sgn ev)) ∧
      Hid (v1 ≠ 0 → M.sgn ev * (u1 * A - v1 * B) ≤ B) ∧ Hid (v1 = 0 → u1 = 1 ∧ u2 = 0 ∧ v2 = 1) ∧ 0 ≤ u0 ∧ u0 ≤ 18446744073709551615 ∧ 0 ≤ v0 ∧ v0 ≤ 18446744073709551615 ∧ u1 ≤ 18446744073709551615 ∧ v1 ≤ 18446744073709551615 ∧ Hid (v0 ≠ 0 → M.Good A B u0 u1 v0 v1 ev) ∧ Below w.heap.size w wr) (fun _ yv _ _ _ => (intOf yv).toNat)
  case atStart =>
    refine ⟨X, Y, 0, 1, 0, 0, 0, 1, false, rfl, rfl, rfl, rfl, ?_, ?_, S0.out, fun h => absurd rfl h, fun _ => ⟨rfl, rfl, rfl⟩, by decide, by decide, by decide, by decide, by decide, by decide, fun h => absurd rfl h, ?_⟩
    · show ((w.heap.push _).push _)[w.heap.size + 1]? = _
      rw [Array.getElem?_push, if_pos (by simp)]
    · show ((w.heap.push _).push _)[w.heap.size]? = _
      rw [Array.getElem?_push, if_neg (by simp), Array.getElem?_push, if_pos rfl]
    · exact (show Below w.heap.size w ((w.alloc _).drewN nd) from ⟨rfl, rfl, rfl, by show w.heap.size ≤ (w.heap.push _).size; simp, fun k hk => Below.heap_alloc _ _ _ hk⟩).alloc (by show w.heap.size ≤ (w.heap.push _).size; simp) _
  case round =>
    obtain ⟨x, y, u0, u1, u2, v0, v1, v2, ev, rfl, rfl, rfl, rfl, r1, r2, S, hc, hi, p1, p2, p3, p4, p5, p6, hgood, hg⟩ := hrel
    have q0 := S.out.hu1
    have q1 := S.out.hu2
    have q2 := S.out.hv1
    have q3 := S.out.hv2
    have q4 := S.out.hy0
    have q5 := S.out.hxy
    have xX : x ≤ X := by
      have h1 := S.out.hix
      have h2 := Int.mul_nonneg q4 q2
      have h3 := Int.mul_le_mul_of_nonneg_left q3 (show 0 ≤ x by omega)
      omega
    have f1 := r1.fr
    have c0 := r1.c0
    have c1 := r1.c1
    have c2 := r1.c2
    have c3 := r1.c3
    have c4 := r1.c4
    have f2 := r2.fr
    have z0 := r2.c0
    have z1 := r2.c1
    have z2 := r2.c2
    have z3 := r2.c3
    have z4 := r2.c4
    by_cases h1 : v2 ≤ y
    · obtain ⟨B1, B2, B3, B4, B5, B6, B7, B8, B9⟩ := S.out.bounds h1
      by_cases h2 : v1 + v2 ≤ x - y
      · have N := hide (S.out.next h1)
        have G := S.out.good hP HA.out HB.out a0 a1 b0 b1 h1 h2 hc.out
        have y0 : (y == 0) = false := by simp; omega
        have hrem : x - x / y * y < y := by
          have h3 := Int.emod_lt_of_pos x (show 0 < y by omega)
          have h4 := Int.mul_ediv_add_emod x y
          rw [Int.mul_comm] at h4
          omega
        replace G : Hid _ := hide G
        generalize hq : x / y = q at *
        go_wp2
        go_roundw
        case rel =>
          have hv2 : v2 ≠ 0 := by omega
          rcases G.out with ⟨g1, g2⟩ | ⟨g1, g2⟩
          · exact ⟨y, x - q * y, u1, u2, u1 + q * u2, v1, v2, v1 + q * v2, !ev, rfl, rfl, rfl, rfl, r1.step _ _ _ _ _, r2.kept (grown5 _ _ _ _ _ _ _) (by omega), by show M.Sim _ _ _ _ _ _ _ _ _; rw [M.sgn_not]; exact N.out, fun _ => g2, fun h => absurd h hv2, q0, p5, q2, p6, by have := S.out.hle2; omega, by omega, fun _ => g1, hg.then_grown (grown5 _ _ _ _ _ _ _) (by rintro g ⟨⟩; omega)⟩
          · exact absurd (hi.out g1) g2
        case measure => simp [intOf]; omega
      · go_wp2
        refine bodyPost_ret (v := .agg #[.int .u64 u0, .int .u64 u1, .int .u64 v0, .int .u64 v1, .bool ev]) (by simp [results, Tryz.results117, go_sem, z0, z1, z2, z3, z4]) rfl ?_
        exact ⟨⟨u0, u1, v0, v1, ev, rfl, p1, p2, q0, p5, p3, p4, q2, p6, hgood.out⟩, hg.then_grown (grown5 _ _ _ _ _ _ _) (by rintro g ⟨⟩; omega)⟩
    · go_wp2
      refine bodyPost_ret (v := .agg #[.int .u64 u0, .int .u64 u1, .int .u64 v0, .int .u64 v1, .bool ev]) (by simp [results, Tryz.results117, go_sem, z0, z1, z2, z3, z4]) rfl ?_
      exact ⟨⟨u0, u1, v0, v1, ev, rfl, p1, p2, q0, p5, p3, p4, q2, p6, hgood.out⟩, hg.then_grown (grown5 _ _ _ _ _ _ _) (by rintro g ⟨⟩; omega)⟩
end Go.Proofs.YtlepicdpelkmlaaGreatDoor
/- ==== Difference ==== -/
namespace Go.Proofs.YtlepicdpelkmlaaGreatDoor
open Go.RowKit
set_option linter.unusedVariables false

set_option maxRecDepth 100000 in
set_option maxHeartbeats 400000 in
theorem digitAt_calls (w : World) (va : Value) (la : List Int) (i : Nat) (ra : Row .u64 w va la) : Calls Tryz.prog 163 #[va, .int .i64 i] w fun e w' => e = .returned (.int .u64 (la.getD i 0)) ∧ w' = w := by
  obtain ⟨aa, ca, rfl, a1, a2, a3, a4⟩ := ra
  by_cases h : i < la.length
  · obtain ⟨b, o, rfl, hc⟩ := a4 (by rintro rfl; simp at h)
    have hk := hc i h
    clear hc a4
    generalize la.getD i 0 = x at *
    go_enter Tryz.func163, Tryz.ntmps163
    go_wp2
    go_ret
    exact ⟨rfl, rfl⟩
  · have e : la.getD i 0 = 0 := by rw [List.getD_eq_getElem?_getD, List.getElem?_eq_none (by omega)]; rfl
    rw [e]
    clear a4
    go_enter Tryz.func163, Tryz.ntmps163
    go_wp2
    go_ret
    exact ⟨rfl, rfl⟩

theorem take_succ_val (l : List Int) (k : Nat) : M.val M.BB (l.take (k + 1)) = M.val M.BB (l.take k) + M.BB ^ k * l.getD k 0 := by
  by_cases h : k < l.length
  · exact M.val_take_succ l k h
  · rw [List.take_of_length_le (by omega), List.take_of_length_le (by omega), List.getD_eq_getElem?_getD, List.getElem?_eq_none (by omega)]
    simp
theorem take_set_val (l : List Int) (k : Nat) (x : Int) (h : k < l.length) : M.val M.BB ((l.set k x).take (k + 1)) = M.val M.BB (l.take k) + M.BB ^ k * x := by
  rw [take_succ_val, List.take_set_of_le (Nat.le_refl k)]
  have e1 : (l.set k x).getD k 0 = x := by simp [List.getD_eq_getElem?_getD, h]
  rw [e1]
/-- A product's two words with a word: the low word, and what is handed on. -/
theorem words_add {x y l : Int} (hx : 0 ≤ x ∧ x < M.BB) (hy : 0 ≤ y ∧ y < M.BB) (hl : 0 ≤ l ∧ l < M.BB) :
    0 ≤ M.hi (x * y) ∧ 0 ≤ M.hi (M.lo (x * y) + l) ∧ M.hi (x * y) + M.hi (M.lo (x * y) + l) ≤ 18446744073709551615 ∧ M.lo (M.lo (x * y) + l) + M.BB * (M.hi (x * y) + M.hi (M.lo (x * y) + l)) = x * y + l := by
  have h := mul_le hx hy
  generalize x * y = p at *
  unfold M.BB at *
  unfold M.hi M.lo
  omega
theorem diff_step {z la lb : List Int} {k : Nat} {x y a b l1 l2 bo p1 q1 p2 q2 d c : Int} (hk : k < z.length) (ha : la.getD k 0 = a) (hb : lb.getD k 0 = b) (e1 : p1 + M.BB * q1 = a * x + l1) (e2 : p2 + M.BB * q2 = b * y + l2) (e3 : d - M.BB * c = p1 - p2 - bo)
    (hv : M.val M.BB (z.take k) + M.BB ^ k * (l1 - l2 - bo) = x * M.val M.BB (la.take k) - y * M.val M.BB (lb.take k)) :
    M.val M.BB ((z.set k d).take (k + 1)) + M.BB ^ (k + 1) * (q1 - q2 - c) = x * M.val M.BB (la.take (k + 1)) - y * M.val M.BB (lb.take (k + 1)) := by
  rw [take_set_val _ _ _ hk, take_succ_val, take_succ_val, ha, hb, Int.pow_succ]
  grind
theorem diff_end {V c T P : Int} (hP : 0 < P) (h : V + P * c = T) (h0 : 0 ≤ V) (h1 : V < P) (t0 : 0 ≤ T) (t1 : T < P) : V = T := by
  have : c = 0 := by
    rcases Int.lt_trichotomy c 0 with hc | hc | hc
    · have := Int.mul_le_mul_of_nonneg_left (show c ≤ -1 by omega) (Int.le_of_lt hP)
      omega
    · exact hc
    · have := Int.mul_le_mul_of_nonneg_left (show 1 ≤ c by omega) (Int.le_of_lt hP)
      omega
  rw [this] at h
  omega

set_option maxRecDepth 100000 in
set_option maxHeartbeats 2000000 in
theorem difference_calls (w : World) (g N cap : Nat) (z : List Int) (va vb : Value) (la lb : List Int) (x y : Int) (hz : Own .u64 87 w g z) (hd : M.Dig M.BB z) (ra : Row .u64 w va la) (rb : Row .u64 w vb lb) (da : M.Dig M.BB la) (db : M.Dig M.BB lb)
    (hN : N ≤ z.length) (hcap : z.length ≤ 35184372088832) (ga : Apart va la g) (gb : Apart vb lb g) (hx : 0 ≤ x ∧ x < M.BB) (hy : 0 ≤ y ∧ y < M.BB) (na : la.length ≤ N) (nb : lb.length ≤ N)
    (t0 : 0 ≤ x * M.val M.BB la - y * M.val M.BB lb) (t1 : x * M.val M.BB la - y * M.val M.BB lb < M.BB ^ N) :
    Calls Tryz.prog 141 #[.slice (some ⟨g, 0, none⟩) N cap, va, vb, .int .u64 x, .int .u64 y] w fun e w' => e = .returned (.tuple #[]) ∧
      ∃ z', Own .u64 87 w' g z' ∧ M.Dig M.BB z' ∧ z'.length = z.length ∧ M.val M.BB (z'.take N) = x * M.val M.BB la - y * M.val M.BB lb ∧ w.grownBy w' (some g) := by
  have T0 := hide t0
  have T1 := hide t1
  clear t0 t1
  go_enter Tryz.func141, Tryz.ntmps141
  go_wp2
  go_loopw [10, 11, 12, 13, 21] (fun av bv ov cv i wr => ∃ (k : Nat) (l1 l2 bo c : Int) (q : List Int), k ≤ N ∧ i = .int .i64 k ∧ av = .int .u64 l1 ∧ bv = .int .u64 l2 ∧ ov = .int .u64 bo ∧ cv = .int .u64 c ∧ 0 ≤ l1 ∧ l1 < M.BB ∧ 0 ≤ l2 ∧ l2 < M.BB ∧ 0 ≤ bo ∧ bo ≤ 1 ∧
      Own .u64 87 wr g q ∧ M.Dig M.BB q ∧ Hid (q.length = z.length) ∧ Hid (M.val M.BB (q.take k) + M.BB ^ k * (l1 - l2 - bo) = x * M.val M.BB (la.take k) - y * M.val M.BB (lb.take k)) ∧ w.grownBy wr (some g)) (fun _ _ _ _ i _ => N - (intOf i).toNat)
  case atStart => exact ⟨0, 0, 0, 0, 0, z, Nat.zero_le _, rfl, rfl, rfl, rfl, rfl, by decide, by decide, by decide, by decide, by decide, by decide, hz, hd, rfl, by show _ = _; simp [M.val], grown_refl _ _⟩
  case round =>
    obtain ⟨k, l1, l2, bo, c, q, hk, rfl, rfl, rfl, rfl, rfl, a0, a1, b0, b1, o0, o1, oq, dq, lq, hv, hg⟩ := hrel
    by_cases hlt : k < N
    · have hb1 := da.getD M.BB_pos k
      have hb2 := db.getD M.BB_pos k
      have A1 := hide (digitAt_calls wr va la k (ra.kept hg (by rintro g ⟨⟩; exact ga)))
      have A2 := hide (digitAt_calls wr vb lb k (rb.kept hg (by rintro g ⟨⟩; exact gb)))
      have hcq := oq.cell k (by rw [lq.out]; omega)
      have hfq := oq.frozen k
      generalize hdx : la.getD k 0 = a at *
      generalize hdy : lb.getD k 0 = b at *
      obtain ⟨p1, p2, p3, p4⟩ := words_add hb1 hx ⟨a0, a1⟩
      obtain ⟨s1, s2, s3, s4⟩ := words_add hb2 hy ⟨b0, b1⟩
      have hadd1 := add64_00 (M.lo (a * x)) l1 (M.lo_bd _).1 a0
      have hadd2 := add64_00 (M.lo (b * y)) l2 (M.lo_bd _).1 b0
      have hsub := sub64 (M.lo (M.lo (a * x) + l1)) (M.lo (M.lo (b * y) + l2)) bo (M.lo_bd _).1 (M.lo_bd _).1 (M.lo_bd _).2 o0 o1
      have P4 := hide p4
      have S4 := hide s4
      have L3 := hide (M.lo_bo (x := M.lo (M.lo (a * x) + l1) - M.lo (M.lo (b * y) + l2) - bo) (by have := (M.lo_bd (M.lo (a * x) + l1)).1; have := (M.lo_bd (M.lo (b * y) + l2)).2; omega) (by have := (M.lo_bd (M.lo (a * x) + l1)).2; have := (M.lo_bd (M.lo (b * y) + l2)).1; omega))
      have Hx := hide hdx
      have Hy := hide hdy
      have M1 := hide (fun W => mul64_calls a x W hb1 hx)
      have M2 := hide (fun W => mul64_calls b y W hb2 hy)
      clear hdx hdy p4 s4
      generalize hA : M.hi (a * x) = A at *
      generalize hB : M.lo (a * x) = Al at *
      generalize hC : M.hi (b * y) = Bh at *
      generalize hD : M.lo (b * y) = Bl at *
      clear hA hB hC hD
      go_wp2_with fail
      refine A1.out.mono ?_
      rintro e w' ⟨rfl, hw'⟩
      rw [hw']
      clear hw' w'
      go_wp2_with fail
      refine (M1.out _).mono ?_
      rintro e w' ⟨rfl, hw'⟩
      rw [hw']
      clear hw' w'
      go_wp2_with fail
      refine A2.out.mono ?_
      rintro e w' ⟨rfl, hw'⟩
      rw [hw']
      clear hw' w'
      go_wp2_with fail
      refine (M2.out _).mono ?_
      rintro e w' ⟨rfl, hw'⟩
      rw [hw']
      clear hw' w'
      go_wp2_with fail
      go_roundw
      case rel =>
        refine ⟨k + 1, _, _, _, _, q.set k (M.lo (M.lo (Al + l1) - M.lo (Bl + l2) - bo)), by omega, by go_num, rfl, rfl, rfl, rfl, by omega, by rw [M.BB_eq]; omega, by omega, by rw [M.BB_eq]; omega, (M.bo_bd _).1, (M.bo_bd _).2, oq.set _ _, dq.set _ (M.lo_bd _).1 (M.lo_bd _).2, by show _ = _; simpa using lq.out, ?_, grown_trans hg (grown_set _ _ _ _)⟩
        show _ = _
        exact diff_step (by rw [lq.out]; omega) Hx.out Hy.out P4.out S4.out L3.out hv.out
      case measure => simp [intOf]; omega
    · have hk' : k = N := by omega
      subst hk'
      go_wp2
      go_end0
      refine ⟨rfl, q, oq, dq, lq.out, ?_, hg⟩
      have h1 := hv.out
      rw [List.take_of_length_le na, List.take_of_length_le nb] at h1
      have h2 := M.val_lt M.BB_pos (dq.take k)
      rw [List.length_take, Nat.min_eq_left (by rw [lq.out]; omega)] at h2
      exact diff_end (M.pow_pos M.BB_pos k) h1 (M.val_nonneg M.BB_pos (dq.take k)) h2 T0.out T1.out
end Go.Proofs.YtlepicdpelkmlaaGreatDoor
/- ==== Apply ==== -/
namespace Go.Proofs.YtlepicdpelkmlaaGreatDoor
open Go.RowKit
set_option linter.unusedVariables false

/-- New blocks, and writes to two of them at most. -/
structure Two (w w' : World) (g h : Nat) : Prop where
  os : w'.os = w.os
  tape : w'.tape = w.tape
  output : w'.output = w.output
  size : w.heap.size ≤ w'.heap.size
  block : ∀ k, k < w.heap.size → k ≠ g → k ≠ h → w'.heap[k]? = w.heap[k]?
theorem Two.row {k : IntKind} {w w' : World} {g h : Nat} {v : Value} {l : List Int} (q : Two w w' g h) (r : Row k w v l) (a1 : Apart v l g) (a2 : Apart v l h) : Row k w' v l := by
  obtain ⟨ao, cap, rfl, h1, h2, h3, h4⟩ := r
  refine ⟨ao, cap, rfl, h1, h2, h3, fun hl => ?_⟩
  obtain ⟨b, off, rfl, hc⟩ := h4 hl
  refine ⟨b, off, rfl, fun j hj => ?_⟩
  rw [World.cell?_of_block (w := w) (q.block b (World.block_lt_of_cell? w _ (hc j hj)) (a1 hl _ _ _ rfl) (a2 hl _ _ _ rfl))]
  exact hc j hj
theorem Two.own {k : IntKind} {e : TypeId} {w w' : World} {g h r : Nat} {z : List Int} (q : Two w w' g h) (o : Own k e w r z) (h1 : r ≠ g) (h2 : r ≠ h) : Own k e w' r z := by
  have := o.lt
  unfold Own at *
  rw [q.block r this h1 h2]
  exact o
theorem Two.below {w0 w w' : World} {g h : Nat} (q : Two w w' g h) (b : Below w0.heap.size w0 w) (h1 : w0.heap.size ≤ g) (h2 : w0.heap.size ≤ h) : Below w0.heap.size w0 w' :=
  b.trans ⟨q.os, q.tape, q.output, q.size, fun k hk => q.block k (Nat.lt_of_lt_of_le hk b.size) (by omega) (by omega)⟩
theorem two_of {w w1 w2 w3 : World} {g h : Nat} (b : Below w.heap.size w w1) (q1 : w1.grownBy w2 (some g)) (q2 : w2.grownBy w3 (some h)) : Two w w3 g h :=
  ⟨q2.os.trans (q1.os.trans b.os), q2.tape.trans (q1.tape.trans b.tape), q2.output.trans (q1.output.trans b.output), Nat.le_trans b.size (Nat.le_trans q1.size q2.size),
    fun k hk n1 n2 => (q2.block k (Nat.lt_of_lt_of_le hk (Nat.le_trans b.size q1.size)) (by simpa using n2)).trans ((q1.block k (Nat.lt_of_lt_of_le hk b.size) (by simpa using n1)).trans (b.block k hk))⟩

set_option maxRecDepth 100000 in
set_option maxHeartbeats 2000000 in
theorem apply_calls (w : World) (u0 u1 v0 v1 : Int) (ev : Bool) (g h N cg ch : Nat) (zg zh : List Int) (va vb : Value) (la lb : List Int) (og : Own .u64 87 w g zg) (oh : Own .u64 87 w h zh) (dg : M.Dig M.BB zg) (dh : M.Dig M.BB zh) (hgh : g ≠ h)
    (ra : Row .u64 w va la) (rb : Row .u64 w vb lb) (da : M.Dig M.BB la) (db : M.Dig M.BB lb) (hN : N ≤ zg.length) (hN2 : N ≤ zh.length) (ng : zg.length ≤ 35184372088832) (nh : zh.length ≤ 35184372088832)
    (ag : Apart va la g) (ah : Apart va la h) (bg : Apart vb lb g) (bh : Apart vb lb h) (na : la.length ≤ N) (nb : lb.length ≤ N)
    (hu0 : 0 ≤ u0 ∧ u0 < M.BB) (hu1 : 0 ≤ u1 ∧ u1 < M.BB) (hv0 : 0 ≤ v0 ∧ v0 < M.BB) (hv1 : 0 ≤ v1 ∧ v1 < M.BB) (A' B' : Int)
    (eA : A' = if ev then u0 * M.val M.BB la - v0 * M.val M.BB lb else v0 * M.val M.BB lb - u0 * M.val M.BB la) (eB : B' = if ev then v1 * M.val M.BB lb - u1 * M.val M.BB la else u1 * M.val M.BB la - v1 * M.val M.BB lb)
    (hA : 0 ≤ A' ∧ A' < M.BB ^ N) (hB : 0 ≤ B' ∧ B' < M.BB ^ N) :
    Calls Tryz.prog 119 #[.agg #[.int .u64 u0, .int .u64 u1, .int .u64 v0, .int .u64 v1, .bool ev], .slice (some ⟨g, 0, none⟩) N cg, .slice (some ⟨h, 0, none⟩) N ch, va, vb] w fun e w' => e = .returned (.tuple #[]) ∧
      ∃ z1 z2, Own .u64 87 w' g z1 ∧ Own .u64 87 w' h z2 ∧ M.Dig M.BB z1 ∧ M.Dig M.BB z2 ∧ z1.length = zg.length ∧ z2.length = zh.length ∧ M.val M.BB (z1.take N) = A' ∧ M.val M.BB (z2.take N) = B' ∧ Two w w' g h := by
  have b1 : Below w.heap.size w (w.alloc (.cells #[.int .u64 u0, .int .u64 u1, .int .u64 v0, .int .u64 v1, .bool ev] 158)) := grown_below (World.grownBy_alloc _ _ _)
  have og1 := og.below b1
  have oh1 := oh.below b1
  have ra1 := ra.below b1
  have rb1 := rb.below b1
  have r1 : Rec (w.alloc (.cells #[.int .u64 u0, .int .u64 u1, .int .u64 v0, .int .u64 v1, .bool ev] 158)) w.heap.size u0 u1 v0 v1 ev := heap_alloc_new w _
  have gl := og.lt
  cases ev
  · simp only [Bool.false_eq_true, if_false] at eA eB
    have C1 := hide (difference_calls _ g N cg zg vb va lb la v0 u0 og1 dg rb1 ra1 db da hN ng bg ag hv0 hu0 nb na (by rw [← eA]; exact hA.1) (by rw [← eA]; exact hA.2))
    have EA := hide eA
    have EB := hide eB
    go_enter Tryz.func119, Tryz.ntmps119
    go_wp2_with fail
    refine C1.out.mono ?_
    rintro e w2 ⟨rfl, z1, s1, s2, s3, s4, s5⟩
    have C2 := hide (difference_calls w2 h N ch zh va vb la lb u1 v1 (oh1.kept s5 (by simpa using hgh)) dh (ra1.kept s5 (by rintro q ⟨⟩; exact ag)) (rb1.kept s5 (by rintro q ⟨⟩; exact bg)) da db hN2 nh ah bh hu1 hv1 na nb (by rw [← eB]; exact hB.1) (by rw [← eB]; exact hB.2))
    have r2 := r1.kept s5 (by omega)
    have k0 := r2.c0
    have k1 := r2.c1
    have k2 := r2.c2
    have k3 := r2.c3
    replace s3 := hide s3
    replace s4 := hide s4
    clear eA eB
    go_wp2_with fail
    refine C2.out.mono ?_
    rintro e w3 ⟨rfl, z2, t1, t2, t3, t4, t5⟩
    replace t3 := hide t3
    replace t4 := hide t4
    go_wp2
    go_end0
    exact ⟨rfl, z1, z2, s1.kept t5 (by simpa using hgh.symm), t1, s2, t2, s3.out, t3.out, s4.out.trans EA.out.symm, t4.out.trans EB.out.symm, two_of b1 s5 t5⟩
  · simp only [if_true] at eA eB
    have C1 := hide (difference_calls _ g N cg zg va vb la lb u0 v0 og1 dg ra1 rb1 da db hN ng ag bg hu0 hv0 na nb (by rw [← eA]; exact hA.1) (by rw [← eA]; exact hA.2))
    have EA := hide eA
    have EB := hide eB
    go_enter Tryz.func119, Tryz.ntmps119
    go_wp2_with fail
    refine C1.out.mono ?_
    rintro e w2 ⟨rfl, z1, s1, s2, s3, s4, s5⟩
    have C2 := hide (difference_calls w2 h N ch zh vb va lb la v1 u1 (oh1.kept s5 (by simpa using hgh)) dh (rb1.kept s5 (by rintro q ⟨⟩; exact bg)) (ra1.kept s5 (by rintro q ⟨⟩; exact ag)) db da hN2 nh bh ah hv1 hu1 nb na (by rw [← eB]; exact hB.1) (by rw [← eB]; exact hB.2))
    have r2 := r1.kept s5 (by omega)
    have k0 := r2.c0
    have k1 := r2.c1
    have k2 := r2.c2
    have k3 := r2.c3
    replace s3 := hide s3
    replace s4 := hide s4
    clear eA eB
    go_wp2_with fail
    refine C2.out.mono ?_
    rintro e w3 ⟨rfl, z2, t1, t2, t3, t4, t5⟩
    replace t3 := hide t3
    replace t4 := hide t4
    go_wp2
    go_end0
    exact ⟨rfl, z1, z2, s1.kept t5 (by simpa using hgh.symm), t1, s2, t2, s3.out, t3.out, s4.out.trans EA.out.symm, t4.out.trans EB.out.symm, two_of b1 s5 t5⟩
end Go.Proofs.YtlepicdpelkmlaaGreatDoor
/- ==== LongMath ==== -/
namespace Go.Proofs.YtlepicdpelkmlaaGreatDoor
open Go.RowKit
set_option linter.unusedVariables false

theorem take_of_getD {z r : List Int} (hl : z.length = r.length) (i : Nat) (h : ∀ j, j < i → z.getD j 0 = r.getD j 0) : z.take i = r.take i := by
  apply List.ext_getElem?
  intro j
  rw [List.getElem?_take, List.getElem?_take]
  by_cases hj : j < i
  · rw [if_pos hj, if_pos hj]
    have := h j hj
    rw [List.getD_eq_getElem?_getD, List.getD_eq_getElem?_getD] at this
    by_cases hz : j < z.length
    · rw [List.getElem?_eq_getElem hz, List.getElem?_eq_getElem (hl ▸ hz)] at this ⊢
      simpa using this
    · rw [List.getElem?_eq_none (by omega), List.getElem?_eq_none (by omega)]
  · rw [if_neg hj, if_neg hj]
theorem drop_of_getD {z r : List Int} (hl : z.length = r.length) (i : Nat) (h : ∀ j, i ≤ j → z.getD j 0 = r.getD j 0) : z.drop i = r.drop i := by
  apply List.ext_getElem?
  intro j
  rw [List.getElem?_drop, List.getElem?_drop]
  have := h (i + j) (by omega)
  rw [List.getD_eq_getElem?_getD, List.getD_eq_getElem?_getD] at this
  by_cases hz : i + j < z.length
  · rw [List.getElem?_eq_getElem hz, List.getElem?_eq_getElem (hl ▸ hz)] at this ⊢
    simpa using this
  · rw [List.getElem?_eq_none (by omega), List.getElem?_eq_none (by omega)]

/-- The rest is what lies below the window, and the window. -/
theorem win {z r : List Int} (hl : z.length = r.length) (i n : Nat) (hi : i + n ≤ r.length) (hz : M.Dig M.BB z) (hag : ∀ j, j < i ∨ i + n ≤ j → z.getD j 0 = r.getD j 0) (h0 : M.val M.BB (r.drop (i + n)) = 0) :
    M.val M.BB z = M.val M.BB (r.take i) + M.BB ^ i * M.val M.BB ((z.drop i).take n) ∧ 0 ≤ M.val M.BB ((z.drop i).take n) ∧ M.val M.BB ((z.drop i).take n) < M.BB ^ n := by
  have e1 := M.val_take_drop (B := M.BB) z i (by omega)
  have e2 := M.val_take_drop (B := M.BB) (z.drop i) n (by simp; omega)
  rw [List.drop_drop, drop_of_getD hl (i + n) (fun j hj => hag j (.inr hj)), h0] at e2
  rw [take_of_getD hl i (fun j hj => hag j (.inl hj)), e2] at e1
  have h2 := M.val_nonneg M.BB_pos ((hz.drop i).take n)
  have h3 := M.val_lt M.BB_pos ((hz.drop i).take n)
  have e3 : ((z.drop i).take n).length = n := by simp; omega
  rw [e3] at h3
  exact ⟨by simpa using e1, h2, h3⟩
/-- Nothing lies above the window. -/
theorem above_zero {r : List Int} (hr : M.Dig M.BB r) (m : Nat) (hm : m ≤ r.length) (h : M.val M.BB r < M.BB ^ m) : M.val M.BB (r.drop m) = 0 := by
  have e1 := M.val_take_drop (B := M.BB) r m hm
  have h1 := M.val_nonneg M.BB_pos (hr.take m)
  have h2 := M.val_nonneg M.BB_pos (hr.drop m)
  have h3 := M.pow_pos M.BB_pos m
  rcases Int.lt_or_le 0 (M.val M.BB (r.drop m)) with h4 | h4
  · have := Int.mul_le_mul_of_nonneg_left (show 1 ≤ M.val M.BB (r.drop m) by omega) (Int.le_of_lt h3)
    omega
  · omega
theorem cancel_pow {a b : Int} (i : Nat) (h : M.BB ^ i * a = M.BB ^ i * b) : a = b := Int.eq_of_mul_eq_mul_left (Int.ne_of_gt (M.pow_pos M.BB_pos i)) h

/-- Behind a multiple q of the divisor taken from the window: the window, and whether it was too much. -/
theorem inner_facts {V Vr T W Wr q D c : Int} {i n : Nat} (hD : 0 < D) (hz : V = T + M.BB ^ i * W) (hr : Vr = T + M.BB ^ i * Wr) (hV : V - M.BB ^ (i + n) * c = Vr - M.BB ^ i * (q * D)) (w0 : 0 ≤ W) (w1 : W < M.BB ^ n) (hq : Wr / D ≤ q) :
    (c = 0 → q = Wr / D ∧ W = Wr % D) ∧ (c = 1 → Wr / D ≤ q - 1) := by
  have e : W - M.BB ^ n * c = Wr - q * D := by
    apply cancel_pow i
    rw [Int.pow_add] at hV
    rw [hz, hr] at hV
    grind
  constructor
  · rintro rfl
    have h1 : q * D ≤ Wr := by
      rw [Int.mul_zero] at e
      omega
    have h2 : q ≤ Wr / D := (Int.le_ediv_iff_mul_le hD).2 h1
    have h3 : q = Wr / D := by omega
    refine ⟨h3, ?_⟩
    rw [h3] at e
    have := Int.mul_ediv_add_emod Wr D
    rw [Int.mul_comm] at this
    rw [Int.mul_zero] at e
    omega
  · rintro rfl
    have h1 : Wr < q * D := by
      rw [Int.mul_one] at e
      omega
    have : Wr / D < q := by rw [Int.ediv_lt_iff_lt_mul hD]; exact h1
    omega
/-- One digit of the quotient: the rest is smaller by it, and below the divisor at the next place. -/
theorem outer_step {A V V' T Wr D Q : Int} {i : Nat} {y : List Int} (hi : i < y.length) (hD : 0 < D) (hA : A = V + D * (M.BB ^ (i + 1) * M.val M.BB (y.drop (i + 1)))) (hr : V = T + M.BB ^ i * Wr) (t1 : T < M.BB ^ i) (hQ : Q = Wr / D) (hV' : V' = T + M.BB ^ i * (Wr % D)) :
    A = V' + D * (M.BB ^ i * M.val M.BB ((y.set i Q).drop i)) ∧ V' < D * M.BB ^ i := by
  rw [drop_set_val _ _ _ hi]
  have e := Int.mul_ediv_add_emod Wr D
  rw [← hQ] at e
  have m1 := Int.emod_lt_of_pos Wr hD
  generalize Wr % D = R at *
  constructor
  · rw [hA, hr, hV', Int.pow_succ]
    grind
  · have h1 : M.BB ^ i * R ≤ M.BB ^ i * (D - 1) := Int.mul_le_mul_of_nonneg_left (by omega) (Int.le_of_lt (M.pow_pos M.BB_pos i))
    rw [hV']
    grind
theorem div_end {A D q r : Int} (hD : 0 < D) (h : A = r + D * q) (h0 : 0 ≤ r) (h1 : r < D) : q = A / D ∧ r = A % D := by
  rw [h, Int.add_mul_ediv_left _ _ (Int.ne_of_gt hD), Int.ediv_eq_zero_of_lt h0 h1, Int.add_mul_emod_self_left, Int.emod_eq_of_lt h0 h1]
  omega
end Go.Proofs.YtlepicdpelkmlaaGreatDoor
/- ==== Guess ==== -/
namespace Go.Proofs.YtlepicdpelkmlaaGreatDoor
open Go.RowKit
set_option linter.unusedVariables false

/-- The quotient of two numbers is not above that of their tops. -/
theorem guess_ge {P D h l y a b S : Int} (hS : 0 < S) (hy : 0 < y) (hP : P = (h * M.BB + l) * S + a) (ha : a < S) (hD : D = y * S + b) (hb : 0 ≤ b) (hP0 : 0 ≤ P) : P / D ≤ (h * M.BB + l) / y := by
  have hD0 : 0 < D := by have := Int.mul_pos hy hS; omega
  have q0 : 0 ≤ P / D := Int.ediv_nonneg hP0 (Int.le_of_lt hD0)
  rw [Int.le_ediv_iff_mul_le hy]
  have h1 := Int.ediv_mul_le P (Int.ne_of_gt hD0)
  generalize P / D = q at *
  have h2 : q * y * S ≤ q * D := by
    rw [hD]
    have := Int.mul_nonneg q0 hb
    grind
  have h3 : q * y * S < (h * M.BB + l + 1) * S := by
    rw [Int.add_mul _ 1]
    omega
  have := Int.lt_of_mul_lt_mul_right h3 (Int.le_of_lt hS)
  omega
theorem guess_top {P D n : Int} (hD : 0 < D) (h : P < M.BB * D) : P / D ≤ 18446744073709551615 := by
  have : P / D < M.BB := by rw [Int.ediv_lt_iff_lt_mul hD]; exact h
  rw [M.BB_eq] at this
  omega

set_option maxRecDepth 100000 in
set_option maxHeartbeats 1600000 in
theorem guess_at (w : World) (bp op cp bb ob cb n : Nat) (h l y Q : Int) (hn : n + 2 ≤ 140737488355328) (k1 : w.cell? ⟨bp, op + (n + 1), none⟩ = some (.int .u64 h)) (k2 : w.cell? ⟨bp, op + n, none⟩ = some (.int .u64 l)) (k3 : w.cell? ⟨bb, ob + n, none⟩ = some (.int .u64 y))
    (g1 : 0 ≤ h ∧ h < M.BB) (g2 : 0 ≤ l ∧ l < M.BB) (g3 : 0 ≤ y ∧ y < M.BB) (htop : 0 < y) (GT : Q ≤ 18446744073709551615) (GE : Q ≤ (h * M.BB + l) / y) :
    Calls Tryz.prog 159 #[.slice (some ⟨bp, op, none⟩) (n + 2) cp, .slice (some ⟨bb, ob, none⟩) (n + 1) cb] w fun e w' => ∃ q, e = .returned (.int .u64 q) ∧ 0 ≤ q ∧ q ≤ 18446744073709551615 ∧ Q ≤ q ∧ ∃ n, w' = w.drewN n := by
  by_cases hc : y ≤ h
  · go_enter Tryz.func159, Tryz.ntmps159
    go_wp2
    go_region
    all_goals (try go_wp2)
    all_goals go_ret
    all_goals exact ⟨_, rfl, by decide, by decide, GT, 1, rfl⟩
  · have C := hide (fun W => div64_calls h l y W g1.1 (by omega) g2 g3.2)
    have q0 : 0 ≤ (h * M.BB + l) / y := Int.ediv_nonneg (by have := Int.mul_nonneg g1.1 (Int.le_of_lt M.BB_pos); omega) (by omega)
    have q1 : (h * M.BB + l) / y ≤ 18446744073709551615 := by
      have : (h * M.BB + l) / y < M.BB := by
        rw [Int.ediv_lt_iff_lt_mul htop]
        have := Int.mul_le_mul_of_nonneg_right (show h + 1 ≤ y by omega) (Int.le_of_lt M.BB_pos)
        rw [Int.add_mul] at this
        rw [Int.mul_comm M.BB y]
        omega
      rw [M.BB_eq] at this ⊢
      omega
    generalize (h * M.BB + l) / y = q at *
    generalize (h * M.BB + l) % y = s at *
    have z1 : (0 : Int) ≤ (n : Int) + 1 := by omega
    have z2 : (n : Int) + 1 < (n : Int) + 2 := by omega
    have z3 : (n : Int) < (n : Int) + 2 := by omega
    have z4 : (n : Int) < (n : Int) + 1 := by omega
    have z5 : IntKind.i64.wrap (n : Int) = (n : Int) := by rw [IntKind.wrap_i64]; omega
    go_enter Tryz.func159, Tryz.ntmps159
    go_wp2
    go_region
    all_goals (try go_wp2)
    generalize hW : w.drew = W
    rw [show w.cell? ⟨bp, op + (n + 1), none⟩ = W.cell? ⟨bp, op + (n + 1), none⟩ from by rw [← hW]; rfl] at k1
    rw [show w.cell? ⟨bp, op + n, none⟩ = W.cell? ⟨bp, op + n, none⟩ from by rw [← hW]; rfl] at k2
    rw [show w.cell? ⟨bb, ob + n, none⟩ = W.cell? ⟨bb, ob + n, none⟩ from by rw [← hW]; rfl] at k3
    have HW := hide hW
    clear hW
    go_quiet ((go_at_call 157; exact Calls.quiet_of (unhide C _)))
    go_wp2
    go_ret
    exact ⟨q, rfl, q0, q1, GE, 1 + nq, by rw [← HW.out]; exact World.drewN_drewN _ _ _⟩

theorem guessDigit_calls (w : World) (bp op cp bb ob cb n : Nat) (lp lb : List Int) (rp : Row .u64 w (.slice (some ⟨bp, op, none⟩) (n + 2) cp) lp) (rb : Row .u64 w (.slice (some ⟨bb, ob, none⟩) (n + 1) cb) lb)
    (dp : M.Dig M.BB lp) (db : M.Dig M.BB lb) (htop : 0 < lb.getD n 0) (hlt : M.val M.BB lp < M.BB * M.val M.BB lb) :
    Calls Tryz.prog 159 #[.slice (some ⟨bp, op, none⟩) (n + 2) cp, .slice (some ⟨bb, ob, none⟩) (n + 1) cb] w fun e w' => ∃ q, e = .returned (.int .u64 q) ∧ 0 ≤ q ∧ q ≤ 18446744073709551615 ∧ M.val M.BB lp / M.val M.BB lb ≤ q ∧ ∃ n, w' = w.drewN n := by
  obtain ⟨_, _, e, cc0, cc1, _, c4⟩ := rp
  simp at e
  obtain ⟨rfl, hn, rfl⟩ := e
  obtain ⟨_, _, e, hcp⟩ := c4 (by rintro rfl; simp at hn)
  simp at e
  obtain ⟨rfl, rfl⟩ := e
  obtain ⟨_, _, e, _, cc2, _, c5⟩ := rb
  simp at e
  obtain ⟨rfl, hn1, rfl⟩ := e
  obtain ⟨_, _, e, hcb⟩ := c5 (by rintro rfl; simp at hn1)
  simp at e
  obtain ⟨rfl, rfl⟩ := e
  have VP := M.val_take_drop (B := M.BB) lp n (by omega)
  rw [drop_val _ _ (by omega), drop_val _ _ (by omega), List.drop_eq_nil_of_le (by omega)] at VP
  have VB := M.val_take_drop (B := M.BB) lb n (by omega)
  rw [drop_val _ _ (by omega), List.drop_eq_nil_of_le (by omega)] at VB
  have b1 := M.val_lt M.BB_pos (dp.take n)
  rw [List.length_take, Nat.min_eq_left (by omega)] at b1
  have b2 := M.val_nonneg M.BB_pos (db.take n)
  have b3 := M.val_nonneg M.BB_pos dp
  have S0 := M.pow_pos M.BB_pos n
  have VB' : M.val M.BB lb = lb.getD n 0 * M.BB ^ n + M.val M.BB (lb.take n) := by rw [VB]; simp only [M.val]; grind
  have VP' : M.val M.BB lp = (lp.getD (n + 1) 0 * M.BB + lp.getD n 0) * M.BB ^ n + M.val M.BB (lp.take n) := by rw [VP]; simp only [M.val]; grind
  have GE := guess_ge S0 htop VP' b1 VB' b2 b3
  have BP : 0 < M.val M.BB lb := by
    have := Int.mul_pos htop S0
    omega
  exact guess_at w bp op cp bb ob cb n _ _ _ _ (by omega) (hcp (n + 1) (by omega)) (hcp n (by omega)) (hcb n (by omega)) (dp.getD M.BB_pos _) (dp.getD M.BB_pos _) (db.getD M.BB_pos _) htop (guess_top (n := 0) BP hlt) GE
end Go.Proofs.YtlepicdpelkmlaaGreatDoor
