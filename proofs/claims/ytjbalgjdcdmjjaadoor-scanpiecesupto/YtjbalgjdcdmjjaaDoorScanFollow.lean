/-
  The scanner's states: characters.
-/
import Derived.Test.YtjbalgjdcdmjjaaDoorScanNames
namespace Go.Proofs.YtjbalgjdcdmjjaaDoor
open Go.RowKit
set_option linter.unusedVariables false
set_option maxRecDepth 100000 in
set_option maxHeartbeats 1600000 in
theorem follow_calls (w : World) (b : UInt8) :
    Calls Tryd.prog 108 #[.int .u8 b.toNat] w fun e w' => e = .returned (.tuple #[.int .i64 (S.follow b).1, .int .u8 (S.follow b).2.1, .int .u8 (S.follow b).2.2]) ∧ w' = w := by
  obtain ⟨n, hn⟩ : ∃ n, b.toNat = n := ⟨_, rfl⟩
  unfold S.follow
  rw [hn]
  clear hn
  by_cases c0 : n < 194
  · have d0 : (n : Int) < 194 := by omega
    rw [if_pos (by omega)]
    clear c0
    go_enter Tryd.func108, Tryd.ntmps108
    go_wp2
    exact bodyPost_ret (v := .tuple #[.int .i64 0, .int .u8 0, .int .u8 0]) (by simp [results, Tryd.results108, go_sem]) rfl ⟨rfl, rfl⟩
  have d0 : ¬ (n : Int) < 194 := by omega
  by_cases c1 : 244 < n
  · have d1 : 244 < (n : Int) := by omega
    rw [if_pos (by omega)]
    clear c0 c1
    go_enter Tryd.func108, Tryd.ntmps108
    go_wp2
    exact bodyPost_ret (v := .tuple #[.int .i64 0, .int .u8 0, .int .u8 0]) (by simp [results, Tryd.results108, go_sem]) rfl ⟨rfl, rfl⟩
  have d1 : ¬ 244 < (n : Int) := by omega
  by_cases c2 : n < 224
  · have d2 : (n : Int) < 224 := by omega
    rw [if_neg (by omega), if_pos (by omega)]
    clear c0 c1 c2
    go_enter Tryd.func108, Tryd.ntmps108
    go_wp2
    exact bodyPost_ret (v := .tuple #[.int .i64 1, .int .u8 128, .int .u8 191]) (by simp [results, Tryd.results108, go_sem]) rfl ⟨rfl, rfl⟩
  have d2 : ¬ (n : Int) < 224 := by omega
  by_cases c3 : n = 224
  · have d3 : (n : Int) = 224 := by omega
    rw [if_neg (by omega), if_neg (by omega), if_pos (by omega)]
    clear c0 c1 c2 c3
    go_enter Tryd.func108, Tryd.ntmps108
    go_wp2
    exact bodyPost_ret (v := .tuple #[.int .i64 2, .int .u8 160, .int .u8 191]) (by simp [results, Tryd.results108, go_sem]) rfl ⟨rfl, rfl⟩
  have d3 : ¬ (n : Int) = 224 := by omega
  by_cases c4 : n = 237
  · have d4 : (n : Int) = 237 := by omega
    rw [if_neg (by omega), if_neg (by omega), if_neg (by omega), if_pos (by omega)]
    clear c0 c1 c2 c3 c4
    go_enter Tryd.func108, Tryd.ntmps108
    go_wp2
    exact bodyPost_ret (v := .tuple #[.int .i64 2, .int .u8 128, .int .u8 159]) (by simp [results, Tryd.results108, go_sem]) rfl ⟨rfl, rfl⟩
  have d4 : ¬ (n : Int) = 237 := by omega
  by_cases c5 : n < 240
  · have d5 : (n : Int) < 240 := by omega
    rw [if_neg (by omega), if_neg (by omega), if_neg (by omega), if_neg (by omega), if_pos (by omega)]
    clear c0 c1 c2 c3 c4 c5
    go_enter Tryd.func108, Tryd.ntmps108
    go_wp2
    exact bodyPost_ret (v := .tuple #[.int .i64 2, .int .u8 128, .int .u8 191]) (by simp [results, Tryd.results108, go_sem]) rfl ⟨rfl, rfl⟩
  have d5 : ¬ (n : Int) < 240 := by omega
  by_cases c6 : n = 240
  · have d6 : (n : Int) = 240 := by omega
    rw [if_neg (by omega), if_neg (by omega), if_neg (by omega), if_neg (by omega), if_neg (by omega), if_pos (by omega)]
    clear c0 c1 c2 c3 c4 c5 c6
    go_enter Tryd.func108, Tryd.ntmps108
    go_wp2
    exact bodyPost_ret (v := .tuple #[.int .i64 3, .int .u8 144, .int .u8 191]) (by simp [results, Tryd.results108, go_sem]) rfl ⟨rfl, rfl⟩
  have d6 : ¬ (n : Int) = 240 := by omega
  by_cases c7 : n = 244
  · have d7 : (n : Int) = 244 := by omega
    rw [if_neg (by omega), if_neg (by omega), if_neg (by omega), if_neg (by omega), if_neg (by omega), if_neg (by omega), if_pos (by omega)]
    clear c0 c1 c2 c3 c4 c5 c6 c7
    go_enter Tryd.func108, Tryd.ntmps108
    go_wp2
    exact bodyPost_ret (v := .tuple #[.int .i64 3, .int .u8 128, .int .u8 143]) (by simp [results, Tryd.results108, go_sem]) rfl ⟨rfl, rfl⟩
  have d7 : ¬ (n : Int) = 244 := by omega
  rw [if_neg (by omega), if_neg (by omega), if_neg (by omega), if_neg (by omega), if_neg (by omega), if_neg (by omega), if_neg (by omega)]
  clear c0 c1 c2 c3 c4 c5 c6 c7
  go_enter Tryd.func108, Tryd.ntmps108
  go_wp2
  exact bodyPost_ret (v := .tuple #[.int .i64 3, .int .u8 128, .int .u8 191]) (by simp [results, Tryd.results108, go_sem]) rfl ⟨rfl, rfl⟩
end Go.Proofs.YtjbalgjdcdmjjaaDoor
