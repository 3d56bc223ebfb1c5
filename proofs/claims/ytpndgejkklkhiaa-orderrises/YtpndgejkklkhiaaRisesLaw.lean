/-
  OrderRises, walked.
-/
import Derived.Test.YtpndgejkklkhiaaOrdBegun
import Derived.Maps.AppendAt
import Derived.Test.YtpndgejkklkhiaaOrdScore
namespace Go.Proofs.Ytpndgejkklkhiaa
open Go.RowKit
set_option linter.unusedVariables false
/-- What the law keeps: the activities of the first u. -/
def wasL (s : OS) (u : Nat) : List Int := 0 :: (List.range u).map (fun i : Nat => ((s.A.getD (i + 1) 0 : Nat) : Int))
theorem wasL_succ (s : OS) (u : Nat) : wasL s (u + 1) = wasL s u ++ [((s.A.getD (u + 1) 0 : Nat) : Int)] := by simp [wasL, List.range_succ]
theorem wasL_len (s : OS) (u : Nat) : (wasL s u).length = u + 1 := by simp [wasL]
theorem wasL_at (s : OS) {u j : Nat} (h : j < u) : (wasL s u).getD (j + 1) 0 = ((s.A.getD (j + 1) 0 : Nat) : Int) := by
  unfold wasL
  rw [List.getD_cons_succ]
  simp [List.getD_eq_getElem?_getD, h]
/-- Which is raised. -/
def rk (n : Nat) (v : Int) : Nat := if 0 < v then 1 + (v.tmod n).toNat else 1
theorem rk_le {n : Nat} (h : 1 ≤ n) (v : Int) : 1 ≤ rk n v ∧ rk n v ≤ n := by
  unfold rk
  split
  · have := Int.tmod_lt_of_pos v (show (0 : Int) < (n : Int) by omega)
    omega
  · omega
theorem no_calls11 (w : World) (x : Int) : Calls Try.prog 12 #[.int .i64 x] w fun e w' => e = .returned (.int .i64 x) ∧ w' = w := by
  go_enter Try.func12, Try.ntmps12
  go_wp2
  go_ret
  exact ⟨rfl, rfl⟩
theorem below_chg' {w w1 w2 : World} {S : List Nat} (h : Below w.heap.size w w1) (hS : ∀ b, b ∈ S → w.heap.size ≤ b) (q : Chg S w1 w2) : Below w.heap.size w w2 :=
  ⟨q.os.trans h.os, q.tape.trans h.tape, q.output.trans h.output, Nat.le_trans h.size q.size, fun b hb => (q.block b (Nat.lt_of_lt_of_le hb h.size) (fun c => by have := hS b c; omega)).trans (h.block b hb)⟩
theorem was_row {w : World} {B : Nat} {r : Value} {o : Oid} {s : OS} (h : w.ownsRow B 3 1 r (o.n + 1) ((wasL s o.n).map (Value.int .i64))) (h1 : 1 ≤ o.n) (hb : ∀ b, b ∈ blks o → b < B) :
    ∃ g cap, r = .slice (some ⟨g, 0, none⟩) (o.n + 1) cap ∧ Hid (∃ c, w.heap[g]? = some (.cells c 3 (0, 0))) ∧ Hid (∀ j, 1 ≤ j → j ≤ o.n → w.cell? ⟨g, j, none⟩ = some (.int .i64 (s.A.getD j 0 : Nat))) ∧ Hid (g ∉ blks o) := by
  rcases id h.2 with ⟨rfl, hn⟩ | ⟨g, cap, cur, rfl, hB, hg, hrest⟩
  · omega
  · refine ⟨g, cap, rfl, ⟨cur, hg⟩, fun j j1 j2 => ?_, fun c => ?_⟩
    · rw [h.cellAt j (by omega)]
      obtain ⟨i, rfl⟩ : ∃ i, j = i + 1 := ⟨j - 1, by omega⟩
      have := wasL_at s (show i < o.n by omega)
      rw [List.getElem?_map]
      rw [List.getD_eq_getElem?_getD] at this
      have hl : i + 1 < (wasL s o.n).length := by rw [wasL_len]; omega
      rw [List.getElem?_eq_getElem hl] at this ⊢
      simp only [Option.getD_some] at this
      rw [Option.map_some, this]
    · have := hb g c
      omega
set_option maxRecDepth 100000 in
set_option maxHeartbeats 16000000 in
theorem rises_of (w : World) (n v : Int) (sv : Value) (BG : Calls Try.prog 9 #[.int .i64 n, sv] w fun e w' => ∃ o, e = .returned (.tuple #[optr o, .int .i64 (o.n : Nat)]) ∧ 1 ≤ o.n ∧ o.n ≤ 60 ∧ (∀ b, b ∈ blks o → w.heap.size ≤ b) ∧ Below w.heap.size w w' ∧ ∃ s, Good w' o s ∧ Fit s) :
    Calls Try.prog 3 #[.int .i64 n, sv, .int .i64 v] w fun e w' => e = .returned (.bool true) ∧ Below w.heap.size w w' := by
  obtain ⟨i0, hi, hz0, hz1, hz2⟩ := info_parts ordInfoInt
  replace BG := hide BG
  go_enter Try.func3, Try.ntmps3
  go_wp2_with fail
  refine BG.out.mono ?_
  rintro e w1 ⟨o, rfl, o1, o2, hb, B1, s, G, F⟩
  replace hb := hide hb
  replace B1 := hide B1
  replace G := hide G
  replace F := hide F
  clear BG
  obtain ⟨k, hk⟩ : ∃ k, rk o.n v = k := ⟨_, rfl⟩
  have hkb := rk_le o1 v
  rw [hk] at hkb
  have hlen := hide G.out.alen
  have G0 : Hid (∀ W, Below w1.heap.size w1 W → Good W o s) := fun W b => G.out.keep (Chg.of_below (S := []) b) (fun _ _ => by simp)
  have W0 : Hid ((w1.alloc (.cells #[.int .i64 0] 3)).ownsRow w1.heap.size 3 1 (.slice (some ⟨w1.heap.size, 0, none⟩) 1 1) 1 ((wasL s 0).map (Value.int .i64))) := World.ownsRow_lit (base := w1.heap.size) (e := 3) (size := 1) w1 #[.int .i64 0] 1 (Nat.le_refl _) (by decide) rfl
  have BW0 : Hid (Below w1.heap.size w1 (w1.alloc (.cells #[.int .i64 0] 3))) := grown_below (World.grownBy_alloc w1 _ none)
  have BP : Hid (∀ z : Int, z = (k : Int) → ∀ W s', Good W o s' → Calls Try.prog 11 #[optr o, .int .i64 z] W fun e w' => e = .returned (.int .i64 0) ∧ (∃ s'', Good w' o s'' ∧ Like s' s'' ∧ (s''.A, s''.r) = s'.bump k) ∧ Chg (blks o) W w') := by
    rintro z rfl W s' g
    exact bump_calls W o s' g k hkb.1 hkb.2
  have SC : Hid (∀ z : Int, z = (k : Int) → ∀ W s', Good W o s' → Fit s' → Calls Try.prog 10 #[optr o, .int .i64 z] W fun e w' => e = .returned (.int .i64 (s'.A.getD k 0 : Nat)) ∧ w' = W) := by
    rintro z rfl W s' g f
    exact lscore_calls W o s' g.ord f k hkb.1 hkb.2
  rcases Int.lt_or_le 0 v with hv | hv
  case' inl =>
    have e : 1 + v.tmod (o.n : Int) = (k : Int) := by
      rw [← hk]
      unfold rk
      rw [if_pos hv]
      have := Int.tmod_nonneg (o.n : Int) (Int.le_of_lt hv)
      omega
    have k1 : Hid (True) := trivial
    have hd : decide (0 < v) = true := by simpa using hv
    have hm := Int.tmod_nonneg (o.n : Int) (Int.le_of_lt hv)
    have hm2 := Int.tmod_lt_of_pos v (show (0 : Int) < (o.n : Int) by omega)
    have hz : ¬ (o.n : Int) = 0 := by omega
    clear hk hv
    go_wp2_with fail
    clear e hd hm hm2 hz
  case' inr =>
    have k1 : Hid (k = 1) := by
      show _ = _
      rw [← hk]
      unfold rk
      rw [if_neg (by omega)]
    have hd : decide (0 < v) = false := by simp; omega
    clear hk hv
    go_wp2_with fail
    clear hd
  all_goals
    go_loopw [10, 11] (fun r i wr => ∃ u : Nat, i = .int .i64 ((u : Int) + 1) ∧ u ≤ o.n ∧ Hid (wr.ownsRow w1.heap.size 3 1 r (u + 1) ((wasL s u).map (Value.int .i64))) ∧ Hid (Below w1.heap.size w1 wr)) (fun _ i _ => o.n + 1 - (intOf i).toNat)
    case atStart => exact ⟨0, rfl, Nat.zero_le _, W0, BW0⟩
    case round =>
      obtain ⟨u, rfl, hu, WW, BB⟩ := hrel
      clear W0 BW0
      by_cases hlt : u < o.n
      · have S1 := lscore_calls wr o s (G0.out wr BB.out).ord F.out (u + 1) (by omega) (by omega)
        rw [show ((u + 1 : Nat) : Int) = (u : Int) + 1 from rfl] at S1
        have es := wasL_succ s u
        replace S1 := hide S1
        replace es := hide es
        generalize s.A.getD (u + 1) 0 = x at S1 es
        have g1 : (u : Int) + 1 ≤ (o.n : Int) := by omega
        have hBx := BB.out.size
        go_wp2_with (first
          | (go_at_call 10; refine S1.out.mono ?_; rintro e wy ⟨rfl, rfl⟩)
          | (at_builtin; refine wpList_append_own _ rfl _ _ 26 rfl w1.heap.size 3 i0 (.int .i64 0) 1 8 ordSliceInt hi hz0 hz1 hz2 rfl (by decide) _ _ _ rfl (WW.out.alloc _) ⟨_, 0, none⟩ 1 1 [.int .i64 x] rfl rfl (cell_one_new _ _ _) (by simp [Value.oneCell']) (by unfold maxLen; omega) (by omega) (by simp; omega) ?_; intro v' w2 hown' hgrow _; replace hown' := hide hown'; replace hgrow := hide hgrow))
        go_roundw
        case rel =>
          refine ⟨u + 1, by go_num, by omega, ?_, (BB.out.alloc hBx _).grown hgrow.out (by simp; omega) (fun g hg => ((WW.out.lt g hg).1))⟩
          show World.ownsRow _ _ _ _ _ _ _
          rw [es.out, List.map_append]
          exact hown'.out
        case measure => simp [intOf]; omega
      · obtain rfl : u = o.n := by omega
        clear hlt hu
        obtain ⟨g, cap, rfl, hg, hcell, hgb⟩ := was_row WW.out o1 (fun b hb => G.out.ord.lt b hb)
        have BPP := BP.out
        go_wp2_with fail
        refine (BPP _ (by first | rfl | (rw [k1.out]; rfl)) _ s (G0.out _ BB.out)).mono ?_
        rintro e w3 ⟨rfl, ⟨s3, G3, L3, e3⟩, C3⟩
        have hkl : k < s.A.length := by rw [hlen.out]; omega
        have F3 := fit_of e3 (bump_fit F.out hkl)
        have eA : s3.A = (s.bump k).1 := congrArg Prod.fst e3
        have kp : ∀ u x : Nat, 1 ≤ u → u ≤ o.n → 1 ≤ x → x ≤ o.n → x ≠ k → s.A.getD x 0 ≤ s.A.getD u 0 → s3.A.getD x 0 ≤ s3.A.getD u 0 := by
          intro u x u1 u2 x1 x2 hne hle
          rw [eA]
          exact bump_keeps F.out hkl (by rw [hlen.out]; omega) (by rw [hlen.out]; omega) hne hle
        have ka : 0 < s3.A.getD k 0 := by rw [eA]; exact bump_above F.out hkl
        have hc3 : ∀ j, 1 ≤ j → j ≤ o.n → w3.cell? ⟨g, j, none⟩ = some (.int .i64 (s.A.getD j 0 : Nat)) := by
          intro j j1 j2
          obtain ⟨c, hgc⟩ := hg.out
          have h3 := C3.keep hgc hgb.out
          have h4 := hcell.out j j1 j2
          rw [block_cell hgc] at h4
          rw [block_cell h3]
          exact h4
        have B3 := below_chg' (B1.out.then_below BB.out) hb.out C3
        have RS := rise_calls w3 o s3 G3.ord
        have r1 := F3.pos
        have r2 := F3.rise
        rw [show TOPB = 1621981420 from rfl] at r2
        have aB := F3.act
        generalize hr : s3.r = rr at RS r1 r2
        replace kp := hide kp
        replace ka := hide ka
        replace hc3 := hide hc3
        replace B3 := hide B3
        replace aB := hide aB
        replace G3 := hide G3
        replace F3 := hide F3
        replace RS := hide RS
        clear hg hcell hgb WW BPP BP hr eA e3 L3 C3 BB
        go_wp2_with (first
          | (go_at_call 12; refine (no_calls11 _ _).mono ?_; rintro e wz ⟨rfl, hzz⟩; have hzz := hzz.symm; subst hzz)
          | (go_at_call 13; refine RS.out.mono ?_; rintro e wz ⟨rfl, hzz⟩; have hzz := hzz.symm; subst hzz))
        go_loopw [14] (fun i wr => ∃ u : Nat, i = .int .i64 ((u : Int) + 1) ∧ u ≤ o.n ∧ Hid (∃ m, wr = w3.drewN m)) (fun i _ => o.n + 1 - (intOf i).toNat)
        case atStart => exact ⟨0, rfl, Nat.zero_le _, ⟨0, rfl⟩⟩
        case round =>
          obtain ⟨u, rfl, hu, HW⟩ := hrel
          by_cases hlt : u < o.n
          · obtain ⟨wo, hwo⟩ : ∃ W, W = wr := ⟨_, rfl⟩
            subst hwo
            have S1 : Calls Try.prog 10 #[optr o, .int .i64 ((u : Int) + 1)] wo fun e w' => e = .returned (.int .i64 (s3.A.getD (u + 1) 0 : Nat)) ∧ w' = wo := by
              obtain ⟨m, e⟩ := HW.out
              rw [e]
              exact lscore_calls (w3.drewN m) o s3 (G3.out.drewN m).ord F3.out (u + 1) (by omega) (by omega)
            have a2 := aB.out (u + 1)
            rw [show TOPB = 1621981420 from rfl] at a2
            obtain ⟨pa, hpa⟩ : ∃ x, s3.A.getD (u + 1) 0 = x := ⟨_, rfl⟩
            rw [hpa] at S1 a2
            replace S1 := hide S1
            replace hpa := hide hpa
            have g1 : (u : Int) + 1 ≤ (o.n : Int) := by omega
            go_wp2_with (go_at_call 10; refine S1.out.mono ?_; rintro e wz ⟨rfl, hzz⟩; have hzz := hzz.symm; subst hzz)
            go_loopw [16] (fun i wr => ∃ x : Nat, i = .int .i64 ((x : Int) + 1) ∧ x ≤ o.n ∧ Hid (∃ m, wr = w3.drewN m)) (fun i _ => o.n + 1 - (intOf i).toNat)
            case atStart => exact ⟨0, rfl, Nat.zero_le _, HW⟩
            case round =>
              obtain ⟨x, rfl, hx, HX⟩ := hrel
              by_cases hxl : x < o.n
              · have g2 : (x : Int) + 1 ≤ (o.n : Int) := by omega
                have HXn : Hid (∀ m', ∃ m, wr.drewN m' = w3.drewN m) := by
                  intro m'
                  obtain ⟨m, e⟩ := HX.out
                  exact ⟨m + m', by rw [e]; exact World.drewN_drewN _ _ _⟩
                by_cases hxk : x + 1 = k
                · have f1 : decide ((x : Int) + 1 ≠ (k : Int)) = false := by simp; omega
                  have f2 : (x : Int) + 1 = (k : Int) := by omega
                  try have f3 : decide ((x : Int) + 1 ≠ 1) = false := by have := k1.out; simp; omega
                  try have f4 : (x : Int) = 0 := by have := k1.out; omega
                  go_wp2_with fail
                  go_quiet (fail)
                  go_wp2
                  go_roundw
                  case rel => exact ⟨x + 1, by go_num, by omega, HXn.out _⟩
                  case measure => simp [intOf]; omega
                · have f1 : decide ((x : Int) + 1 ≠ (k : Int)) = true := by simp; omega
                  have f2 : ¬ (x : Int) + 1 = (k : Int) := by omega
                  try have f3 : decide ((x : Int) + 1 ≠ 1) = true := by have := k1.out; simp; omega
                  try have f4 : ¬ (x : Int) = 0 := by have := k1.out; omega
                  try have f5 : ¬ x = 0 := by have := k1.out; omega
                  try have f6 : decide (x = 0) = false := by have := k1.out; simp; omega
                  try have f7 : ((x : Int) + 1 != 1) = true := by have := k1.out; simp; omega
                  try have f8 : decide ((x : Int) + 1 = 1) = false := by have := k1.out; simp; omega
                  try have f9 : ¬ (x : Int) + 1 = 1 := by have := k1.out; omega
                  have cu : wr.cell? ⟨g, u + 1, none⟩ = some (.int .i64 (s.A.getD (u + 1) 0 : Nat)) := by
                    obtain ⟨m, e⟩ := HX.out
                    rw [e]
                    exact hc3.out (u + 1) (by omega) (by omega)
                  have cx : wr.cell? ⟨g, x + 1, none⟩ = some (.int .i64 (s.A.getD (x + 1) 0 : Nat)) := by
                    obtain ⟨m, e⟩ := HX.out
                    rw [e]
                    exact hc3.out (x + 1) (by omega) (by omega)
                  have SX : ∀ n, Calls Try.prog 10 #[optr o, .int .i64 ((x : Int) + 1)] (wr.drewN n) fun e w' => e = .returned (.int .i64 (s3.A.getD (x + 1) 0 : Nat)) ∧ w' = wr.drewN n := by
                    intro n
                    obtain ⟨m, e⟩ := HX.out
                    rw [e, World.drewN_drewN]
                    exact lscore_calls _ o s3 (G3.out.drewN _).ord F3.out (x + 1) (by omega) (by omega)
                  have kk := kp.out (u + 1) (x + 1) (by omega) (by omega) (by omega) (by omega) hxk
                  rw [hpa.out] at kk
                  generalize s.A.getD (u + 1) 0 = pu at cu kk
                  generalize s.A.getD (x + 1) 0 = px at cx kk
                  generalize s3.A.getD (x + 1) 0 = pb at SX kk
                  have g5 : (u : Int) + 1 < (o.n : Int) + 1 := by omega
                  have g6 : (x : Int) + 1 < (o.n : Int) + 1 := by omega
                  have g7 : ((u : Int) + 1).toNat = u + 1 := by omega
                  have g8 : ((x : Int) + 1).toNat = x + 1 := by omega
                  have g9 : 0 ≤ (u : Int) + 1 := by omega
                  have g10 : 0 ≤ (x : Int) + 1 := by omega
                  replace SX := hide SX
                  by_cases hle : px ≤ pu
                  · have d1 : (px : Int) ≤ (pu : Int) := by omega
                    have d2 : decide ((px : Int) ≤ (pu : Int)) = true := by simp; omega
                    have d3 : decide ((pa : Int) < (pb : Int)) = false := by have := kk hle; simp; omega
                    have d4 : ¬ (pa : Int) < (pb : Int) := by have := kk hle; omega
                    replace kk := hide kk
                    go_wp2_with fail
                    go_quiet ((go_at_call 10; exact Calls.quiet_of_same (unhide SX _)))
                    go_wp2
                    go_roundw
                    case rel => exact ⟨x + 1, by go_num, by omega, HXn.out _⟩
                    case measure => simp [intOf]; omega
                  · have d1 : ¬ (px : Int) ≤ (pu : Int) := by omega
                    have d2 : decide ((px : Int) ≤ (pu : Int)) = false := by simp; omega
                    replace kk := hide kk
                    go_wp2_with fail
                    go_quiet (fail)
                    go_wp2
                    go_roundw
                    case rel => exact ⟨x + 1, by go_num, by omega, HXn.out _⟩
                    case measure => simp [intOf]; omega
              · have g2 : ¬ (x : Int) + 1 ≤ (o.n : Int) := by omega
                go_wp2
                go_roundw
                case rel => exact ⟨u + 1, by go_num, by omega, HX⟩
                case measure => simp [intOf]; omega
          · obtain rfl : u = o.n := by omega
            clear hlt hu
            have S1 : Hid (∀ z : Int, z = (k : Int) → Calls Try.prog 10 #[optr o, .int .i64 z] wr fun e w' => e = .returned (.int .i64 (s3.A.getD k 0 : Nat)) ∧ w' = wr) := by
              intro z hz
              obtain ⟨m, e⟩ := HW.out
              rw [e]
              exact SC.out z hz (w3.drewN m) s3 (G3.out.drewN m) F3.out
            have kz : (0 : Int) < (s3.A.getD k 0 : Nat) := by have := ka.out; omega
            generalize s3.A.getD k 0 = pk at S1 kz
            go_wp2_with fail
            refine (S1.out _ (by first | rfl | (rw [k1.out]; rfl))).mono ?_
            rintro e wz ⟨rfl, rfl⟩
            go_wp2
            go_ret
            refine ⟨by simp; omega, ?_⟩
            obtain ⟨m, e⟩ := HW.out
            rw [e]
            exact below_chg' B3.out hb.out ((Chg.refl (blks o) _).drewN m)
theorem rises_calls (w : World) (n v : Int) (sv : Value) (l : List POp) (hv : Pops w.heap.size w sv l) :
    Calls Try.prog 3 #[.int .i64 n, sv, .int .i64 v] w fun e w' => e = .returned (.bool true) ∧ Below w.heap.size w w' :=
  rises_of w n v sv (begun_calls w n sv l hv)
end Go.Proofs.Ytpndgejkklkhiaa
