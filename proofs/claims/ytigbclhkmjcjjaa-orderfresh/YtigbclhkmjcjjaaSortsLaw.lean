/-
  OrderSorts: Waiting tells those that wait, in their order, and Take answers them so.
-/
import Derived.Test.YtigbclhkmjcjjaaOrdWait
import Derived.Test.YtigbclhkmjcjjaaOrdScore
namespace Go.Proofs.Ytigbclhkmjcjjaa
open Go.RowKit
set_option linter.unusedVariables false
/-- The elements of a list of the call's own. -/
theorem owns_list {w : World} {base : Nat} {v : Value} {l : List Nat} (h : w.ownsRow base 3 1 v l.length (l.map fun x : Nat => Value.int .i64 (x : Int))) :
    ∃ a cap, v = .slice a l.length cap ∧ ∀ j, j < l.length → ∃ g, a = some ⟨g, 0, none⟩ ∧ base ≤ g ∧ g < w.heap.size ∧ w.cell? ⟨g, j, none⟩ = some (.int .i64 (l.getD j 0 : Nat)) := by
  rcases id h.2 with ⟨rfl, e⟩ | ⟨g, cap, cur, rfl, hB, hg, hr⟩
  · exact ⟨none, 0, by rw [e], fun j hj => by omega⟩
  · refine ⟨some ⟨g, 0, none⟩, cap, rfl, fun j hj => ⟨g, rfl, hB, (Array.getElem?_eq_some_iff.1 hg).1, ?_⟩⟩
    rw [h.cellAt j (by omega), List.getElem?_map, List.getElem?_eq_getElem hj, List.getD_eq_getElem?_getD, List.getElem?_eq_getElem hj]
    rfl
def cntTo (pl : List Int) (u : Nat) : Nat := ((pl.drop 1).take u).countP (fun z => z != -1)
theorem cntTo_succ {pl : List Int} {u : Nat} (h : u + 1 < pl.length) : cntTo pl (u + 1) = cntTo pl u + if pl.getD (u + 1) 0 ≠ -1 then 1 else 0 := by
  unfold cntTo
  rw [List.take_add_one, List.countP_append]
  congr 1
  have hd : (pl.drop 1)[u]? = some (pl.getD (u + 1) 0) := by
    rw [List.getElem?_drop, List.getD_eq_getElem?_getD, Nat.add_comm 1 u, List.getElem?_eq_getElem h]
    rfl
  rw [hd]
  by_cases c : pl.getD (u + 1) 0 = -1
  · rw [c]; rfl
  · rw [if_pos c]
    simp only [Option.toList_some, List.countP_cons, List.countP_nil]
    rw [if_pos (by simpa using c)]
theorem cntTo_all {pl : List Int} {n : Nat} (h : pl.length = n + 1) : cntTo pl n = O.cnt pl := by
  unfold cntTo O.cnt
  rw [List.take_of_length_le (by rw [List.length_drop]; omega)]
theorem no_calls12 (w : World) (x : Int) : Calls Try.prog 12 #[.int .i64 x] w fun e w' => e = .returned (.int .i64 x) ∧ w' = w := no_calls10 w x
theorem lst_step {A : List Nat} {n : Nat} {W : Nat → Prop} {l : List Nat} (h : O.Lst A n W l) {j : Nat} (hj : j + 1 < l.length) : O.ahd A (l.getD j 0) (l.getD (j + 1) 0) = true := by
  have := List.pairwise_iff_getElem.1 h.1 j (j + 1) (by omega) hj (by omega)
  rw [List.getD_eq_getElem?_getD, List.getElem?_eq_getElem (by omega : j < l.length), List.getD_eq_getElem?_getD, List.getElem?_eq_getElem hj]
  exact this
theorem lst_at {A : List Nat} {n : Nat} {W : Nat → Prop} {l : List Nat} (h : O.Lst A n W l) {j : Nat} (hj : j < l.length) : 1 ≤ l.getD j 0 ∧ l.getD j 0 ≤ n ∧ W (l.getD j 0) :=
  (h.2 _).1 (O.mem_getD.2 ⟨j, hj, rfl⟩)
theorem drop_at {l : List Nat} {j : Nat} (hj : j < l.length) : l.drop j = l.getD j 0 :: l.drop (j + 1) := by
  rw [List.drop_eq_getElem_cons hj, List.getD_eq_getElem?_getD, List.getElem?_eq_getElem hj]
  rfl
set_option maxRecDepth 100000 in
set_option maxHeartbeats 600000 in
theorem sorts_of (w : World) (n : Int) (sv : Value) (BG : Calls Try.prog 9 #[.int .i64 n, sv] w fun e w' => ∃ o, e = .returned (.tuple #[optr o, .int .i64 (o.n : Nat)]) ∧ 1 ≤ o.n ∧ o.n ≤ 60 ∧ (∀ b, b ∈ blks o → w.heap.size ≤ b) ∧ Below w.heap.size w w' ∧ ∃ s, Good w' o s ∧ Fit s) :
    Calls Try.prog 5 #[.int .i64 n, sv] w fun e w' => e = .returned (.bool true) ∧ Below w.heap.size w w' := by
  replace BG := hide BG
  go_enter Try.func5, Try.ntmps5
  go_wp2_with fail
  refine BG.out.mono ?_
  rintro e w1 ⟨o, rfl, o1, o2, hb, B1, s, G, F⟩
  clear BG
  have WT := hide (waiting_calls w1 o s G)
  replace hb := hide hb
  replace B1 := hide B1
  replace F := hide F
  replace G := hide G
  go_wp2_with fail
  refine WT.out.mono ?_
  rintro e w2 ⟨v, l, rfl, hl, hlen, OW, B2⟩
  obtain ⟨a, cap, rfl, hcell⟩ := owns_list OW
  have G2 : Good w2 o s := G.out.keep (Chg.of_below (S := []) B2) (fun _ _ => by simp)
  have hc0 : O.cnt s.pl = l.length := by
    have := G2.hv.2.1
    rw [G2.len] at this
    omega
  have hpl : s.pl.length = o.n + 1 := G2.hv.1
  have hl60 : l.length ≤ 60 := by have := G2.ord.hhl; omega
  have glt : ∀ b, b ∈ blks o → b < w1.heap.size := G.out.ord.lt
  have HB := hide (B1.out.then_below B2)
  replace hcell := hide hcell
  replace hl := hide hl
  replace glt := hide glt
  replace hlen := hide hlen
  clear OW B2 WT G
  replace G2 := hide G2
  go_wp2_with fail
  go_loop [8, 9] (fun c i => ∃ u : Nat, c = .int .i64 (cntTo s.pl u : Nat) ∧ i = .int .i64 ((u : Int) + 1) ∧ u ≤ o.n) (fun _ i => o.n + 1 - (intOf i).toNat)
  case atStart => exact ⟨0, by simp [cntTo], rfl, Nat.zero_le _⟩
  case round =>
    obtain ⟨u, rfl, rfl, hu⟩ := hrel
    by_cases hlt : u < o.n
    · have HS := has_calls w2 o s G2.out.ord (u + 1) (by omega) (by omega)
      have cs := cntTo_succ (pl := s.pl) (u := u) (by omega)
      have cle : cntTo s.pl u ≤ 1000 := by
        unfold cntTo
        have := List.countP_le_length (p := fun z : Int => z != -1) (l := (s.pl.drop 1).take u)
        have := List.length_take_le u (s.pl.drop 1)
        omega
      have g1 : (u : Int) + 1 ≤ (o.n : Int) := by omega
      generalize cntTo s.pl u = c0 at *
      by_cases hw : s.pl.getD (u + 1) 0 = -1
      case' pos =>
        rw [if_neg (by simpa using hw), Nat.add_zero] at cs
        rw [hw] at HS
        replace HS := hide (show Calls Try.prog 17 #[optr o, .int .i64 ((u : Int) + 1)] w2 fun e w' => e = .returned (.tuple #[.bool false, .int .i64 0]) ∧ w' = w2 from HS)
      case' neg =>
        rw [if_pos hw] at cs
        rw [decide_eq_true hw] at HS
        replace HS := hide (show Calls Try.prog 17 #[optr o, .int .i64 ((u : Int) + 1)] w2 fun e w' => e = .returned (.tuple #[.bool true, .int .i64 0]) ∧ w' = w2 from HS)
      all_goals
        replace cs := hide cs
        clear hw
        go_wp2_with (first
          | (go_at_call 12; refine (no_calls12 _ _).mono ?_; rintro e wz ⟨rfl, hzz⟩; have hzz := hzz.symm; subst hzz)
          | (go_at_call 17; refine HS.out.mono ?_; rintro e wz ⟨rfl, hzz⟩; have hzz := hzz.symm; subst hzz))
        go_round
        case rel => exact ⟨u + 1, by rw [cs.out]; go_num, by go_num, by omega⟩
        case measure => simp [intOf]; omega
    · obtain rfl : u = o.n := by omega
      clear hlt hu
      rw [cntTo_all hpl, hc0]
      go_wp2_with fail
      go_loopw [12] (fun i wr => ∃ j : Nat, i = .int .i64 (j : Int) ∧ j ≤ l.length ∧ Hid (∃ m, wr = w2.drewN m)) (fun i _ => l.length - (intOf i).toNat)
      case atStart => exact ⟨0, rfl, Nat.zero_le _, ⟨0, rfl⟩⟩
      case round =>
        obtain ⟨j, rfl, hj, HW⟩ := hrel
        have GR : Good wr o s := by
          obtain ⟨m, e⟩ := HW.out
          rw [e]
          exact G2.out.drewN m
        have HWn : Hid (∀ m', ∃ m, wr.drewN m' = w2.drewN m) := by
          intro m'
          obtain ⟨m, e⟩ := HW.out
          exact ⟨m + m', by rw [e]; exact World.drewN_drewN _ _ _⟩
        by_cases hlt : j < l.length
        · have jl : (j : Int) < (l.length : Int) := by omega
          obtain ⟨g, rfl, hgB, hgs, cj⟩ := hcell.out j hlt
          have cj : wr.cell? ⟨g, j, none⟩ = some (.int .i64 (l.getD j 0 : Nat)) := by
            obtain ⟨m, e⟩ := HW.out
            rw [e]
            exact cj
          obtain ⟨v1, v2, v3⟩ := lst_at hl.out hlt
          have HS := has_calls wr o s GR.ord (l.getD j 0) v1 v2
          rw [decide_eq_true v3] at HS
          have SJ := lscore_calls wr o s GR.ord F.out (l.getD j 0) v1 v2
          rcases Nat.eq_zero_or_pos j with j0 | j0
          · subst j0
            generalize l.getD 0 0 = x at *
            replace HS := hide HS
            replace GR := hide GR
            clear SJ v3
            go_wp2_with (first
              | (go_at_call 12; refine (no_calls12 _ _).mono ?_; rintro e wz ⟨rfl, hzz⟩; have hzz := hzz.symm; subst hzz)
              | (go_at_call 17; refine HS.out.mono ?_; rintro e wz ⟨rfl, hzz⟩; have hzz := hzz.symm; subst hzz))
            go_roundw
            case rel => exact ⟨0 + 1, by go_num, by omega, HW⟩
            case measure => simp [intOf]; omega
          · obtain ⟨k, rfl⟩ : ∃ k, j = k + 1 := ⟨j - 1, by omega⟩
            obtain ⟨g', e', _, _, ck⟩ := hcell.out k (by omega)
            cases e'
            have ck : wr.cell? ⟨g, k, none⟩ = some (.int .i64 (l.getD k 0 : Nat)) := by
              obtain ⟨m, e⟩ := HW.out
              rw [e]
              exact ck
            obtain ⟨u1, u2, u3⟩ := lst_at hl.out (show k < l.length by omega)
            have SK := lscore_calls wr o s GR.ord F.out (l.getD k 0) u1 u2
            have AH := lst_step hl.out hlt
            unfold O.ahd at AH
            generalize l.getD k 0 = x at *
            generalize l.getD (k + 1) 0 = y at *
            generalize s.A.getD x 0 = ax at *
            generalize s.A.getD y 0 = ay at *
            replace HS := hide HS
            replace SJ := hide SJ
            replace SK := hide SK
            replace GR := hide GR
            replace u3 := hide u3
            replace v3 := hide v3
            have j1 : ((k + 1 : Nat) : Int) = (k : Int) + 1 := by omega
            have kl : (k : Int) + 1 < (l.length : Int) := by omega
            have kl2 : (k : Int) < (l.length : Int) := by omega
            have g7 : ((k : Int) + 1).toNat = k + 1 := by omega
            have g9 : 0 ≤ (k : Int) + 1 := by omega
            have ay0 : ¬ (ay : Int) < 0 := by omega
            by_cases ea : ax = ay
            · subst ea
              rw [if_pos rfl] at AH
              have xy : Hid (¬ (y : Int) ≤ (x : Int)) := by show ¬ _; simp at AH; omega
              clear AH
              rw [j1]
              go_wp2_with (first
                | (go_at_call 12; refine (no_calls12 _ _).mono ?_; rintro e wz ⟨rfl, hzz⟩; have hzz := hzz.symm; subst hzz)
                | (go_at_call 17; refine HS.out.mono ?_; rintro e wz ⟨rfl, hzz⟩; have hzz := hzz.symm; subst hzz))
              refine SK.out.mono ?_
              rintro e wz ⟨rfl, hzz⟩
              have hzz := hzz.symm
              subst hzz
              go_wp2_with fail
              refine SJ.out.mono ?_
              rintro e wz ⟨rfl, hzz⟩
              have hzz := hzz.symm
              subst hzz
              go_wp2_with fail
              have k3 : 0 ≤ (k : Int) + 1 - 1 := by omega
              have k4 : (k : Int) + 1 - 1 < (l.length : Int) := by omega
              have k5 : ((k : Int) + 1 - 1).toNat = k := by omega
              have k6 : (k : Int) + 1 - 1 = (k : Int) := by omega
              have xd1 : ¬ (y : Int) ≤ (x : Int) := by have := xy.out; omega
              have xd : decide ((y : Int) ≤ (x : Int)) = false := by simp; omega
              have xe : ¬ (ax : Int) < (ax : Int) := by omega
              have xf : decide ((ax : Int) < (ax : Int)) = false := by simp
              go_quiet (fail)
              go_wp2
              go_roundw
              case rel => exact ⟨k + 1 + 1, by go_num, by omega, HWn.out _⟩
              case measure => simp [intOf]; omega
            · rw [if_neg ea] at AH
              have xy : Hid (¬ (ax : Int) < (ay : Int) ∧ ¬ (ax : Int) = (ay : Int)) := by show _ ∧ _; simp at AH; omega
              clear AH ea
              rw [j1]
              go_wp2_with (first
                | (go_at_call 12; refine (no_calls12 _ _).mono ?_; rintro e wz ⟨rfl, hzz⟩; have hzz := hzz.symm; subst hzz)
                | (go_at_call 17; refine HS.out.mono ?_; rintro e wz ⟨rfl, hzz⟩; have hzz := hzz.symm; subst hzz))
              refine SK.out.mono ?_
              rintro e wz ⟨rfl, hzz⟩
              have hzz := hzz.symm
              subst hzz
              go_wp2_with fail
              refine SJ.out.mono ?_
              rintro e wz ⟨rfl, hzz⟩
              have hzz := hzz.symm
              subst hzz
              go_wp2_with fail
              have xd1 : ¬ (ax : Int) < (ay : Int) := by have := xy.out; omega
              have xd : decide ((ax : Int) < (ay : Int)) = false := by simp; omega
              have xz : ¬ (ax : Int) = (ay : Int) := by have := xy.out; omega
              have xz2 : ((ax : Int) == (ay : Int)) = false := by rw [beq_eq_false_iff_ne]; omega
              go_quiet (fail)
              go_wp2
              go_roundw
              case rel => exact ⟨k + 1 + 1, by go_num, by omega, HWn.out _⟩
              case measure => simp [intOf]; omega
        · obtain rfl : j = l.length := by omega
          clear hlt hj
          have hcr : Hid (∀ j, j < l.length → ∃ g, a = some ⟨g, 0, none⟩ ∧ w1.heap.size ≤ g ∧ g < wr.heap.size ∧ wr.cell? ⟨g, j, none⟩ = some (.int .i64 (l.getD j 0 : Nat))) := by
            obtain ⟨m, e⟩ := HW.out
            rw [e]
            exact hcell.out
          have HBr : Hid (Below w.heap.size w wr) := by
            obtain ⟨m, e⟩ := HW.out
            rw [e]
            exact below_chg HB.out (S := []) (fun b hb => by simp at hb) ((Chg.refl _ _).drewN m)
          replace GR := hide GR
          clear HWn HW HB hcell G2 F
          go_wp2_with fail
          obtain ⟨ws, hws⟩ : ∃ W, W = wr := ⟨_, rfl⟩
          subst hws
          go_loopw [17] (fun i wr => ∃ (j : Nat) (s' : OS), i = .int .i64 (j : Int) ∧ j ≤ l.length ∧ Hid (Good wr o s') ∧ Hid (Wl o s' (l.drop j)) ∧ Hid (Below w.heap.size w wr) ∧ Hid (∀ j, j < l.length → ∃ g, a = some ⟨g, 0, none⟩ ∧ w1.heap.size ≤ g ∧ g < wr.heap.size ∧ wr.cell? ⟨g, j, none⟩ = some (.int .i64 (l.getD j 0 : Nat)))) (fun i _ => l.length - (intOf i).toNat)
          case atStart => exact ⟨0, s, rfl, Nat.zero_le _, GR, by rw [List.drop_zero]; exact hl, HBr, hcr⟩
          case round =>
            clear GR HBr hcr hl
            obtain ⟨j, s', rfl, hj, GR, hl, HBr, hcr⟩ := hrel
            by_cases hlt : j < l.length
            · have jl : (j : Int) < (l.length : Int) := by omega
              have hl2 := hl.out
              rw [drop_at hlt] at hl2
              have TK := take_next wr o s' GR.out (l.getD j 0) (l.drop (j + 1)) hl2
              have hv := hl2.head.1
              obtain ⟨x, hx⟩ : ∃ x, l.getD j 0 = x := ⟨_, rfl⟩
              rw [hx] at TK hv
              replace TK := hide TK
              clear hl2
              go_wp2_with fail
              refine TK.out.mono ?_
              rintro e w3 ⟨rfl, ⟨s3, G3, eA, _, _, hl3, eW⟩, C3⟩
              have hc3 : Hid (∀ j, j < l.length → ∃ g, a = some ⟨g, 0, none⟩ ∧ w1.heap.size ≤ g ∧ g < w3.heap.size ∧ w3.cell? ⟨g, j, none⟩ = some (.int .i64 (l.getD j 0 : Nat))) := by
                intro j hj
                obtain ⟨g, e, h1, h2, h3⟩ := hcr.out j hj
                refine ⟨g, e, h1, Nat.lt_of_lt_of_le h2 C3.size, ?_⟩
                unfold World.cell? at h3 ⊢
                rw [C3.block g h2 (fun c => by have := glt.out g c; omega)]
                exact h3
              obtain ⟨g, rfl, _, _, cj⟩ := hc3.out j hlt
              rw [hx] at cj
              have HS := has_calls w3 o s3 G3.ord x hv.1 hv.2.1
              rw [decide_eq_false (fun c => c ((eW x).2 (.inr rfl)))] at HS
              have HB3 := hide (below_chg HBr.out hb.out C3)
              replace HS := hide HS
              replace G3 := hide G3
              replace hl3 := hide hl3
              replace hx := hide hx
              clear TK eW C3 hcr HBr GR hl eA hv
              go_wp2_with (first
                | (go_at_call 12; refine (no_calls12 _ _).mono ?_; rintro e wz ⟨rfl, hzz⟩; have hzz := hzz.symm; subst hzz)
                | (go_at_call 17; refine HS.out.mono ?_; rintro e wz ⟨rfl, hzz⟩; have hzz := hzz.symm; subst hzz))
              go_roundw
              case rel => exact ⟨j + 1, s3, by go_num, by omega, G3, hl3, HB3, hc3⟩
              case measure => simp [intOf]; omega
            · obtain rfl : j = l.length := by omega
              have hl2 := hl.out
              rw [List.drop_length] at hl2
              have TK := take_end wr o s' GR.out hl2
              have WT := waiting_calls wr o s' GR.out
              have hu : Hid (∀ l', Wl o s' l' → l' = []) := fun l' h' => h'.uniq hl2
              replace TK := hide TK
              replace WT := hide WT
              clear hl2 hl hcr hlt hj GR
              go_wp2_with fail
              refine TK.out.mono ?_
              rintro e w3 ⟨rfl, rfl⟩
              clear TK
              go_wp2_with fail
              refine WT.out.mono ?_
              rintro e w4 ⟨v4, l4, rfl, h4, e4, OW4, B4⟩
              clear e4
              obtain rfl := hu.out l4 h4
              obtain ⟨a4, cap4, rfl, _⟩ := owns_list OW4
              have HB4 := hide (HBr.out.then_below B4)
              clear OW4 h4 hu WT B4
              go_wp2
              go_ret
              exact ⟨rfl, HB4.out⟩
theorem sorts_calls (w : World) (n : Int) (sv : Value) (l : List POp) (hv : Pops w.heap.size w sv l) :
    Calls Try.prog 5 #[.int .i64 n, sv] w fun e w' => e = .returned (.bool true) ∧ Below w.heap.size w w' :=
  sorts_of w n sv (begun_calls w n sv l hv)
end Go.Proofs.Ytigbclhkmjcjjaa
