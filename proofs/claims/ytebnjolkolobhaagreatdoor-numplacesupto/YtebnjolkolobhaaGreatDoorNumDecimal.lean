/-
  Package num: Decimal.
-/
import Derived.Test.YtebnjolkolobhaaGreatDoorSpellA
import Derived.Test.YtebnjolkolobhaaGreatDoorMulB
import Derived.Test.YtebnjolkolobhaaGreatDoorNumA
import Derived.Test.YtebnjolkolobhaaGreatDoorRatStrip
import Derived.Test.YtebnjolkolobhaaGreatDoorNumPoint
import Derived.Test.YtebnjolkolobhaaGreatDoorNumSign
import Derived.Test.YtebnjolkolobhaaGreatDoorDecPure
/- ==== NumDecimal ==== -/
namespace Go.Proofs.YtebnjolkolobhaaGreatDoor
open Go.RowKit
set_option linter.unusedVariables false
def decT (la : List UInt8) (t f r : Nat) : List UInt8 × Int := if canB la then decO (cneg la) (M.dec (cup la)) t f r else ([], 1)
theorem tup2_eq {s : ByteArray} {l : List UInt8} {c : Int} (h : s.data.toList = l) : Ending.returned (.tuple #[.string s, .int .i64 c]) = .returned (.tuple #[.string ⟨l.toArray⟩, .int .i64 c]) := by
  subst h
  rfl
theorem cells2K {w W W2 : World} {a1 a2 : Addr} {v1 v2 : Value} (h : W.cell? a1 = some v1 ∧ W.cell? a2 = some v2 ∧ Below w.heap.size w W) (b : Below W.heap.size W W2) :
    W2.cell? a1 = some v1 ∧ W2.cell? a2 = some v2 ∧ Below w.heap.size w W2 := by
  obtain ⟨h1, h2, h3⟩ := h
  exact ⟨by rw [b.cell (World.block_lt_of_cell? W _ h1)]; exact h1, by rw [b.cell (World.block_lt_of_cell? W _ h2)]; exact h2, h3.then_below b⟩
theorem cells7_keep {w W W2 : World} {a1 a2 a3 a4 a5 a6 a7 : Addr} {v1 v2 v3 v4 v5 v6 v7 : Value} (h : W.cell? a1 = some v1 ∧ W.cell? a2 = some v2 ∧ W.cell? a3 = some v3 ∧ W.cell? a4 = some v4 ∧ W.cell? a5 = some v5 ∧ W.cell? a6 = some v6 ∧ W.cell? a7 = some v7 ∧ Below w.heap.size w W) (b : Below W.heap.size W W2) :
    W2.cell? a1 = some v1 ∧ W2.cell? a2 = some v2 ∧ W2.cell? a3 = some v3 ∧ W2.cell? a4 = some v4 ∧ W2.cell? a5 = some v5 ∧ W2.cell? a6 = some v6 ∧ W2.cell? a7 = some v7 ∧ Below w.heap.size w W2 := by
  obtain ⟨h1, h2, h3, h4, h5, h6, h7, h8⟩ := h
  have k : ∀ {a : Addr} {v : Value}, W.cell? a = some v → W2.cell? a = some v := fun {a v} h => by rw [b.cell (World.block_lt_of_cell? W _ h)]; exact h
  exact ⟨k h1, k h2, k h3, k h4, k h5, k h6, k h7, h8.then_below b⟩
theorem small_BB {b : Nat} (hb : b ≤ 5) (m : Nat) : ((b : Nat) : Int) < M.BB ^ (m + 1) := by
  have h1 : M.BB ^ 1 ≤ M.BB ^ (m + 1) := M.pow_le M.BB_pos (by omega)
  have h2 : M.BB ^ 1 = 18446744073709551616 := by decide
  omega
/-- What is left, divided again, in its box. -/
def StB (w4 wx : World) (f b : Nat) (e1 : Int) (e2 : Option Addr) (e3 e4 : Nat) : Prop :=
  wx.heap[w4.heap.size]? = some (.cells #[.int .u64 e1, .slice e2 e3 e4] 43 (0, 0)) ∧ Den wx (.agg #[.int .u64 e1, .slice e2 e3 e4]) b ∧ Below w4.heap.size w4 wx
theorem stb_of {w4 w5 w7 : World} {f b : Nat} {o1 o2 : Value} {e1 : Int} {e2 : Option Addr} {e3 e4 : Nat} (hp : w5.heap[w4.heap.size]? = some (.cells #[o1, o2] 43 (0, 0))) (h5 : Below w4.heap.size w4 w5) (hn : NoPair #[o1, o2]) (b7 : Below w5.heap.size w5 w7) (hr : Den w7 (.agg #[.int .u64 e1, .slice e2 e3 e4]) b) :
    StB w4 ((w7.setCell ⟨w4.heap.size, 0, none⟩ (.int .u64 e1)).setCell ⟨w4.heap.size, 1, none⟩ (.slice e2 e3 e4)) f b e1 e2 e3 e4 := by
  have P7 := kept_block hp b7
  have q := box_grown w7 w4.heap.size (.int .u64 e1) (.slice e2 e3 e4)
  exact ⟨box_store P7 _ _, hr.kept q (hr.notin hn P7), (h5.trans (b7.mono h5.size)).then_grown q (by rintro g ⟨⟩; exact Nat.le_refl _)⟩
set_option maxRecDepth 100000 in
set_option maxHeartbeats 8000000 in
theorem numDecimal_calls (w : World) (sa : ByteArray) (la : List UInt8) (ha : sa.data.toList = la) (hla : la.length ≤ 4194400) (m : Int) (hM : w.cell? ⟨0, 0, none⟩ = some (.int .i64 m)) (hT : Tab w) (hP : Pows w)
    (t f r1 r2 : Nat) (hst : canB la = true → M.IsStrip 2 (lowN (cden la)) t r1 ∧ M.IsStrip 5 r1 f r2) :
    Calls Tryz.prog 21 #[.string sa] w fun e w' => e = .returned (.tuple #[.string ⟨(decT la t f r2).1.toArray⟩, .int .i64 (decT la t f r2).2]) ∧ Below w.heap.size w w' := by
  have bA := alloc_below w (.cells #[.string sa] 9)
  have t0 := one_cell w (.string sa) 9
  have hM' : (w.alloc (.cells #[.string sa] 9)).cell? ⟨0, 0, none⟩ = some (.int .i64 m) := by rw [bA.cell (World.block_lt_of_cell? w _ hM)]; exact hM
  obtain ⟨W0, hW0⟩ : ∃ W0, (w.alloc (.cells #[.string sa] 9)) = W0 := ⟨_, rfl⟩
  have hz : W0.heap.size = w.heap.size + 1 := by rw [← hW0]; show (w.heap.push _).size = _; simp
  rw [hW0] at bA t0 hM'
  have q0 := parse_single W0 sa la ha (by omega) w.heap.size 1 t0 m hM' (hT.below bA) _ (canB_iff la)
  unfold decT
  cases hk : canB la with
  | false =>
    rw [if_neg (by simp)]
    rw [hk] at q0
    have q1 := hide (q0.mono (fun e w' ⟨⟨_, h2⟩, h3⟩ => (⟨h2 rfl, h3⟩ : e = Ending.returned (.tuple #[.slice none 0 0, .bool false]) ∧ Below W0.heap.size W0 w')))
    replace bA := hide bA
    clear ha t0 hM hM' hT hP hk q0 hz hst
    go_enter Tryz.func21, Tryz.ntmps21
    go_wp2_with (go_at_call 29; (with_reducible refine q1.out.mono ?_); rintro e w1 ⟨rfl, b1⟩; replace b1 := hide b1)
    go_ret2
    exact ⟨rfl, bA.out.then_below b1.out⟩
  | true =>
    rw [if_pos rfl]
    obtain ⟨hs1, hs2⟩ := hst hk
    have hca := (canB_iff la).1 hk
    rw [hk] at q0
    have q2 := q0.mono (fun e w' ⟨⟨h1, _⟩, h3⟩ => (⟨h1 rfl, h3⟩ : (e = Ending.returned (.tuple #[.slice (some ⟨W0.heap.size, 0, none⟩) 1 1, .bool true]) ∧ OneS W0 w' la) ∧ Below W0.heap.size W0 w'))
    unfold OneS at q2
    have HZ := hide hz
    rw [hz] at q2
    obtain ⟨kn, kd⟩ := can_BB hca (K := la.length + 1) (by omega)
    rw [← lowN_can hca] at kd
    have PP := hide (hP.below bA)
    replace bA := hide bA
    obtain ⟨K, hKe⟩ : ∃ K, K = la.length + 1 := ⟨_, rfl⟩
    have hK : K ≤ 4194401 := by omega
    rw [← hKe] at kn kd
    have dl0 : 0 < lowN (cden la) := by unfold lowN; split <;> omega
    change Calls Tryz.prog 29 #[.slice (some ⟨w.heap.size, 0, none⟩) 1 1] W0 (fun e w' => (e = Ending.returned (.tuple #[.slice (some ⟨w.heap.size + 1, 0, none⟩) 1 1, .bool true]) ∧ ∃ (b1 : Bool) (x1 : Int) (x2 : Option Addr) (x3 x4 : Nat) (y1 : Int) (y2 : Option Addr) (y3 y4 : Nat), w'.heap[w.heap.size + 1]? = some (.cells #[.bool b1, .int .u64 x1, .slice x2 x3 x4, .int .u64 y1, .slice y2 y3 y4] 45 (0, 0)) ∧ DenR w' (.agg #[.bool b1, .int .u64 x1, .slice x2 x3 x4, .int .u64 y1, .slice y2 y3 y4]) (cneg la) (M.dec (cup la)) (cden la) ∧ Below (w.heap.size + 1) W0 w') ∧ Below (w.heap.size + 1) W0 w') at q2
    generalize M.dec (cup la) = n at *
    generalize cden la = d at *
    generalize cneg la = s at *
    have q1 := hide q2
    obtain ⟨t1, t2, t3⟩ := strip_bd (by decide) hs1 kd dl0
    have k1 : ((r1 : Nat) : Int) < M.BB ^ K := by refine Int.lt_of_le_of_lt ?_ kd; exact_mod_cast t2
    obtain ⟨f1, f2, f3⟩ := strip_bd (by decide) hs2 k1 t3
    obtain ⟨P, hPP⟩ : ∃ P, max t f = P := ⟨_, rfl⟩
    have hP1 : t ≤ P ∧ f ≤ P ∧ P < 64 * K := by omega
    obtain ⟨MM, hMM⟩ : ∃ MM, 2 ^ (P - t) * 5 ^ (P - f) = MM := ⟨_, rfl⟩
    have mb : ((MM : Nat) : Int) < M.BB ^ (P - t + 1 + (P - f + 1)) := by rw [← hMM]; exact mulBB2 (powBB2 (by decide) _) (powBB2 (by decide) _)
    have nb : ((n * MM : Nat) : Int) < M.BB ^ (K + (P - t + 1 + (P - f + 1))) := mulBB2 kn mb
    have p2 := hide (powBB2 (b := 2) (by decide) (P - t))
    have p5 := hide (powBB2 (b := 5) (by decide) (P - f))
    obtain ⟨K2, hK2e⟩ : ∃ K2, K + (P - t + 1 + (P - f + 1)) = K2 := ⟨_, rfl⟩
    have hK2 : K2 ≤ 560000000 := by omega
    have mb2 : ((MM : Nat) : Int) < M.BB ^ K2 := Int.lt_of_lt_of_le mb (M.pow_le M.BB_pos (by omega))
    have kn2 : ((n : Nat) : Int) < M.BB ^ K2 := Int.lt_of_lt_of_le kn (M.pow_le M.BB_pos (by omega))
    have hK2e' : P - t + 1 ≤ K2 ∧ P - f + 1 ≤ K2 := by omega
    rw [hK2e] at nb
    have ln := dig_len nb
    obtain ⟨SN, hSN⟩ : ∃ S : ByteArray, S = ⟨(Lib.decDigits (n * MM)).toArray⟩ := ⟨_, rfl⟩
    obtain ⟨SP, hSP⟩ : ∃ S : ByteArray, S = ⟨(pointB (Lib.decDigits (n * MM)) P).toArray⟩ := ⟨_, rfl⟩
    obtain ⟨SG, hSG⟩ : ∃ S : ByteArray, S = ⟨(negB s).toArray⟩ := ⟨_, rfl⟩
    have qp := hide (fun W => pointed_calls W SN (Lib.decDigits (n * MM)) P (by rw [hSN]) (by omega) (by omega))
    rw [← hSP] at qp
    have zg : SG.size ≤ 1 := by rw [hSG]; show (negB s).length ≤ 1; unfold negB; split <;> simp
    have zp : SP.size ≤ 1099511627776 := by
      rw [hSP]
      show (pointB _ P).length ≤ _
      have := padB_len (Lib.decDigits (n * MM)) P
      unfold pointB
      split
      · rw [List.length_append]; simp; omega
      · simp only [List.length_append, List.length_take, List.length_drop, List.length_singleton]; omega
    have HSN := hide hSN
    have HSP := hide hSP
    have HSG := hide hSG
    have fin : Hid (decO s n t f 1 = ((SG ++ SP).data.toList, 0)) := by
      show decO s n t f 1 = _
      unfold decO
      rw [if_pos rfl, hPP, hMM, ByteArray.data_append, Array.toList_append, hSG, hSP]
    replace kn := hide kn
    replace kd := hide kd
    replace k1 := hide k1
    replace mb := hide mb
    replace mb2 := hide mb2
    replace kn2 := hide kn2
    replace nb := hide nb
    replace hs1 := hide hs1
    replace hs2 := hide hs2
    replace hMM := hide hMM
    have hPh := hide hPP
    clear ha t0 hM hM' hT hP hk q0 q2 hz hca ln hSN hSP hSG hKe hla t2 f2 hK2e
    go_enter Tryz.func21, Tryz.ntmps21
    go_wp2_with fail
    refine q1.out.mono ?_
    rintro e w1 ⟨⟨rfl, h1⟩, b1_1⟩
    obtain ⟨b1, x1, x2, x3, x4, y1, y2, y3, y4, A1, da, B1⟩ := h1
    replace b1_1 : Below W0.heap.size W0 w1 := by rw [HZ.out]; exact b1_1
    have D1 := hide (bA.out.then_below b1_1)
    have PW := hide (PP.out.below b1_1)
    obtain ⟨⟨z0, z1, z2, z3, z4⟩, -⟩ := ratBox A1
    replace A1 := hide A1
    have DA := hide da
    clear q1 B1 b1_1 bA PP da
    go_wp2_with fail
    refine (lower_low _ _ s n d DA.out).mono ?_
    rintro e w2 ⟨⟨rl, rfl, dl⟩, b2⟩
    replace dl := hide dl
    replace b2 := hide b2
    obtain ⟨l1, l2, l3, l4, rfl⟩ := dl.out.shape2
    go_wp2_with fail
    refine (word_calls _ 2 (by decide)).mono ?_
    rintro e w3 ⟨rfl, b3⟩
    have q3 := hide (natStrip_calls w3 _ _ (lowN d) 2 K (dl.out.below b3) (den_word w3 2 (by decide)) dl0 (by decide) kd.out (by omega))
    have b13 := hide (b2.out.then_below b3)
    clear b2 b3
    go_wp2_with fail
    refine q3.out.mono ?_
    rintro e w4 ⟨⟨rr, b', c', rfl, dr, is1, -, -, -⟩, b4⟩
    obtain ⟨rfl, rfl⟩ := M.strip_unique (by decide) hs1.out is1
    obtain ⟨e1, e2, e3, e4, rfl⟩ := dr.shape2
    have b14 := b13.out.then_below b4
    have A4 := kept_block A1.out b14
    have DA4 := hide (DA.out.below b14)
    have D4 := hide (D1.out.then_below b14)
    have PW4 := hide (PW.out.below b14)
    have B5 := alloc_below w4 (.cells #[.int .u64 e1, .slice e2 e3 e4] 43)
    have P5 := hide (heap_alloc_new w4 (.cells #[.int .u64 e1, .slice e2 e3 e4] 43))
    have dr5 := hide (dr.below B5)
    have A4h := hide A4
    replace B5 := hide B5
    clear q3 is1 b4 b13 b14 dl D1 PW DA A1 z0 z1 z2 z3 z4 dr A4
    go_upto_region 5 with fail
    generalize hw5 : w4.alloc (.cells #[.int .u64 e1, .slice e2 e3 e4] 43) = w5 at *
    replace hw5 := hide hw5
    obtain ⟨c0, c1, -, -⟩ := box_facts P5.out
    have E5 : Below w5.heap.size w5 w5.drew := (Below.refl _ _).drew
    have S0 : Hid (w5.cell? ⟨w4.heap.size, 0, none⟩ = some (.int .u64 e1) ∧ w5.cell? ⟨w4.heap.size, 1, none⟩ = some (.slice e2 e3 e4) ∧ Below w5.heap.size w5 w5) := ⟨c0, c1, Below.refl _ _⟩
    clear c0 c1
    go_cut [8] (fun s8 wx => ∃ (f' b' : Nat) (g1 : Int) (g2 : Option Addr) (g3 g4 : Nat), s8 = .int .i64 (f' : Int) ∧ Hid (M.IsStrip 5 r1 f' b') ∧ Hid (StB w4 wx f' b' g1 g2 g3 g4))
    case first =>
      obtain ⟨c0, c1, -, -⟩ := box_facts P5.out
      go_region_with (first
          | (go_at_call 53; refine (word_calls _ 5 (by decide)).mono ?_; rintro e w6 ⟨rfl, b6⟩; obtain ⟨d0, d1, -, -⟩ := box_facts (kept_block P5.out (show Below w5.heap.size w5 w6 by repeat (first | exact E5 | exact Below.refl _ _ | (refine Below.drew ?_) | (refine Below.then_below ?_ b6)))))
          | (go_at_call 52; refine (natStrip_calls _ _ _ r1 5 K (dr5.out.below (by repeat (first | exact E5 | exact Below.refl _ _ | (refine Below.drew ?_) | (refine Below.then_below ?_ b6)))) (den_word _ 5 (by decide)) t3 (by decide) k1.out (by omega)).mono ?_; rintro e w7 ⟨⟨rr, b', c', rfl, dr2, is2, -, -, -⟩, b7⟩; obtain ⟨g1, g2, g3, g4, rfl⟩ := dr2.shape2; have AZ := kept_block P5.out (show Below w5.heap.size w5 w7 by repeat (first | exact E5 | exact Below.refl _ _ | (refine Below.drew ?_) | (refine Below.then_below ?_ b7) | (refine Below.then_below ?_ b6))); obtain ⟨z0, z1, f0, f1⟩ := box_facts AZ; replace is2 := hide is2))
      all_goals (go_wp2_with fail; go_meet)
      all_goals exact ⟨c', b', g1, g2, g3, g4, rfl, is2, stb_of P5.out (B5.out.mono (Nat.le_refl _)) (nopair2 _ _ _ _) (by repeat (first | exact E5 | exact Below.refl _ _ | (refine Below.drew ?_) | (refine Below.then_below ?_ b7) | (refine Below.then_below ?_ b6))) dr2⟩
    case rest =>
    obtain ⟨f', b', g1, g2, g3, g4, rfl, is2, ST⟩ := hcut
    obtain ⟨rfl, rfl⟩ := M.strip_unique (by decide) hs2.out is2.out
    obtain ⟨P6, dr6, B6⟩ := ST.out
    obtain ⟨c0, c1, -, -⟩ := box_facts P6
    have A6 := hide (kept_block A4h.out B6)
    have DA6 := hide (DA4.out.below B6)
    have D6 := hide (D4.out.then_below B6)
    have PW6 := hide (PW4.out.below B6)
    have q6 := hide (isOne_calls wc _ _ dr6)
    clear is2 ST P6 dr6 B6 P5 B5 dr5 A4h DA4 D4 PW4 S0 E5 hw5
    by_cases hr : r2 = 1
    · rw [decide_eq_true hr] at q6
      subst hr
      have eP1 : ((P - t : Nat) : Int) = (P : Int) - t := by omega
      have eP2 : ((P - f : Nat) : Int) = (P : Int) - f := by omega
      have wP1 : IntKind.i64.wrap ((P : Int) - t) = (P : Int) - t := by rw [IntKind.wrap_i64]; omega
      have wP2 : IntKind.i64.wrap ((P : Int) - f) = (P : Int) - f := by rw [IntKind.wrap_i64]; omega
      have hmx : max (t : Int) (f : Int) = (P : Int) := by omega
      have qa := hide (fun W => pow_calls W _ 2 (P - t) (P - t + 1) (den_word W 2 (by decide)) (by decide) (by omega) p2.out (small_BB (by decide) _) (by omega))
      have qb := hide (fun W => pow_calls W _ 5 (P - f) (P - f + 1) (den_word W 5 (by decide)) (by decide) (by omega) p5.out (small_BB (by decide) _) (by omega))
      rw [eP1] at qa
      rw [eP2] at qb
      have K2h := hide hK2e'
      go_wp2_with fail
      refine q6.out.mono ?_
      rintro e w8 ⟨rfl, b8⟩
      have A8 := hide (kept_block A6.out b8)
      have DA8 := hide (DA6.out.below b8)
      have D8 := hide (D6.out.then_below b8)
      have PW8 := hide (PW6.out.below b8)
      clear q6 b8 A6 DA6 D6 PW6 c0 c1
      go_wp2_with fail
      refine (word_calls _ 2 (by decide)).mono ?_
      rintro e w9 ⟨rfl, b9⟩
      have q := qa.out w9
      replace q := hide q
      replace b9 := hide b9
      go_wp2_with fail
      refine q.out.mono ?_
      rintro e w10 ⟨⟨ra, rfl, da⟩, b10⟩
      obtain ⟨a1, a2, a3, a4, rfl⟩ := da.shape2
      replace da := hide da
      replace b10 := hide (b9.out.then_below b10)
      clear q b9
      go_wp2_with fail
      refine (word_calls _ 5 (by decide)).mono ?_
      rintro e w11 ⟨rfl, b11⟩
      have q := qb.out w11
      replace q := hide q
      replace da := hide (da.out.below b11)
      replace b11 := hide (b10.out.then_below b11)
      clear b10
      go_wp2_with fail
      refine q.out.mono ?_
      rintro e w12 ⟨⟨rb, rfl, db⟩, b12⟩
      obtain ⟨h1, h2, h3, h4, rfl⟩ := db.shape2
      have qm := hide (natMul_calls w12 _ _ _ _ K2 (da.out.below b12) db (Int.lt_of_lt_of_le p2.out (M.pow_le M.BB_pos K2h.out.1)) (Int.lt_of_lt_of_le p5.out (M.pow_le M.BB_pos K2h.out.2)) (by omega))
      rw [hMM.out] at qm
      replace b12 := hide (b11.out.then_below b12)
      clear q b11 da db qa qb
      go_wp2_with fail
      refine qm.out.mono ?_
      rintro e w13 ⟨⟨rm, rfl, dm⟩, b13⟩
      obtain ⟨m1, m2, m3, m4, rfl⟩ := dm.shape2
      have B13 := b12.out.then_below b13
      have A13 := kept_block A8.out B13
      have DA13 := DA8.out.below B13
      have D13 := D8.out.then_below B13
      have PW13 := PW8.out.below B13
      have BX := alloc_below w13 (.cells #[.int .u64 m1, .slice m2 m3 m4] 43)
      have PX := heap_alloc_new w13 (.cells #[.int .u64 m1, .slice m2 m3 m4] 43)
      have A14 := kept_block A13 BX
      have DA14 := hide (DA13.below BX)
      have D14 := hide (D13.then_below BX)
      have PW14 := hide (PW13.below BX)
      have DM := hide (dm.below BX)
      obtain ⟨⟨z0, z1, z2, z3, z4⟩, -⟩ := ratBox A14
      obtain ⟨c0, c1, -, -⟩ := box_facts PX
      clear qm b12 b13 dm B13 A13 DA13 D13 PW13 BX A8 DA8 D8 PW8
      go_upto_region 10 with fail
      generalize hw5 : w13.alloc (.cells #[.int .u64 m1, .slice m2 m3 m4] 43) = w14 at *
      have m7 : ¬ 9223372036854775807 < SG.size + SP.size := by omega
      have E5 : Below w14.heap.size w14 w14.drew := (Below.refl _ _).drew
      have S0 : Hid (w14.cell? ⟨w.heap.size + 1, 0, none⟩ = some (.bool b1) ∧ w14.cell? ⟨w.heap.size + 1, 1, none⟩ = some (.int .u64 x1) ∧ w14.cell? ⟨w.heap.size + 1, 2, none⟩ = some (.slice x2 x3 x4) ∧ w14.cell? ⟨w.heap.size + 1, 3, none⟩ = some (.int .u64 y1) ∧ w14.cell? ⟨w.heap.size + 1, 4, none⟩ = some (.slice y2 y3 y4) ∧ w14.cell? ⟨w13.heap.size, 0, none⟩ = some (.int .u64 m1) ∧ w14.cell? ⟨w13.heap.size, 1, none⟩ = some (.slice m2 m3 m4) ∧ Below w14.heap.size w14 w14) := ⟨z0, z1, z2, z3, z4, c0, c1, Below.refl _ _⟩
      clear A14 PX z0 z1 z2 z3 z4 c0 c1
      go_region_held3
        (fun w' => w'.cell? ⟨w.heap.size + 1, 0, none⟩ = some (.bool b1) ∧ w'.cell? ⟨w.heap.size + 1, 1, none⟩ = some (.int .u64 x1) ∧ w'.cell? ⟨w.heap.size + 1, 2, none⟩ = some (.slice x2 x3 x4) ∧ w'.cell? ⟨w.heap.size + 1, 3, none⟩ = some (.int .u64 y1) ∧ w'.cell? ⟨w.heap.size + 1, 4, none⟩ = some (.slice y2 y3 y4) ∧ w'.cell? ⟨w13.heap.size, 0, none⟩ = some (.int .u64 m1) ∧ w'.cell? ⟨w13.heap.size, 1, none⟩ = some (.slice m2 m3 m4) ∧ Below w14.heap.size w14 w')
        ((refine cells7_keep (w := w14) S0.out ?_; repeat (first | with_reducible exact E5 | with_reducible exact Below.refl _ _ | (with_reducible refine Below.drew ?_) | (with_reducible refine Below.then_below ?_ be) | (with_reducible refine Below.then_below ?_ bd) | (with_reducible refine Below.then_below ?_ bc) | (with_reducible refine Below.then_below ?_ bb) | (with_reducible refine Below.then_below ?_ ba))))
        (first
          | (go_at_call 57; refine (numSign_calls _ _ s n d (DA14.out.below (by repeat (first | with_reducible exact E5 | with_reducible exact Below.refl _ _ | (with_reducible refine Below.drew ?_))))).mono ?_; rintro e wa ⟨ea, ba⟩; rw [← HSG.out] at ea; subst ea)
          | (go_at_call 30; refine (upper_calls _ _ s n d (DA14.out.below (by repeat (first | with_reducible exact E5 | with_reducible exact Below.refl _ _ | (with_reducible refine Below.drew ?_) | (with_reducible refine Below.then_below ?_ ba))))).mono ?_; rintro e wb ⟨⟨ru, rfl, du⟩, bb⟩; obtain ⟨u1, u2, u3, u4, rfl⟩ := du.shape2)
          | (go_at_call 56; refine (natMul_calls _ _ _ n MM K2 (du.below (by repeat (first | with_reducible exact Below.refl _ _ | (with_reducible refine Below.drew ?_)))) (DM.out.below (by repeat (first | with_reducible exact E5 | with_reducible exact Below.refl _ _ | (with_reducible refine Below.drew ?_) | (with_reducible refine Below.then_below ?_ bb) | (with_reducible refine Below.then_below ?_ ba)))) kn2.out mb2.out (by omega)).mono ?_; rintro e wc ⟨⟨rm, rfl, dm⟩, bc⟩; obtain ⟨v1, v2, v3, v4, rfl⟩ := dm.shape2)
          | (go_at_call 31; refine (natText_calls _ _ (n * MM) K2 (dm.below (by repeat (first | with_reducible exact Below.refl _ _ | (with_reducible refine Below.drew ?_)))) nb.out (by omega) (PW14.out.below (by repeat (first | with_reducible exact E5 | with_reducible exact Below.refl _ _ | (with_reducible refine Below.drew ?_) | (with_reducible refine Below.then_below ?_ bc) | (with_reducible refine Below.then_below ?_ bb) | (with_reducible refine Below.then_below ?_ ba))))).mono ?_; rintro e wd ⟨ed, bd⟩; rw [← HSN.out] at ed; subst ed)
          | (go_at_call 58; refine (qp.out _).mono ?_; rintro e we ⟨rfl, be⟩))
      go_wp2
      go_ret2
      refine ⟨?_, D14.out.then_below (by repeat (first | with_reducible exact E5 | with_reducible exact Below.refl _ _ | (with_reducible refine Below.drew ?_) | (with_reducible refine Below.then_below ?_ be) | (with_reducible refine Below.then_below ?_ bd) | (with_reducible refine Below.then_below ?_ bc) | (with_reducible refine Below.then_below ?_ bb) | (with_reducible refine Below.then_below ?_ ba)))⟩
      rw [fin.out]
      exact tup2_eq rfl
    · rw [decide_eq_false hr] at q6
      have e0 : decO s n t f r2 = ([], 1) := by unfold decO; rw [if_neg hr]
      replace e0 := hide e0
      clear hr
      go_wp2_with fail
      refine q6.out.mono ?_
      rintro e w8 ⟨rfl, b8⟩
      replace b8 := hide b8
      go_wp2_with fail
      go_ret2
      refine ⟨?_, D6.out.then_below b8.out⟩
      rw [e0.out]
      rfl
end Go.Proofs.YtebnjolkolobhaaGreatDoor
