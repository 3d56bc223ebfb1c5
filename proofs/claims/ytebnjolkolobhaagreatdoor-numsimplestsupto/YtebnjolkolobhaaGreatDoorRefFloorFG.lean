/-
  The document's Below.
-/
import Derived.Test.YtebnjolkolobhaaGreatDoorRefGG
/- ==== RefFloorF ==== -/
namespace Go.Proofs.YtebnjolkolobhaaGreatDoor
open Go.RowKit
set_option linter.unusedVariables false
/-- The size of the greatest whole number that is not above. -/
def flN (s : Bool) (n D : Nat) : Nat := if s = true ∧ n % D ≠ 0 then n / D + 1 else n / D
theorem flN_le (s : Bool) (n D : Nat) : flN s n D ≤ n + 1 := by
  unfold flN
  have := Nat.div_le_self n D
  split <;> omega
set_option maxRecDepth 100000 in
set_option maxHeartbeats 4000000 in
theorem rbelow_calls (w : World) (v : Value) (s : Bool) (n d K : Nat) (h : RR w v s n d) (hd : 0 < d) (kn : (n : Int) < M.NB ^ K) (kd : (d : Int) < M.NB ^ K) (hK : K + 1 ≤ 17592186044) (hK1 : 1 ≤ K) :
    Calls Tryz.prog 131 #[v] w fun e w' => (∃ r, e = .returned r ∧ RR w' r (s && !decide (flN s n d = 0)) (flN s n d) 1) ∧ Below w.heap.size w w' := by
  obtain ⟨F, hF⟩ : ∃ F, Hid (flN s n d = F) := ⟨_, rfl⟩
  rw [hF.out]
  obtain ⟨na, nl, nc, da, dl, dc, rfl, h1, h2⟩ := h
  obtain ⟨X1, Y1, -⟩ := two_new w (.cells #[.bool s, .slice na nl nc, .slice da dl dc] 59) (.cells #[.bool false, .slice none 0 0, .slice none 0 0] 59)
  have B0 := alloc2_below w (.cells #[.bool s, .slice na nl nc, .slice da dl dc] 59) (.cells #[.bool false, .slice none 0 0, .slice none 0 0] 59)
  obtain ⟨W0, hW0⟩ : ∃ W0, (w.alloc (.cells #[.bool s, .slice na nl nc, .slice da dl dc] 59)).alloc (.cells #[.bool false, .slice none 0 0, .slice none 0 0] 59) = W0 := ⟨_, rfl⟩
  rw [hW0] at X1 Y1 B0
  have q1 := hide (rdiv_calls W0 _ _ n d K (h1.below B0) (h2.below B0) hd kn kd (by omega) (by omega))
  have qI := hide (fun W => natInt_calls W 1 (by decide) (by decide))
  have kq : Hid (((n / d : Nat) : Int) < M.NB ^ K) := Int.lt_of_le_of_lt (by exact_mod_cast Nat.div_le_self n d) kn
  have k1 : Hid (((1 : Nat) : Int) < M.NB ^ K) := by
    show ((1 : Nat) : Int) < _
    have h1 : M.NB ^ 1 ≤ M.NB ^ K := M.pow_le M.NB_pos hK1
    have h2 : M.NB ^ 1 = 1000000000 := by rw [M.NB_eq]; decide
    omega
  obtain ⟨x0, x1, x2, -, -, -⟩ := box3 X1
  replace X1 := hide X1
  replace Y1 := hide Y1
  replace B0 := hide B0
  clear h1 h2 kn kd hd
  have fin : Hid (∀ (W : World) (x : Bool) (qa : Option Addr) (ql qc : Nat) (ea : Option Addr) (el ec : Nat), Below W0.heap.size W0 W → RN W (.slice qa ql qc) F → RN W (.slice ea el ec) 1 →
      RR (((W.setCell ⟨w.heap.size + 1, 0, none⟩ (.bool x)).setCell ⟨w.heap.size + 1, 1, none⟩ (.slice qa ql qc)).setCell ⟨w.heap.size + 1, 2, none⟩ (.slice ea el ec)) (.agg #[.bool x, .slice qa ql qc, .slice ea el ec]) x F 1 ∧ Below w.heap.size w (((W.setCell ⟨w.heap.size + 1, 0, none⟩ (.bool x)).setCell ⟨w.heap.size + 1, 1, none⟩ (.slice qa ql qc)).setCell ⟨w.heap.size + 1, 2, none⟩ (.slice ea el ec))) := by
    intro W x qa ql qc ea el ec hW hq he
    have q := set3 W (w.heap.size + 1) (.bool x) (.slice qa ql qc) (.slice ea el ec)
    have Y2 := kept_block Y1.out hW
    exact ⟨⟨qa, ql, qc, ea, el, ec, rfl, hq.past Y2 q, he.past Y2 q⟩, (B0.out.then_below hW).then_grown q (by rintro g ⟨⟩; omega)⟩
  cases s with
  | false =>
    have eF : Hid (n / d = F) := by show _ = F; rw [← hF.out]; unfold flN; rw [if_neg (by simp)]
    rw [eF.out] at q1
    go_enter Tryz.func131, Tryz.ntmps131
    go_wp2_with (first
      | (go_at_call 63; refine q1.out.mono ?_; rintro e wa ⟨⟨vq, vr, rfl, mq, mr⟩, ba⟩; obtain ⟨qa, ql, qc, rfl, qe, -, -⟩ := mq.form; obtain ⟨ra, rl, rc, rfl, re, -, -⟩ := mr.form; obtain ⟨x0', x1', x2', -, -, -⟩ := box3 (kept_block X1.out ba); replace mq := hide mq; replace mr := hide mr; replace qe := hide qe; replace re := hide re; replace ba := hide ba)
      | (go_at_call 61; refine (qI.out _).mono ?_; rintro e wb ⟨⟨ve, rfl, me⟩, bb⟩; obtain ⟨ea, el, ec, rfl, -, -, -⟩ := me.form; obtain ⟨y0, y1, y2, f0, f1, f2⟩ := box3 (kept_block Y1.out (ba.out.then_below bb)); replace me := hide me; replace bb := hide bb))
    refine bodyPost_ret (v := .agg #[.bool false, .slice qa ql qc, .slice ea el ec]) (by simp [results, Tryz.results131, go_sem, y0, y1, y2]) rfl ?_
    obtain ⟨u, v⟩ := fin.out wb false qa ql qc ea el ec (ba.out.then_below bb.out) (mq.out.below bb.out) me.out
    exact ⟨⟨_, rfl, u⟩, v⟩
  | true =>
    by_cases hr : n % d = 0
    · have eF : Hid (n / d = F) := by show _ = F; rw [← hF.out]; unfold flN; rw [if_neg (by simp [hr])]
      rw [eF.out, hr] at q1
      clear hr
      by_cases hz : F = 0
      · rw [decide_eq_true hz]
        replace hz := hide hz
        go_enter Tryz.func131, Tryz.ntmps131
        go_wp2_with (first
          | (go_at_call 63; refine q1.out.mono ?_; rintro e wa ⟨⟨vq, vr, rfl, mq, mr⟩, ba⟩; obtain ⟨qa, ql, qc, rfl, qe, -, -⟩ := mq.form; obtain ⟨ra, rl, rc, rfl, re, -, -⟩ := mr.form; obtain ⟨x0', x1', x2', -, -, -⟩ := box3 (kept_block X1.out ba); obtain rfl : ql = 0 := qe.2 hz.out; obtain rfl : rl = 0 := re.2 rfl; replace mq := hide mq; replace mr := hide mr; replace qe := hide qe; replace re := hide re; replace ba := hide ba)
          | (go_at_call 61; refine (qI.out _).mono ?_; rintro e wb ⟨⟨ve, rfl, me⟩, bb⟩; obtain ⟨ea, el, ec, rfl, -, -, -⟩ := me.form; obtain ⟨y0, y1, y2, f0, f1, f2⟩ := box3 (kept_block Y1.out (ba.out.then_below bb)); replace me := hide me; replace bb := hide bb))
        refine bodyPost_ret (v := .agg #[.bool false, .slice qa 0 qc, .slice ea el ec]) (by simp [results, Tryz.results131, go_sem, y0, y1, y2]) rfl ?_
        obtain ⟨u, v⟩ := fin.out wb false qa 0 qc ea el ec (ba.out.then_below bb.out) (mq.out.below bb.out) me.out
        exact ⟨⟨_, rfl, u⟩, v⟩
      · rw [decide_eq_false hz]
        replace hz := hide hz
        go_enter Tryz.func131, Tryz.ntmps131
        go_wp2_with (first
          | (go_at_call 63; refine q1.out.mono ?_; rintro e wa ⟨⟨vq, vr, rfl, mq, mr⟩, ba⟩; obtain ⟨qa, ql, qc, rfl, qe, -, -⟩ := mq.form; obtain ⟨ra, rl, rc, rfl, re, -, -⟩ := mr.form; obtain ⟨x0', x1', x2', -, -, -⟩ := box3 (kept_block X1.out ba); have hql : 0 < ql := Nat.pos_of_ne_zero (fun e => hz.out (qe.1 e)); have hql2 : (0 : Int) < ql := (by omega); obtain rfl : rl = 0 := re.2 rfl; replace mq := hide mq; replace mr := hide mr; replace qe := hide qe; replace re := hide re; replace ba := hide ba)
          | (go_at_call 61; refine (qI.out _).mono ?_; rintro e wb ⟨⟨ve, rfl, me⟩, bb⟩; obtain ⟨ea, el, ec, rfl, -, -, -⟩ := me.form; obtain ⟨y0, y1, y2, f0, f1, f2⟩ := box3 (kept_block Y1.out (ba.out.then_below bb)); replace me := hide me; replace bb := hide bb))
        refine bodyPost_ret (v := .agg #[.bool true, .slice qa ql qc, .slice ea el ec]) (by simp [results, Tryz.results131, go_sem, y0, y1, y2]) rfl ?_
        obtain ⟨u, v⟩ := fin.out wb true qa ql qc ea el ec (ba.out.then_below bb.out) (mq.out.below bb.out) me.out
        exact ⟨⟨_, rfl, u⟩, v⟩
    · have eF : Hid (n / d + 1 = F) := by show _ = F; rw [← hF.out]; unfold flN; rw [if_pos ⟨rfl, hr⟩]
      have hz : ¬ F = 0 := by rw [← eF.out]; exact Nat.succ_ne_zero _
      rw [decide_eq_false hz]
      replace hr := hide hr
      replace hz := hide hz
      go_enter Tryz.func131, Tryz.ntmps131
      go_upto_region 6 with (first
        | (go_at_call 63; refine q1.out.mono ?_; rintro e wa ⟨⟨vq, vr, rfl, mq, mr⟩, ba⟩; obtain ⟨qa, ql, qc, rfl, qe, -, -⟩ := mq.form; obtain ⟨ra, rl, rc, rfl, re, -, -⟩ := mr.form; obtain ⟨x0', x1', x2', -, -, -⟩ := box3 (kept_block X1.out ba); have hrl : 0 < rl := Nat.pos_of_ne_zero (fun e => hr.out (re.1 e)); have hrl2 : (0 : Int) < rl := (by omega); replace mq := hide mq; replace mr := hide mr; replace qe := hide qe; replace re := hide re; replace ba := hide ba)
        | (go_at_call 61; refine (qI.out _).mono ?_; rintro e wc ⟨⟨vc, rfl, mc⟩, bc⟩; replace mc := hide mc; replace bc := hide bc)
        | (go_at_call 165; refine (addRN _ _ _ (n / d) 1 K (mq.out.below bc.out) mc.out kq.out k1.out (by omega)).mono ?_; rintro e wd ⟨⟨vs, rfl, ms⟩, bd⟩; rw [eF.out] at ms; obtain ⟨sa, sl, sc, rfl, se, -, -⟩ := ms.form; have hsl : 0 < sl := Nat.pos_of_ne_zero (fun e => hz.out (se.1 e)); have hsl2 : (0 : Int) < sl := (by omega); replace ms := hide ms; replace se := hide se; replace bd := hide bd))
      have bD := hide ((ba.out.then_below bc.out).then_below bd.out)
      go_wp2_with (go_at_call 61; refine (qI.out _).mono ?_; rintro e wb ⟨⟨ve, rfl, me⟩, bb⟩; obtain ⟨ea, el, ec, rfl, -, -, -⟩ := me.form; obtain ⟨y0, y1, y2, f0, f1, f2⟩ := box3 (kept_block Y1.out (bD.out.then_below bb)); replace me := hide me; replace bb := hide bb)
      refine bodyPost_ret (v := .agg #[.bool true, .slice sa sl sc, .slice ea el ec]) (by simp [results, Tryz.results131, go_sem, y0, y1, y2]) rfl ?_
      obtain ⟨u, v⟩ := fin.out wb true sa sl sc ea el ec (bD.out.then_below bb.out) (ms.out.below bb.out) me.out
      exact ⟨⟨_, rfl, u⟩, v⟩
end Go.Proofs.YtebnjolkolobhaaGreatDoor
