/-
  given.take: a list is written full with a mark of its own, and noted.
-/
import Derived.Test.YtkdalejceclanaaRdApp
import Derived.Test.YtkdalejceclanaaRdBody
namespace Go.Proofs.Ytkdalejceclanaa
open Go.RowKit
set_option linter.unusedVariables false
theorem updF_twice {α : Type} (f : Nat → α) (i : Nat) (x y : α) : updF (updF f i x) i y = updF f i y := by
  funext j
  by_cases e : j = i
  · subst e; rw [updF_same, updF_same]
  · rw [updF_other _ _ _ e, updF_other _ _ _ e, updF_other _ _ _ e]
theorem updF_self {α : Type} (f : Nat → α) (i : Nat) : updF f i (f i) = f := by
  funext j
  by_cases e : j = i
  · subst e; rw [updF_same]
  · rw [updF_other _ _ _ e]
theorem own_form {w : World} {base size n : Nat} {e : TypeId} {a : Option Addr} {cap : Nat} {xs : List Value} (h : w.ownsRow base e size (.slice a n cap) n xs) (hn : 0 < n) : ∃ g, a = some ⟨g, 0, none⟩ := by
  rcases h.2 with ⟨e1, e2⟩ | ⟨g, cap', cur, e1, -⟩
  · omega
  · cases e1
    exact ⟨g, rfl⟩
set_option maxRecDepth 100000 in
set_option maxHeartbeats 8000000 in
theorem take_calls (w : World) (B gb n k : Nat) (vs : Nat → Value) (cs : Nat → List Int) (lv mv : Value) (ls ms : List Value) (F : Fam w B n vs cs) (G : GS gb w lv mv ls ms) (hk : k < n) (hB : B ≤ gb) (hl : (cs k).length ≤ 1099511627776) (hls : ls.length ≤ 1099511627776) :
    Calls Try.prog 55 #[.pointer (some ⟨gb, 0, none⟩), vs k] w fun e w' => e = .returned (.tuple #[]) ∧ Fam w' B n vs (updF cs k (List.replicate (cs k).length (-9000 - (ls.length : Int)))) ∧ (∃ lv', GS gb w' lv' mv (ls ++ [vs k]) ms) ∧ Ch B (qG gb) w w' := by
  obtain ⟨i1, ki, kz0, kz1, kz2⟩ := rinfo_parts rInfoInts
  obtain ⟨av, cv, hv⟩ := F.slice hk
  obtain ⟨al, kl, rfl⟩ := row_slice G.2.1
  obtain ⟨c0, c1, z0, z1⟩ := G.cells
  obtain ⟨l, hl'⟩ : ∃ l, cs k = l := ⟨_, rfl⟩
  have F0 : Hid (Fam w B n vs (updF cs k (overI (-9000 - (ls.length : Int)) l 0))) := by show Fam _ _ _ _ _; rw [overI_zero, ← hl', updF_self]; exact F
  rw [hl'] at hl hv ⊢
  have C0 := hide (Ch.refl B qI w)
  have GG := hide G
  have hvh := hide hv
  rw [hv]
  have wz : wrap64 (-9000 - (ls.length : Int)) = -9000 - (ls.length : Int) := by unfold wrap64; omega
  obtain ⟨z, hz⟩ : ∃ z : Int, -9000 - (ls.length : Int) = z := ⟨_, rfl⟩
  rw [hz] at F0 wz ⊢
  clear F G hl' hv
  go_enter Try.func55, Try.ntmps55
  go_upto_region 1 with fail
  replace hz := hide hz
  clear c0 c1 z0 z1
  go_wp2_with fail
  go_loopw [5] (fun x wr => ∃ q : Nat, x = .int .i64 (q : Int) ∧ q ≤ l.length ∧ Hid (Fam wr B n vs (updF cs k (overI z l q))) ∧ Hid (Ch B qI w wr)) (fun x _ => l.length - (intOf x).toNat)
  case atStart => exact ⟨0, rfl, Nat.zero_le _, F0, C0⟩
  case round =>
    clear F0 C0
    obtain ⟨q, rfl, hq, FF, CC⟩ := hrel
    by_cases hlt : q < l.length
    · have row := FF.out.1 k hk
      rw [hvh.out, updF_same, overI_len z hq] at row
      obtain ⟨g, rfl⟩ := own_form row (by omega)
      have cq := row.cellAt q (by omega)
      have fq := row.frozenAt q
      have cq' : ∃ u, wr.cell? ⟨g, q, none⟩ = some u := by
        rw [cq]
        exact ⟨_, List.getElem?_eq_getElem (by show q < (rowI (overI z l q)).length; rw [List.length_map, overI_len z hq]; exact hlt)⟩
      obtain ⟨u, cu⟩ := cq'
      obtain ⟨st1, st2⟩ := row.stored q (.int .i64 z)
      rw [overI_set z hlt] at st1
      have FN := FF.out.put (w' := wr.setCell ⟨g, q, none⟩ (.int .i64 z)) (l := overI z l (q + 1)) hk (by rw [hvh.out, overI_len z hlt]; exact st1) (by rw [hvh.out]; exact st2)
      rw [updF_twice] at FN
      have CN := CC.out.trans (Ch.of_grown (q := qI) row (Nat.le_refl B) (by have := CC.out.bel.size; have := GG.out.lt; omega) (fun g _ => by unfold qI; simp) st2)
      replace FN := hide FN
      replace CN := hide CN
      have q0 : (0 : Int) ≤ (q : Int) := by omega
      have q1 : (q : Int) < (l.length : Int) := by omega
      clear row cq st1 st2 FF CC
      go_wp2_with fail
      go_round
      case rel => exact ⟨q + 1, by go_num, by omega, FN, CN⟩
      case measure => simp [intOf]; omega
    · obtain rfl : q = l.length := by omega
      rw [overI_all] at FF
      have G1 := hide (GG.out.ch CC.out (fun g t ht => by unfold qI; exact ht))
      obtain ⟨c0, c1, z0, z1⟩ := G1.out.cells
      have CN := hide (CC.out.mono (p := qG gb) (fun g t h => qI_G h))
      have OA := hide (World.ownsRow.alloc G1.out.2.1 (.cells #[.slice av l.length cv] 23))
      have CA := hide (cell_one_new wr (.slice av l.length cv) 23)
      have szz := hide (And.intro hls G1.out.lt)
      clear hlt hq CC
      go_upto_region 6 with (at_builtin; (refine wpList_append_own_at _ rfl _ _ 22 rfl (gb + 1) 23 i1 (.slice none 0 0) 1 24 rSliceInts ki kz0 kz1 kz2 rfl (by decide) _ _ _ rfl OA.out ⟨wr.heap.size, 0, none⟩ 1 1 [.slice av l.length cv] rfl rfl CA.out (by simp [Value.oneCell']) (by have ⟨q1, q2⟩ := szz.out; unfold maxLen; omega) (by have ⟨q1, q2⟩ := szz.out; omega) (by have ⟨q1, q2⟩ := szz.out; simp; omega) ?_; intro v8 w8 hown8 hgrow8 _ hv8; obtain ⟨a8, k8, rfl⟩ := row_slice hown8; obtain ⟨G8, C8, f0, y0⟩ := GS.put0 (B := B) G1.out hB hown8 hgrow8 hv8; replace G8 := hide G8; replace C8 := hide C8; clear hown8 hgrow8 hv8))
      have F8 := hide (FF.out.ch C8.out (fun g => by unfold qL; simp))
      have C9 := hide (CN.out.trans (C8.out.mono (p := qG gb) (fun g t h => qL_G h)))
      go_wp2_with fail
      go_end0
      exact ⟨rfl, F8.out, ⟨_, G8.out⟩, C9.out⟩
end Go.Proofs.Ytkdalejceclanaa
