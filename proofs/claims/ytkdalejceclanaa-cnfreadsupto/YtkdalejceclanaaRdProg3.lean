/-
  Package cnf: Read.
-/
import Derived.Test.YtkdalejceclanaaRdProg2
namespace Go.Proofs.Ytkdalejceclanaa
open Go.RowKit
set_option linter.unusedVariables false
/-- What the program's Read tells. -/
def WPostP (A : Ans) (w : World) (e : Ending) (w' : World) : Prop :=
  Below w.heap.size w w' ∧ (A.1 = true → ∃ vc vt vals, e = .returned (.tuple #[.agg #[.int .i64 (A.2.1 : Int), vc, vt], .int .i64 0, .int .i64 0]) ∧ CV w' w.heap.size vc vals A.2.2.1 ∧ w'.ownsRow w.heap.size 3 1 vt A.2.2.2.1.length (rowI A.2.2.2.1) ∧ ∀ i, i < A.2.2.1.length → (vals.getD i nilS).ownBlock = none ∨ (vals.getD i nilS).ownBlock ≠ vt.ownBlock) ∧
    (A.1 = false → e = .returned (.tuple #[zCnf, .int .i64 40, .int .i64 (A.2.2.2.2 : Int)]))
theorem new_calls (w : World) (s : ByteArray) :
    Calls Try.prog 51 #[.string s] w fun e w' => e = .returned (.pointer (some ⟨w.heap.size, 0, none⟩)) ∧ w' = w.alloc (.cells #[.string s, .int .i64 0, .int .i64 0] 132) := by
  go_enter Try.func51, Try.ntmps51
  go_wp2_with fail
  go_ret
  exact ⟨rfl, rfl⟩
theorem at_calls (w : World) (g : Nat) (s : ByteArray) (a n : Nat) (R : RDR w g s a n) :
    Calls Try.prog 53 #[.pointer (some ⟨g, 0, none⟩)] w fun e w' => e = .returned (.int .i64 (a : Int)) ∧ w' = w := by
  obtain ⟨⟨c0, c1, c2⟩, z1, z2⟩ := R.cells
  go_enter Try.func53, Try.ntmps53
  go_wp2_with fail
  go_ret
  exact ⟨rfl, rfl⟩
set_option maxRecDepth 100000 in
set_option maxHeartbeats 8000000 in
theorem cread_calls (w : World) (s : ByteArray) (t : List UInt8) (hs : s.data.toList = t) (hl : t.length ≤ 1048576) :
    Calls Try.prog 25 #[.string s] w fun e w' => WPostP (RD.wholeW t (RD.valAt t (RD.ws t 0) 2) (min (RD.val (wordAt t ((RD.ws t 0).drop 3))) RD.top)) w e w' := by
  have PQ := hide (fun W g (R : RDR W g s 0 0) => pread_calls W g s t 0 hs R hl)
  generalize RD.wholeW t (RD.valAt t (RD.ws t 0) 2) (min (RD.val (wordAt t ((RD.ws t 0).drop 3))) RD.top) = A at *
  have D0 := hide (B3.new w (.int .i64 0) (.slice none 0 0) (.slice none 0 0))
  have B0 : Hid (Below w.heap.size w (w.alloc (.cells #[.int .i64 0, .slice none 0 0, .slice none 0 0] 25))) := (Below.refl _ _).alloc (Nat.le_refl _) _
  go_enter Try.func25, Try.ntmps25
  go_upto_region 1 with fail
  clear hs
  generalize w.alloc (.cells #[.int .i64 0, .slice none 0 0, .slice none 0 0] 25) = w0 at *
  have AL := (Below.refl w0.heap.size w0).alloc (Nat.le_refl _) (.cells #[.string s, .int .i64 0, .int .i64 0] 132)
  have D1 := hide (D0.out.keep AL)
  have B1 := hide (B0.out.then_below AL)
  have R1 : Hid (RDR (w0.alloc (.cells #[.string s, .int .i64 0, .int .i64 0] 132)) w0.heap.size s 0 0) := heap_alloc_new w0 _
  have dl := D0.out.lt
  have nq := hide (new_calls w0 s)
  clear AL
  generalize hw1 : w0.alloc (.cells #[.string s, .int .i64 0, .int .i64 0] 132) = w1 at *
  replace hw1 := hide hw1
  generalize w0.heap.size = g at *
  have gx : w.heap.size ≠ g := by omega
  have pq := hide (PQ.out w1 g R1.out)
  clear D0 B0 PQ
  cases hA : A.1
  · go_upto_region 3 with (first
      | (go_at_call 51; refine nq.out.mono ?_; rintro e wn ⟨rfl, hwn⟩; subst wn)
      | (go_at_call 52; refine pq.out.mono ?_; intro e w2 hp; obtain ⟨K2, -, hn⟩ := hp; obtain ⟨x, ya, yn, yc, za, zn, zc, n2, rfl, R2⟩ := hn hA; clear hn; have D2 := hide (D1.out.kg K2 gx); have B2 := hide (B1.out.trans (K2.below (Nat.le_of_lt dl) B1.out.size)); replace R2 := hide R2; clear K2))
    have AL := hide ((Below.refl w2.heap.size w2).alloc (Nat.le_refl _) (.cells #[.int .i64 x, .slice ya yn yc, .slice za zn zc] 25))
    have D3 := hide (D2.out.keep AL.out)
    have B3' := hide (B2.out.then_below AL.out)
    have R3 := hide (R2.out.keep AL.out)
    clear AL D2 B2 R2
    generalize w2.alloc (.cells #[.int .i64 x, .slice ya yn yc, .slice za zn zc] 25) = w3 at *
    obtain ⟨d0, d1, d2, z0, z1, z2⟩ := D3.out.cells
    have aq := hide (at_calls w3 g s _ _ R3.out)
    go_wp2_with (go_at_call 53; refine aq.out.mono ?_; rintro e wn ⟨rfl, hwn⟩; subst wn)
    refine bodyPost_ret (v := .tuple #[.agg #[.int .i64 0, .slice none 0 0, .slice none 0 0], .int .i64 40, .int .i64 (A.2.2.2.2 : Int)]) (by simp [results, Try.results25, go_sem, d0, d1, d2]) rfl ?_
    exact ⟨((B3'.out.setCell (Nat.le_refl _) _).setCell (Nat.le_refl _) _).setCell (Nat.le_refl _) _, fun c => absurd (hA.symm.trans c) (by decide), fun _ => rfl⟩
  · go_upto_region 3 with (first
      | (go_at_call 51; refine nq.out.mono ?_; rintro e wn ⟨rfl, hwn⟩; subst wn)
      | (go_at_call 52; refine pq.out.mono ?_; intro e w2 hp; obtain ⟨K2, hy, -⟩ := hp; obtain ⟨vc, vt, vals, rfl, CC, TT, NE⟩ := hy hA; clear hy; obtain ⟨ac, kc, rfl⟩ := CC.slice; obtain ⟨at_, kt, rfl⟩ := row_slice TT; have D2 := hide (D1.out.kg K2 gx); have B2 := hide (B1.out.trans (K2.below (Nat.le_of_lt dl) B1.out.size)); replace CC := hide CC; replace TT := hide TT; replace NE := hide NE; clear K2))
    have AL := hide ((Below.refl w2.heap.size w2).alloc (Nat.le_refl _) (.cells #[.int .i64 (A.2.1 : Int), .slice ac A.2.2.1.length kc, .slice at_ A.2.2.2.1.length kt] 25))
    have D3 := hide (D2.out.keep AL.out)
    have B3' := hide (B2.out.then_below AL.out)
    have N3 := hide (B3.new w2 (.int .i64 (A.2.1 : Int)) (.slice ac A.2.2.1.length kc) (.slice at_ A.2.2.2.1.length kt))
    have C3 := hide (CC.out.below AL.out)
    have T3 := hide (row_below TT.out AL.out)
    have sz1 : w.heap.size < w1.heap.size := D1.out.lt
    clear AL D2 B2 CC TT
    generalize w2.alloc (.cells #[.int .i64 (A.2.1 : Int), .slice ac A.2.2.1.length kc, .slice at_ A.2.2.2.1.length kt] 25) = w3 at *
    obtain ⟨d0, d1, d2, z0, z1, z2⟩ := D3.out.cells
    obtain ⟨f0, f1, f2, y0, y1, y2⟩ := N3.out.cells
    go_wp2_with fail
    refine bodyPost_ret (v := .tuple #[.agg #[.int .i64 (A.2.1 : Int), .slice ac A.2.2.1.length kc, .slice at_ A.2.2.2.1.length kt], .int .i64 0, .int .i64 0]) (by simp [results, Try.results25, go_sem, d0, d1, d2]) rfl ?_
    refine ⟨((B3'.out.setCell (Nat.le_refl _) _).setCell (Nat.le_refl _) _).setCell (Nat.le_refl _) _, fun _ => ⟨_, _, vals, rfl, ?_, ?_, NE.out⟩, fun c => absurd (hA.symm.trans c) (by decide)⟩
    · exact (((C3.out.set (by omega)).set (by omega)).set (by omega)).low (by omega)
    · exact row_low (ownsRow_setCell_below (ownsRow_setCell_below (ownsRow_setCell_below T3.out (a := ⟨w.heap.size, 0, none⟩) (by show w.heap.size < w1.heap.size; omega) _) (a := ⟨w.heap.size, 1, none⟩) (by show w.heap.size < w1.heap.size; omega) _) (a := ⟨w.heap.size, 2, none⟩) (by show w.heap.size < w1.heap.size; omega) _) (by omega)
end Go.Proofs.Ytkdalejceclanaa
