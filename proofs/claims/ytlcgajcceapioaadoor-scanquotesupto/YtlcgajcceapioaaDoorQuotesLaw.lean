/-
  The law ScanQuotes.
-/
import Derived.Test.YtlcgajcceapioaaDoorRefQuote2
namespace Go.Proofs.YtlcgajcceapioaaDoor
open Go.RowKit
set_option linter.unusedVariables false
set_option maxRecDepth 100000 in
set_option maxHeartbeats 1000000 in
theorem scanQuotes_calls (w : World) (hc : Cls w) (hr : Rsv w) (hm : Mx w) (s : ByteArray) (l : List UInt8) (hs : s.data.toList = l) (hl : l.length ≤ 1073741822) :
    Calls Tryd.prog 4 #[.string s] w fun e w' => e = .returned (.bool true) ∧ Below w.heap.size w w' := by
  have q0 := hide (quote_calls w hc s l hs (by omega))
  have q1 := hide (fun W (h : Rsv W) => rquote_calls W h s l hs hl)
  have q2 := hide (fun W (h : Cls W) (h' : Mx W) => literal_calls W h h' s l hs (by omega))
  have q3 := hide (fun W => rliteral_calls W s l hs (by omega))
  generalize S.quo resv l = A at q0 q1
  generalize S.lit l = B at q2 q3
  have hcH := hide hc
  have hrH := hide hr
  have hmH := hide hm
  clear hc hr hm hs hl
  unfold qv at q0 q1 q2 q3
  go_enter Tryd.func4, Tryd.ntmps4
  go_wp2_with (first
    | (go_at_call 16; refine q0.out.mono ?_; rintro e w1 ⟨rfl, b1⟩; have r1 := hide (q1.out w1 (hrH.out.below b1)); replace b1 := hide b1)
    | (go_at_call 17; refine r1.out.mono ?_; rintro e w2 ⟨rfl, b2⟩; have B2 := hide (b1.out.then_below b2); have r2 := hide (q2.out w2 (cls_below hcH.out B2.out) (hmH.out.below B2.out)); clear b1 b2)
    | (go_at_call 18; refine r2.out.mono ?_; rintro e w3 ⟨rfl, b3⟩; replace b3 := hide b3)
    | (go_at_call 19; refine (q3.out _).mono ?_; rintro e w4 ⟨rfl, b4⟩; replace b4 := hide b4))
  go_ret
  exact ⟨ret_bool (by simp), (B2.out.then_below b3.out).then_below b4.out⟩
end Go.Proofs.YtlcgajcceapioaaDoor
