/-
  The scanner's own small methods, on: whole.
-/
import Derived.Test.YtjbalgjdcdmjjaaDoorScanTell
import Derived.Test.YtjbalgjdcdmjjaaDoorScanWords
namespace Go.Proofs.YtjbalgjdcdmjjaaDoor
open Go.RowKit
set_option linter.unusedVariables false
theorem str_list (l : List UInt8) : ((⟨l.toArray⟩ : ByteArray)).data.toList = l := rfl
set_option maxRecDepth 100000 in
set_option maxHeartbeats 1600000 in
theorem whole_calls {F : Nat → Prop} {w : World} {g : Nat} {c : Sc} {acc : List UInt8} {ts : List S.Tok} {tv ov : Value} (h : SS F w g c acc ts tv ov) (hl : ts.length ≤ 1099511627776) :
    Calls Tryd.prog 66 #[.pointer (some ⟨g, 0, none⟩)] w fun e' w' => e' = .returned (.tuple #[]) ∧ Left F w w' g { c with kind := S.word resv c.kind acc } acc (ts ++ [S.tok resv c.kind c.beg c.i acc]) := by
  obtain ⟨-, -, c2, c3, c4, -, c6, -⟩ := h.cells
  have fz := h.frozen
  have cv := h.conv
  unfold str at cv
  by_cases hk : c.kind = 3
  · have hk' : (c.kind : Int) = 3 := by omega
    rw [hk'] at c4
    have qr := hide (fun W => reserved_calls W ⟨acc.toArray⟩ acc (str_list acc))
    cases hr : resv acc with
    | true =>
      have h4 := h.set 4 (.int .i64 4) { c with kind := 4 } rfl
      have k4 := hide ((Kp.refl F w).set h.mine 4 (.int .i64 4))
      have qt := hide (tell_calls h4 ⟨acc.toArray⟩ acc (str_list acc) c.i hl)
      have e1 : S.word resv c.kind acc = 4 := by simp [S.word, hk, hr]
      unfold S.tok
      rw [e1]
      rw [hr] at qr
      clear hr h h4
      go_enter Tryd.func66, Tryd.ntmps66
      go_wp2_with (first | (go_at_call 84; refine (qr.out _).mono ?_; rintro e w1 ⟨rfl, rfl⟩) | (go_at_call 71; refine qt.out.mono ?_; rintro e w1 ⟨rfl, q1⟩))
      go_end0
      exact ⟨rfl, q1.1, k4.out.trans q1.2⟩
    | false =>
      have qt := hide (tell_calls h ⟨acc.toArray⟩ acc (str_list acc) c.i hl)
      have e1 : S.word resv c.kind acc = c.kind := by simp [S.word, hr]
      unfold S.tok
      rw [e1]
      rw [hr] at qr
      clear hr h
      go_enter Tryd.func66, Tryd.ntmps66
      go_wp2_with (first | (go_at_call 84; refine (qr.out _).mono ?_; rintro e w1 ⟨rfl, rfl⟩) | (go_at_call 71; refine qt.out.mono ?_; rintro e w1 ⟨rfl, q1⟩))
      go_end0
      exact ⟨rfl, q1⟩
  · have hk' : ¬ (c.kind : Int) = 3 := by omega
    have qt := hide (tell_calls h ⟨acc.toArray⟩ acc (str_list acc) c.i hl)
    have e1 : S.word resv c.kind acc = c.kind := by simp [S.word, hk]
    unfold S.tok
    rw [e1]
    clear h
    go_enter Tryd.func66, Tryd.ntmps66
    go_wp2_with (first | (go_at_call 71; refine qt.out.mono ?_; rintro e w1 ⟨rfl, q1⟩))
    go_end0
    exact ⟨rfl, q1⟩
end Go.Proofs.YtjbalgjdcdmjjaaDoor
