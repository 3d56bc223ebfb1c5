/-
  A new scanner; the text's end; the tokens of a text.
-/
import Derived.Test.YtjbalgjdcdmjjaaDoorScanFeed
namespace Go.Proofs.YtjbalgjdcdmjjaaDoor
open Go.RowKit
set_option linter.unusedVariables false
def Sc.zero : Sc := ⟨.nilFunc, .nilFunc, 0, 0, 0, 0, 0, 0, 0, 0, .nilFunc, .nilFunc, false, 0, 0⟩
theorem SS.fresh {F : Nat → Prop} {w : World} (hc : Cls w) (hF : ∀ k, F k → k < w.heap.size) (cF : F 1) :
    SS F (w.alloc (.cells (Sc.zero.arr (.slice none 0 0) (.slice none 0 0)) 74)) w.heap.size Sc.zero [] [] (.slice none 0 0) (.slice none 0 0) := by
  have hk := (Kp.refl F w).alloc (.cells (Sc.zero.arr (.slice none 0 0) (.slice none 0 0)) 74)
  exact ⟨heap_alloc_new w _, fun e => by have := hF _ e; omega, World.ownsRow_nil _ 0 _ 1, fun k e => by simp [Value.ownBlock] at e, World.ownsRow_nil _ 0 _ 4, fun k e => by simp [Value.ownBlock] at e, hc.kept cF hk, cF, fun k e => Nat.lt_of_lt_of_le (hF k e) hk.size⟩
set_option maxRecDepth 100000 in
set_option maxHeartbeats 1600000 in
theorem new_calls {F : Nat → Prop} {w : World} (hc : Cls w) (hF : ∀ k, F k → k < w.heap.size) (cF : F 1) :
    Calls Tryd.prog 6 #[] w fun e w' => ∃ g c tv ov, e = .returned (.pointer (some ⟨g, 0, none⟩)) ∧ SS F w' g c [] [] tv ov ∧ AtS g .idle c [] ∧ Sane c 0 ∧ Kp F w w' ∧ w.heap.size ≤ g := by
  have h0 := hide (SS.fresh hc hF cF)
  have k0 := hide ((Kp.refl F w).alloc (.cells (Sc.zero.arr (.slice none 0 0) (.slice none 0 0)) 74))
  clear hc hF
  go_enter Tryd.func6, Tryd.ntmps6
  go_wp2_with (go_at_call 25; refine (idle_calls h0.out).mono ?_; rintro e w1 ⟨rfl, ⟨tv1, ov1, h1⟩, k1⟩; replace h1 := hide h1; replace k1 := hide k1)
  go_ret
  exact ⟨_, _, _, _, rfl, h1.out, ⟨rfl, rfl⟩, ⟨rfl, rfl, rfl, rfl⟩, k0.out.trans k1.out, Nat.le_refl _⟩
/-- What End leaves. -/
def Ended (F : Nat → Prop) (w w' : World) (g e p : Nat) : Prop := ∃ c acc tv, SS F w' g c acc [] tv (.slice none 0 0) ∧ (c.fault = e ∧ c.place = p ∧ c.ended = true) ∧ Kp F w w'
set_option maxRecDepth 100000 in
set_option maxHeartbeats 1600000 in
theorem end_ok {F : Nat → Prop} {w : World} {g : Nat} {c : Sc} {acc : List UInt8} {ts : List S.Tok} {tv ov : Value} (h : SS F w g c acc ts tv ov) {i : Nat} (hs : Sane c i) (hi : i ≤ 274877906944) (ht : ts.length ≤ 2 * i) (q : S.St) (ha : AtS g q c acc) :
    Calls Tryd.prog 30 #[.pointer (some ⟨g, 0, none⟩)] w fun e w' => ∃ v, e = .returned (.tuple #[v, .int .i64 (S.stop resv q i).2.1, .int .i64 (S.stop resv q i).2.2]) ∧ w'.ownsRow 0 66 4 v (ts ++ (S.stop resv q i).1).length (tksCells (ts ++ (S.stop resv q i).1)) ∧ (∀ k, v.ownBlock = some k → ¬ F k) ∧ Ended F w w' g (S.stop resv q i).2.1 (S.stop resv q i).2.2 := by
  have QS := stop_all h hs hi ht q ha
  obtain ⟨t, e, p, hst⟩ : ∃ t e p, S.stop resv q i = (t, e, p) := ⟨_, _, _, rfl⟩
  rw [hst] at QS ⊢
  simp only at QS ⊢
  replace QS := hide QS
  have a14 : w.cell? ⟨g, 14, none⟩ = some (.bool false) := by rw [← hs.2.2.2]; exact h.cell 14 _ rfl
  have a15 : w.cell? ⟨g, 15, none⟩ = some (.int .i64 0) := by have e := h.cell 15 _ rfl; have e2 := hs.2.1; simp only [Sc.arr] at e; simp [e2] at e; exact e
  have a1 : w.cell? ⟨g, 1, none⟩ = some c.stop := h.cell 1 _ rfl
  obtain ⟨K, x1, hen⟩ := stop_enter ha
  rw [x1] at a1
  replace x1 := hide x1
  unfold mv at a1
  unfold Enters at hen
  clear h ha hs hst
  go_enter Tryd.func30, Tryd.ntmps30
  go_wp2_with (go_at_fn K; refine (QS.out _ x1.out).mono ?_; rintro e w1 ⟨rfl, c2, acc2, tv2, ov2, h2, ⟨hf2, hp2, hen2⟩, k2⟩; have f14 : w1.cell? ⟨g, 14, none⟩ = some (.bool c2.ended) := h2.cell 14 _ rfl; have fz := h2.frozen; have h3 := h2.set 14 (.bool true) { c2 with ended := true } rfl; have k3 := hide (k2.set h2.mine 14 (.bool true)); have f15 : w1.cell? ⟨g, 15, none⟩ = some (.int .i64 c2.fault) := h2.cell 15 _ rfl; rw [hf2] at f15; have f16 : w1.cell? ⟨g, 16, none⟩ = some (.int .i64 c2.place) := h2.cell 16 _ rfl; rw [hp2] at f16; replace h3 := hide h3; clear h2 k2)
  go_region_with (go_at_call 26; refine (hand_calls h3.out.drew).mono ?_; rintro e w2 ⟨rfl, h4, o4, m4, k4⟩; have g15 : w2.cell? ⟨g, 15, none⟩ = some (.int .i64 c2.fault) := h4.cell 15 _ rfl; rw [hf2] at g15; have g16 : w2.cell? ⟨g, 16, none⟩ = some (.int .i64 c2.place) := h4.cell 16 _ rfl; rw [hp2] at g16; replace h4 := hide h4; replace o4 := hide o4; replace m4 := hide m4; replace k4 := hide k4)
  all_goals go_wp2
  all_goals refine bodyPost_ret (v := .tuple #[ov2, .int .i64 e, .int .i64 p]) (by simp [results, Tryd.results30, go_sem]) rfl ?_
  all_goals exact ⟨_, rfl, o4.out, m4.out, _, _, _, h4.out, ⟨hf2, hp2, rfl⟩, k3.out.drew.trans k4.out⟩
set_option maxRecDepth 100000 in
set_option maxHeartbeats 1600000 in
theorem end_err {F : Nat → Prop} {w : World} {g : Nat} {c : Sc} {acc : List UInt8} {ts : List S.Tok} {tv ov : Value} (h : SS F w g c acc ts tv ov) (e p : Nat) (he : c.ended = true ∨ e ≠ 0) (hf : c.fault = e) (hp : c.place = p) :
    Calls Tryd.prog 30 #[.pointer (some ⟨g, 0, none⟩)] w fun x w' => x = .returned (.tuple #[ov, .int .i64 e, .int .i64 p]) ∧ w'.ownsRow 0 66 4 ov ts.length (tksCells ts) ∧ (∀ k, ov.ownBlock = some k → ¬ F k) ∧ Ended F w w' g e p := by
  have a14 : w.cell? ⟨g, 14, none⟩ = some (.bool c.ended) := h.cell 14 _ rfl
  have a15 : w.cell? ⟨g, 15, none⟩ = some (.int .i64 c.fault) := h.cell 15 _ rfl
  rw [hf] at a15
  have a16 : w.cell? ⟨g, 16, none⟩ = some (.int .i64 c.place) := h.cell 16 _ rfl
  rw [hp] at a16
  have fz := h.frozen
  have h3 := hide (h.set 14 (.bool true) { c with ended := true } rfl)
  have k3 := hide ((Kp.refl F w).set h.mine 14 (.bool true))
  clear h
  have go : c.ended = true ∨ (c.ended = false ∧ ¬ (e : Int) = 0) := by
    cases hc : c.ended with
    | true => exact .inl rfl
    | false =>
      rcases he with he | he
      · rw [hc] at he; cases he
      · exact .inr ⟨rfl, by omega⟩
  clear he
  rcases go with he | ⟨he, hz⟩
  all_goals
    rw [he] at a14
    go_enter Tryd.func30, Tryd.ntmps30
    go_wp2
    go_region_with (go_at_call 26; refine (hand_calls h3.out.drew).mono ?_; rintro e w2 ⟨rfl, h4, o4, m4, k4⟩; have g15 : w2.cell? ⟨g, 15, none⟩ = some (.int .i64 c.fault) := h4.cell 15 _ rfl; rw [hf] at g15; have g16 : w2.cell? ⟨g, 16, none⟩ = some (.int .i64 c.place) := h4.cell 16 _ rfl; rw [hp] at g16; replace h4 := hide h4; replace o4 := hide o4; replace m4 := hide m4; replace k4 := hide k4)
    all_goals go_wp2
    all_goals refine bodyPost_ret (v := .tuple #[ov, .int .i64 e, .int .i64 p]) (by simp [results, Tryd.results30, go_sem]) rfl ?_
    all_goals exact ⟨rfl, o4.out, m4.out, _, _, _, h4.out, ⟨hf, hp, rfl⟩, k3.out.drew.trans k4.out⟩
end Go.Proofs.YtjbalgjdcdmjjaaDoor
