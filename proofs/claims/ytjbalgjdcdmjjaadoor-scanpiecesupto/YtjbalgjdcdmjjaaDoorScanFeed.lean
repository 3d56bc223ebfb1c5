/-
  A piece is fed.
-/
import Derived.Test.YtjbalgjdcdmjjaaDoorScanStep
import Derived.WalkMore
import Derived.Deep.RegionWith
namespace Go.Proofs.YtjbalgjdcdmjjaaDoor
open Go.RowKit
set_option linter.unusedVariables false
theorem SS.handed {F : Nat → Prop} {w : World} {g : Nat} {c : Sc} {acc : List UInt8} {ts : List S.Tok} {tv ov : Value} (h : SS F w g c acc ts tv ov) :
    SS F (w.setCell ⟨g, 13, none⟩ (.slice none 0 0)) g c acc [] tv (.slice none 0 0) ∧ (w.setCell ⟨g, 13, none⟩ (.slice none 0 0)).ownsRow 0 66 4 ov ts.length (tksCells ts) := by
  have hk := (Kp.refl F w).set h.mine 13 (.slice none 0 0)
  refine ⟨⟨?_, h.mine, ownsRow_set h.text h.tne 13 _, h.tmine, World.ownsRow_nil _ 0 _ 4, fun k e => by simp [Value.ownBlock] at e, h.cls.kept h.cF hk, h.cF, fun k hF => Nat.lt_of_lt_of_le (h.Flt k hF) hk.size⟩, ownsRow_set h.told h.one 13 _⟩
  have := h.blk
  simp only [World.setCell, Array.getElem?_modify, if_pos, this, Option.map_some]
  rfl
set_option maxRecDepth 100000 in
theorem hand_calls {F : Nat → Prop} {w : World} {g : Nat} {c : Sc} {acc : List UInt8} {ts : List S.Tok} {tv ov : Value} (h : SS F w g c acc ts tv ov) :
    Calls Tryd.prog 26 #[.pointer (some ⟨g, 0, none⟩)] w fun e w' => e = .returned ov ∧ SS F w' g c acc [] tv (.slice none 0 0) ∧ w'.ownsRow 0 66 4 ov ts.length (tksCells ts) ∧ (∀ k, ov.ownBlock = some k → ¬ F k) ∧ Kp F w w' := by
  have a13 : w.cell? ⟨g, 13, none⟩ = some ov := h.cell 13 _ rfl
  have fz := h.frozen
  have h1 := hide h.handed
  have k1 := hide ((Kp.refl F w).set h.mine 13 (.slice none 0 0))
  have m1 := hide h.omine
  clear h
  go_enter Tryd.func26, Tryd.ntmps26
  go_wp2
  go_ret
  exact ⟨rfl, h1.out.1, h1.out.2, m1.out, k1.out⟩
/-- What a piece leaves. -/
def Fed (F : Nat → Prop) (w w' : World) (g i : Nat) (r : S.St ⊕ (Nat × Nat)) : Prop :=
  match r with
  | .inl q => ∃ c acc tv, SS F w' g c acc [] tv (.slice none 0 0) ∧ AtS g q c acc ∧ Sane c i ∧ acc.length ≤ i ∧ Kp F w w'
  | .inr (e, p) => ∃ c acc tv, SS F w' g c acc [] tv (.slice none 0 0) ∧ (c.fault = e ∧ c.place = p ∧ c.ended = false) ∧ Kp F w w'
theorem drop_cons (l : List UInt8) (k : Nat) (h : k < l.length) : l.drop k = l.getD k 0 :: l.drop (k + 1) := by
  rw [List.drop_eq_getElem_cons h, List.getD_eq_getElem?_getD, List.getElem?_eq_getElem h]
  rfl
/-- What a loop's round has, in the midst of a piece. -/
def FeedAt (F : Nat → Prop) (w wr : World) (g i k : Nat) (ts : List S.Tok) (q : S.St) (l : List UInt8) : Prop :=
  ∃ q' c acc ts' tv ov, SS F wr g c acc ts' tv ov ∧ AtS g q' c acc ∧ Sane c (i + k) ∧ acc.length ≤ i + k ∧ ts'.length ≤ 2 * (i + k) ∧ Kp F w wr ∧ ts' ++ (S.feed resv q' (l.drop k) (i + k)).1 = ts ++ (S.feed resv q l i).1 ∧ (S.feed resv q' (l.drop k) (i + k)).2 = (S.feed resv q l i).2
theorem FeedAt.next {F : Nat → Prop} {w w2 : World} {g i k I : Nat} {ts ts' t : List S.Tok} {q q2 : S.St} {l acc2 : List UInt8} {c2 : Sc} {tv2 ov2 : Value} (h : SS F w2 g { c2 with i := I + 1 } acc2 (ts' ++ t) tv2 ov2) (ha : AtS g q2 c2 acc2) (hs : Sane c2 I) (hl : acc2.length ≤ I + 1) (ht : t.length ≤ 2) (ht' : ts'.length ≤ 2 * I) (hI : i + k = I) (hk : Kp F w w2)
    (e1 : ts' ++ (t ++ (S.feed resv q2 (l.drop (k + 1)) (I + 1)).1) = ts ++ (S.feed resv q l i).1) (e2 : (S.feed resv q2 (l.drop (k + 1)) (I + 1)).2 = (S.feed resv q l i).2) : Hid (FeedAt F w w2 g i (k + 1) ts q l) := by
  subst hI
  refine ⟨q2, _, acc2, ts' ++ t, tv2, ov2, h, ha, ⟨rfl, hs.2⟩, hl, by rw [List.length_append]; omega, hk, ?_, ?_⟩
  · rw [List.append_assoc]
    exact e1
  · exact e2
set_option maxRecDepth 100000 in
set_option maxHeartbeats 8000000 in
theorem feed_calls {F : Nat → Prop} {w : World} {g : Nat} {c : Sc} {acc : List UInt8} {ts : List S.Tok} {tv ov : Value} (h : SS F w g c acc ts tv ov) {i : Nat} (hs : Sane c i) (hl : acc.length ≤ i) (ht : ts.length ≤ 2 * i) (q : S.St) (ha : AtS g q c acc) (s : ByteArray) (l : List UInt8) (hsl : s.data.toList = l) (hi : i + l.length ≤ 274877906944) :
    Calls Tryd.prog 7 #[.pointer (some ⟨g, 0, none⟩), .string s] w fun e w' => ∃ v, e = .returned v ∧ w'.ownsRow 0 66 4 v (ts ++ (S.feed resv q l i).1).length (tksCells (ts ++ (S.feed resv q l i).1)) ∧ (∀ k, v.ownBlock = some k → ¬ F k) ∧ Fed F w w' g (i + l.length) (S.feed resv q l i).2 := by
  obtain ⟨T, hT⟩ : ∃ T, ts ++ (S.feed resv q l i).1 = T := ⟨_, rfl⟩
  obtain ⟨R, hR⟩ : ∃ R, (S.feed resv q l i).2 = R := ⟨_, rfl⟩
  have hn := size_of s l hsl
  have hz : s.size ≤ 274877906944 := by omega
  have hat := hide (fun (k : Nat) (h : k < s.size) => byteAt s l hsl k h)
  have a14 : w.cell? ⟨g, 14, none⟩ = some (.bool false) := by rw [← hs.2.2.2]; exact h.cell 14 _ rfl
  have a15 : w.cell? ⟨g, 15, none⟩ = some (.int .i64 0) := by have e := h.cell 15 _ rfl; have e2 := hs.2.1; simp only [Sc.arr] at e; simp [e2] at e; exact e
  have P0 : Hid (FeedAt F w w g i 0 ts q l) := ⟨q, c, acc, ts, tv, ov, h, ha, hs, hl, ht, Kp.refl F w, rfl, rfl⟩
  rw [hT, hR]
  have hT' := hide hT
  have hR' := hide hR
  clear hT hR h ha hs hl ht
  have hn' := hide hn
  clear hn hsl
  go_enter Tryd.func7, Tryd.ntmps7
  go_wp2
  go_step3
  go_wp2
  go_step3
  go_wp2
  go_loopw [19] (fun j wr => ∃ k : Nat, k ≤ s.size ∧ j = .int .i64 k ∧ Hid (FeedAt F w wr g i k ts q l)) (fun j _ => s.size - (intOf j).toNat)
  case atStart => exact ⟨0, Nat.zero_le _, rfl, P0⟩
  case round =>
    clear P0 a14 a15
    obtain ⟨k, hk, rfl, P⟩ := hrel
    obtain ⟨q', c', acc', ts', tv', ov', h', ha', hs', hl', ht', k', e1, e2⟩ := P.out
    clear P
    obtain ⟨I, hI⟩ : ∃ I, i + k = I := ⟨_, rfl⟩
    rw [hI] at hs' hl' ht' e1 e2
    by_cases hlt : k < s.size
    · have hll : k < l.length := by rw [← hn'.out]; exact hlt
      have hIb : I + 1 ≤ 274877906944 := by omega
      have ew : IntKind.i64.wrap ((I : Int) + 1) = ((I + 1 : Nat) : Int) := by rw [IntKind.wrap_i64]; omega
      have hb : s[k]'hlt = l.getD k 0 := hat.out k hlt
      obtain ⟨b, hb2⟩ : ∃ b, l.getD k 0 = b := ⟨_, rfl⟩
      rw [hb2] at hb
      have ed := drop_cons l k hll
      rw [hb2] at ed
      rw [ed] at e1 e2
      have QS := hide (fun W (hW : SS F W g c' acc' ts' tv' ov') => step_all hW hs' (by omega) hl' ht' b q' ha')
      have fs := few_step q' b I
      have gd := S.step_good resv q' b I
      have a0 : wr.cell? ⟨g, 0, none⟩ = some c'.step := h'.cell 0 _ rfl
      have H' := hide h'
      have K' := hide k'
      obtain ⟨K, x1, hen⟩ := step_enter ha'
      rw [x1] at a0
      replace x1 := hide x1
      unfold mv at a0
      unfold Enters at hen
      clear h' k' ha' ed hb2
      have hI' := hide hI
      clear hI
      rcases hsp : S.step resv q' b I with ⟨t, q2⟩ | ⟨t, e, p⟩
      · rw [S.feed_go resv hsp] at e1 e2
        rw [hsp] at fs QS
        have fs' : Hid (t.length ≤ 2) := fs
        have e1' := hide e1
        have e2' := hide e2
        clear hsp gd fs e1 e2
        go_wp2
        go_region_with (refine (QS.out _ H'.out.drew _ x1.out).mono ?_; rintro e w1 ⟨rfl, c2, acc2, tv2, ov2, h2, ha2, hs2, hl2, k2⟩; have f15 : w1.cell? ⟨g, 15, none⟩ = some (.int .i64 0) := (by have e := h2.cell 15 _ rfl; have e2 := hs2.2.1; simp only [Sc.arr] at e; simp [e2] at e; exact e); have f2 : w1.cell? ⟨g, 2, none⟩ = some (.int .i64 (I : Int)) := (by rw [← hs2.1]; exact h2.cell 2 _ rfl); have fz := h2.frozen; have h3 := hide (h2.set 2 (.int .i64 ((I + 1 : Nat) : Int)) { c2 with i := I + 1 } rfl); have k3 := hide ((K'.out.drew.trans k2).set h2.mine 2 (.int .i64 ((I + 1 : Nat) : Int))); replace ha2 := hide ha2; replace hs2 := hide hs2; clear h2 k2)
        all_goals go_wp2
        all_goals
          go_roundw
          case rel => exact ⟨k + 1, by omega, by go_num, FeedAt.next h3.out ha2.out hs2.out hl2 fs'.out ht' hI'.out k3.out e1'.out e2'.out⟩
          case measure => simp [intOf]; omega
      · rw [S.feed_err resv hsp] at e1 e2
        rw [hsp] at QS gd
        have gd' : ¬ (e : Int) = 0 := by have : e ≠ 0 := gd; omega
        have e1' := hide e1
        have e2' := hide e2
        clear hsp gd fs e1 e2
        go_wp2
        go_region_with (refine (QS.out _ H'.out.drew _ x1.out).mono ?_; rintro e w1 ⟨rfl, c2, acc2, tv2, ov2, h2, ⟨hf2, hp2, hen2⟩, k2⟩; have f15 : w1.cell? ⟨g, 15, none⟩ = some (.int .i64 (c2.fault : Int)) := h2.cell 15 _ rfl; rw [hf2] at f15; have h3 := hide h2; have k3 := hide (K'.out.drew.trans k2); clear h2 k2)
        all_goals go_wp2_with (go_at_call 26; refine (hand_calls h3.out).mono ?_; rintro e w2 ⟨rfl, h4, o4, m4, k4⟩; replace h4 := hide h4; replace o4 := hide o4; replace m4 := hide m4; replace k4 := hide k4)
        all_goals rw [Exit.noGoto_ret]
        all_goals go_ret
        all_goals
          have eT : ts' ++ t = T := by rw [← hT'.out]; exact e1'.out
          have eR : R = .inr (e, p) := by rw [← hR'.out]; exact e2'.out.symm
          exact ⟨_, rfl, by rw [← eT]; exact o4.out, m4.out, by rw [eR]; exact ⟨c2, acc2, tv2, h4.out, ⟨hf2, hp2, hen2⟩, k3.out.trans k4.out⟩⟩
    · have hkn : k = l.length := by have := hn'.out; omega
      have ed : l.drop k = [] := by rw [hkn]; simp
      rw [ed] at e1 e2
      have eT : Hid (ts' = T) := by rw [← hT'.out, ← e1]; simp [S.feed, Hid]
      have eR : Hid (R = .inl q') := by rw [← hR'.out, ← e2]; rfl
      have hI' : Hid (I = i + l.length) := by rw [← hkn]; exact hI.symm
      have H' := hide h'
      have K' := hide k'
      have hA := hide ha'
      have hS := hide hs'
      clear e1 e2 ed hI h' k' ha' hs' hkn
      go_wp2_with (go_at_call 26; refine (hand_calls H'.out).mono ?_; rintro e w2 ⟨rfl, h4, o4, m4, k4⟩; replace h4 := hide h4; replace o4 := hide o4; replace m4 := hide m4; replace k4 := hide k4)
      rw [Exit.noGoto_ret]
      go_ret
      exact ⟨_, rfl, by rw [← eT.out]; exact o4.out, m4.out, by rw [eR.out, ← hI'.out]; exact ⟨c', acc', tv', h4.out, hA.out, hS.out, hl', K'.out.trans k4.out⟩⟩
end Go.Proofs.YtjbalgjdcdmjjaaDoor
