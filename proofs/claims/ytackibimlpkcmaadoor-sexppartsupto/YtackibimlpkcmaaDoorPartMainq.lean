/-
  The law SexpParts, whole.
-/
import Derived.Test.YtackibimlpkcmaaDoorq28
import Derived.Deep.RegionHeld3
import Derived.Deep.DeepCutAuto
/- ==== PartMain ==== -/
namespace Go.Proofs.YtackibimlpkcmaaDoor
open Go.RowKit
set_option linter.unusedVariables false
theorem NRow.cutM {w : World} {a : Option Addr} {n cap : Nat} {ns : List X.N} (h : NRow w (.slice a n cap) ns) (k m : Nat) (hk : k + m ≤ ns.length) :
    ∃ v, (∀ W, (Instr.sliceAt 44 (.slice a n cap) (some (.int .i64 (k : Int))) (some (.int .i64 ((k : Int) + (m : Int)))) none).run Tryd.prog W = .ok v W) ∧ NRow w v ((ns.drop k).take m) := by
  have hs := h
  obtain ⟨a', cap', e, h1, h2, h4⟩ := h
  cases e
  refine ⟨Go.sliced a k (k + m) cap 5, fun W => ?_, hs.sliced k m cap hk (by omega) (Nat.le_refl _)⟩
  have hu : Tryd.prog.underlying 44 = some (.slice (Tryd.prog.elem 44)) := by rw [elemNode]; exact Tryd.underlying44
  rw [run_sliceAt_slice (h := hu), run_slice_lh (ht := hu) (h0 := by omega) (h1 := by omega) (h2 := by omega), elemNode]
  clear hu
  have e1 : ((k : Int) + (m : Int)).toNat = k + m := by omega
  go_simp
theorem mod_at (pk : Int) (n : Nat) (h : 0 < n) : ∃ k : Nat, k < n ∧ (pk.tmod n = k ∨ (pk.tmod n < 0 ∧ -(n : Int) < pk.tmod n ∧ pk.tmod n + n = k)) := by
  have h1 := Int.tmod_lt_of_pos pk (show (0 : Int) < n by omega)
  have h2 := Int.lt_tmod_of_pos pk (show (0 : Int) < n by omega)
  rcases Int.lt_or_le (pk.tmod n) 0 with z | z
  · exact ⟨(pk.tmod n + n).toNat, by omega, .inr ⟨z, h2, by omega⟩⟩
  · exact ⟨(pk.tmod n).toNat, by omega, .inl (by omega)⟩
/-- Where the looking through stands. -/
def PP (ts : List S.Tok) (ns : List X.N) (kd k sz fn fr : Nat) (rem : List Nat) : Prop :=
  (kd ≠ 1 ∧ rem = []) ∨ (kd = 1 ∧ ∃ c, Kd ts ns c k (k + sz) fr rem ∧ fn = c.beg + 1)
theorem RowI.at_ {w : World} {a : Option Addr} {n cap : Nat} {ks : List Nat} (h : RowI w (.slice a n cap) (ks.map (fun n : Nat => (n : Int)))) {j : Nat} (hj : j < ks.length) :
    ∃ b off, a = some ⟨b, off, none⟩ ∧ w.cell? ⟨b, off + j, none⟩ = some (.int .i64 (ks.getD j 0 : Nat)) := by
  obtain ⟨ao, cap', e, h1, h2, h3⟩ := h
  cases e
  obtain ⟨b, off, rfl, hb, hc⟩ := h3 (by rintro c; rw [List.map_eq_nil_iff] at c; subst c; simp at hj)
  refine ⟨b, off, rfl, ?_⟩
  have := hc j (by rw [List.length_map]; exact hj)
  rw [this]
  congr 2
  rw [List.getD_eq_getElem?_getD, List.getElem?_map, List.getD_eq_getElem?_getD, List.getElem?_eq_getElem hj]
  rfl
theorem kids_read (w : World) (v : Value) (ns : List X.N) (h : NRow w v ns) (hl : ns.length ≤ 2932031007402) (hf : forestB (ns.map toNd) = true) (k : Nat) (hk : k < ns.length) :
    Calls Tryd.prog 18 #[v, .int .i64 (k : Int)] w fun e w' => (∃ r, e = .returned (.tuple #[r, .int .i64 0]) ∧ RowI w' r ((kidsL (ns.map toNd) k).map (fun n : Nat => (n : Int)))) ∧ Below w.heap.size w w' := by
  have := kids_calls w w.heap.size v (ns.map toNd) (h.nds hl) (Nat.le_refl _) (k : Int)
  have e1 : kidsC (ns.map toNd) (k : Int) = 0 := by
    unfold kidsC
    rw [if_pos hf, if_pos ⟨by omega, by rw [List.length_map]; omega⟩]
  have e2 : kidsX (ns.map toNd) (k : Int) = (kidsL (ns.map toNd) k).map (fun n : Nat => (n : Int)) := by
    unfold kidsX
    rw [if_pos ⟨hf, by omega, by rw [List.length_map]; omega⟩]
  rw [e1, e2] at this
  exact this
set_option maxRecDepth 100000 in
set_option maxHeartbeats 8000000 in
theorem sexpParts_calls (w : World) (hc : Cls w) (hm : Mx w) (s : ByteArray) (l : List UInt8) (hs : s.data.toList = l) (hl : l.length ≤ 1048576) (pk : Int) (hpk : -9223372036854775808 ≤ pk ∧ pk ≤ 9223372036854775807) :
    Calls Tryd.prog 4 #[.string s, .int .i64 pk] w fun e w' => e = .returned (.bool true) ∧ Below w.heap.size w w' := by
  have q0 := hide (heads_calls w hc hm)
  have q2 := hide (fun W (hW : Cls W) => sexpRead_calls W hW s l hs (by omega) _ rfl)
  have oerr := (X.out_err (S.run resv .idle l 0).1 (S.run resv .idle l 0).2.1 (S.run resv .idle l 0).2.2 (S.run_ten resv l .idle 0)).2
  have plc := S.run_place resv l .idle 0
  have olen := X.out_len (S.run resv .idle l 0).1 (S.run resv .idle l 0).2.1 (S.run resv .idle l 0).2.2
  have many := run_many l
  have bnd := (run_bound l).1
  have hlen : s.size = l.length := by rw [← hs]; simp
  obtain ⟨R, hR⟩ : ∃ R, S.run resv .idle l 0 = R := ⟨_, rfl⟩
  rw [hR] at q2 oerr plc olen many bnd
  obtain ⟨ts, e, p⟩ := R
  simp only at q2 oerr plc olen many bnd
  generalize ho : X.out ts e p = o at *
  obtain ⟨ns, e2, p2⟩ := o
  simp only at q2 oerr olen
  have nn : ns.length ≤ 2097153 := by omega
  replace oerr := hide oerr
  replace plc := hide plc
  replace hR := hide hR
  replace hs := hide hs
  replace bnd := hide bnd
  have hcH := hide hc
  have hlH := hide hl
  have hlenH := hide hlen
  clear hc hm ho olen many hlen hl
  go_enter Tryd.func4, Tryd.ntmps4
  go_wp2_with fail
  refine q0.out.mono ?_
  rintro x w1 ⟨rfl, b1⟩
  have q2' := hide (q2.out w1 (hcH.out.below b1))
  replace b1 := hide b1
  clear q0 q2
  go_wp2_with fail
  refine q2'.out.mono ?_
  rintro x w3 ⟨vf, rfl, N3, b3⟩
  replace b3 := hide (b1.out.then_below b3)
  obtain ⟨a, cap, rfl, h1, h2⟩ := N3.shape
  replace N3 := hide N3
  clear q2' b1
  by_cases z : e2 = 0
  case neg =>
    have z1 : ((e2 : Int) != 0) = true := by simp; omega
    go_wp2_with (go_at_call 15; refine (no_calls _ _).mono ?_; rintro x w4 ⟨rfl, rfl⟩)
    go_ret
    exact ⟨by rfl, b3.out⟩
  case pos =>
    subst z
    obtain ⟨e0, ns', hp, eq⟩ := oerr.out rfl
    subst e0
    have pz := plc.out rfl
    subst pz
    simp only [Prod.mk.injEq] at eq
    obtain ⟨rfl, _, rfl⟩ := eq
    have sq := hide (X.sq_of_pr hp)
    clear hp oerr plc
    by_cases hz : ns = []
    · subst hz
      have hts := sq.out.nil_of
      subst hts
      have qo := hide (only_calls w3 (hcH.out.below b3.out) s l hs.out (by have := hlH.out; omega) hR.out)
      simp only [List.length_nil] at *
      go_wp2_with (first
        | (go_at_call 15; refine (no_calls _ _).mono ?_; rintro x w4 ⟨rfl, rfl⟩)
        | (go_at_call 16; refine qo.out.mono ?_; rintro x w5 ⟨rfl, b5⟩))
      go_ret
      exact ⟨by rfl, b3.out.then_below b5⟩
    · have hpos : 0 < ns.length := List.length_pos_iff.2 hz
      obtain ⟨k, hk, hkc⟩ := mod_at pk ns.length hpos
      have ni := hide (ni_of hR.out sq.out hk)
      have fo := hide (forest_read hR.out sq.out)
      obtain ⟨b, off, rfl, c0, c1, c2, c3, c4⟩ := N3.out.at_ hk
      have hz0 : ¬ (ns.length : Int) = 0 := by omega
      have hz1 : ((ns.length : Int) == 0) = false := by simp; omega
      have kl : (k : Int) < (ns.length : Int) := by omega
      obtain ⟨⟨r1, r2⟩, ⟨z1, z2⟩, ⟨m', p1, p2⟩, kc⟩ := ni.out
      clear ni hz
      generalize ns.getD k X.n0 = nd at *
      obtain ⟨kd, bg, fn, sz, tx⟩ := nd
      simp only at c0 c1 c2 c3 c4 r1 r2 z1 z2 p1 p2 kc
      rw [← hlenH.out] at r2
      have bdm : Hid (∀ n ∈ m', X.Bd l.length n) := by
        have := run_bound ((l.drop bg).take (fn - bg))
        have := (X.out_bd _ _ (S.run resv .idle ((l.drop bg).take (fn - bg)) 0).2.1 _ this.1 this.2).1
        rw [p1] at this
        intro n hn
        have := this n hn
        have hle : ((l.drop bg).take (fn - bg)).length ≤ l.length := by rw [List.length_take, List.length_drop]; omega
        exact ⟨Nat.le_trans this.1 hle, Nat.le_trans this.2 hle⟩
      have q12 := fun W (hW : Cls W) => sexpRead_calls W hW (s.extract bg fn) ((l.take fn).drop bg) (extract_mid hs.out bg fn) (by have := hlH.out; rw [List.length_drop, List.length_take]; omega) _ rfl
      rw [List.drop_take, p1] at q12
      simp only at q12
      replace q12 := hide q12
      have sl12 := fun W => run_mid s (bg : Int) (fn : Int) bg fn rfl rfl (by omega) r2 W
      have m'l : Hid (m'.length = sz) := by
        show _ = _
        have := congrArg List.length p2
        rw [List.length_take, List.length_drop, List.length_map] at this
        omega
      have d1 : (bg : Int) < (fn : Int) := by omega
      have d2 : (fn : Int) ≤ (s.size : Int) := by omega
      have d3 : (1 : Int) ≤ (sz : Int) := by omega
      have d4 : (sz : Int) ≤ (ns.length : Int) - (k : Int) := by omega
      have d5 : decide ((bg : Int) < 0) = false := by simp
      have d6 : decide ((fn : Int) ≤ (bg : Int)) = false := by simp; omega
      have d7 : decide ((s.size : Int) < (fn : Int)) = false := by simp; omega
      have d8 : decide ((sz : Int) < 1) = false := by simp; omega
      have d9 : decide ((ns.length : Int) - (k : Int) < (sz : Int)) = false := by simp; omega
      have sb : s.size ≤ 1048576 := by have := hlenH.out; have := hlH.out; omega
      have A1 : Hid ((w3.alloc (.cells #[.int .i64 (kd : Int), .int .i64 (bg : Int), .int .i64 (fn : Int), .int .i64 (sz : Int), .string ⟨tx.toArray⟩] 51)).heap[w3.heap.size]? = some (.cells #[.int .i64 (kd : Int), .int .i64 (bg : Int), .int .i64 (fn : Int), .int .i64 (sz : Int), .string ⟨tx.toArray⟩] 51 (0, 0))) := heap_alloc_new w3 _
      have BA : Hid (Below w3.heap.size w3 (w3.alloc (.cells #[.int .i64 (kd : Int), .int .i64 (bg : Int), .int .i64 (fn : Int), .int .i64 (sz : Int), .string ⟨tx.toArray⟩] 51))) := (Below.refl _ w3).alloc (Nat.le_refl _) _
      have q12' := hide (q12.out _ ((hcH.out.below b3.out).below BA.out))
      replace p2 := hide p2
      replace kc := hide kc
      have c0' := c0
      clear q12 p1
      have hmb : -(ns.length : Int) < pk.tmod ns.length ∧ pk.tmod ns.length < (ns.length : Int) := by omega
      obtain ⟨hmb1, hmb2⟩ := hmb
      go_upto_if 45 with (go_at_call 15; refine (no_calls _ _).mono ?_; rintro x w4 ⟨rfl, hq⟩; have hq := hq.symm; subst hq)
      go_cut [8] (fun sx wx => sx = .int .i64 (k : Int) ∧ wx = w3)
      case first =>
        rcases hkc with hk1 | ⟨hk1, hk2, hk3⟩
        · have hx : ¬ pk.tmod ns.length < 0 := by omega
          go_wp2_with fail
          go_meet
          exact ⟨by first | rfl | rw [hk1], rfl⟩
        · go_wp2_with fail
          go_meet
          exact ⟨by first | rfl | rw [hk3], rfl⟩
      case rest =>
        obtain ⟨rfl, hw⟩ := hcut
        subst wc
        clear hmb1 hmb2 hkc
        go_upto_region 13 with (first
          | (go_at_call 15; refine (no_calls _ _).mono ?_; rintro x w4 ⟨rfl, hq⟩; have hq := hq.symm; subst hq)
          | (go_at_call 14; refine q12'.out.mono ?_; rintro x w5 ⟨vg, rfl, N5, b5⟩; obtain ⟨ag, capg, rfl, g1, g2⟩ := N5.shape; replace N5 := hide N5; replace b5 := hide b5))
        have A5 := (b5.out.block _ (by simp)).trans A1.out
        have f0 : w5.cell? ⟨w3.heap.size, 0, none⟩ = some (.int .i64 (kd : Int)) := by rw [cell_of_row _ _ _ _ _ _ A5]; rfl
        have f1 : w5.cell? ⟨w3.heap.size, 1, none⟩ = some (.int .i64 (bg : Int)) := by rw [cell_of_row _ _ _ _ _ _ A5]; rfl
        have f2 : w5.cell? ⟨w3.heap.size, 2, none⟩ = some (.int .i64 (fn : Int)) := by rw [cell_of_row _ _ _ _ _ _ A5]; rfl
        have f3 : w5.cell? ⟨w3.heap.size, 3, none⟩ = some (.int .i64 (sz : Int)) := by rw [cell_of_row _ _ _ _ _ _ A5]; rfl
        have hgl : w3.heap.size < w5.heap.size := World.block_lt_of_cell? w5 _ f0
        have B35 := hide (b3.out.then_below (BA.out.then_below b5.out))
        have N35 := hide (N3.out.below (BA.out.then_below b5.out))
        obtain ⟨v6, sl6, r6⟩ := N35.out.cutM k sz z2
        rw [p2.out] at r6
        have q13 := hide (fun W (qW : Below w5.heap.size w5 W) => alikeN_calls W _ v6 m' _ l.length bg (N5.out.below qW) (r6.below qW) rfl (by have := hlH.out; omega) (by omega) (by have := m'l.out; omega) bdm.out)
        have D1 : Below w5.heap.size w5 w5.drew := (Below.refl _ _).drew
        generalize w3.heap.size = gn at *
        clear A5 A1 BA b5 N3 c0 c1 c2 c3 c4 c0' N5 b3 r6 q12' p2
        go_cut [116] (fun sx wx => sx = .bool false ∧ Hid (Below w5.heap.size w5 wx))
        case first => as_aux_lemma =>
          have S0 : w5.cell? ⟨gn, 1, none⟩ = some (.int .i64 (bg : Int)) ∧ w5.cell? ⟨gn, 3, none⟩ = some (.int .i64 (sz : Int)) := ⟨f1, f3⟩
          have S1 : w5.drew.cell? ⟨gn, 1, none⟩ = some (.int .i64 (bg : Int)) ∧ w5.drew.cell? ⟨gn, 3, none⟩ = some (.int .i64 (sz : Int)) := ⟨f1, f3⟩
          have S2 : ∀ {wa : World}, Below w5.drew.heap.size w5.drew wa → wa.cell? ⟨gn, 1, none⟩ = some (.int .i64 (bg : Int)) ∧ wa.cell? ⟨gn, 3, none⟩ = some (.int .i64 (sz : Int)) := fun h => ⟨(h.cell (p := ⟨gn, 1, none⟩) hgl).trans f1, (h.cell (p := ⟨gn, 3, none⟩) hgl).trans f3⟩
          have ew : IntKind.i64.wrap ((k : Int) + (sz : Int)) = (k : Int) + (sz : Int) := by rw [IntKind.wrap_i64]; omega
          clear d1 d2 d3 d4 d5 d6 d7 d8 d9 z1 z2 r1 r2 nn h1 h2 hpos hk hz0 hz1 kl sb g1 g2 hpk sl12 kc f0 f2
          go_region_held3 (fun w' => w'.cell? ⟨gn, 1, none⟩ = some (.int .i64 (bg : Int)) ∧ w'.cell? ⟨gn, 3, none⟩ = some (.int .i64 (sz : Int)))
            (first
              | with_reducible exact S0
              | with_reducible exact S1
              | with_reducible exact S2 ba)
            (first
              | (go_at_call 15; refine (no_calls _ _).mono ?_; rintro x wn ⟨rfl, rfl⟩)
              | (go_at_call 17; refine (q13.out _ D1).mono ?_; rintro x wa ⟨rfl, ba⟩))
          all_goals (go_wp2_with fail; go_meet)
          all_goals exact ⟨rfl, D1.then_below ba⟩
        case rest =>
          obtain ⟨rfl, B6⟩ := hcut
          have N6 := hide (N35.out.below B6.out)
          have q15 := kids_read _ _ ns N6.out (by omega) fo.out k hk
          obtain ⟨ks, hks⟩ : ∃ ks, kidsL (ns.map toNd) k = ks := ⟨_, rfl⟩
          have kc' := kc.out
          rw [hks] at q15 kc'
          replace q15 := hide q15
          have P0 : Hid (PP ts ns kd k sz fn (bg + 1) ks) := kc'.elim (fun h => .inl ⟨h.1, h.2.2.2.2⟩) (fun h => .inr h)
          have kk : Hid ((kd ≠ 1 ∧ sz = 1 ∧ 3 ≤ kd ∧ kd ≤ 10) ∨ kd = 1) := kc'.elim (fun h => .inl ⟨h.1, h.2.1, h.2.2.1, h.2.2.2.1⟩) (fun h => .inr h.1)
          have F6 : Hid (wc.cell? ⟨gn, 0, none⟩ = some (.int .i64 (kd : Int)) ∧ wc.cell? ⟨gn, 1, none⟩ = some (.int .i64 (bg : Int)) ∧ wc.cell? ⟨gn, 2, none⟩ = some (.int .i64 (fn : Int)) ∧ wc.cell? ⟨gn, 3, none⟩ = some (.int .i64 (sz : Int)) ∧ gn < wc.heap.size) :=
            ⟨(B6.out.cell (p := ⟨gn, 0, none⟩) hgl).trans f0, (B6.out.cell (p := ⟨gn, 1, none⟩) hgl).trans f1, (B6.out.cell (p := ⟨gn, 2, none⟩) hgl).trans f2, (B6.out.cell (p := ⟨gn, 3, none⟩) hgl).trans f3, Nat.lt_of_lt_of_le hgl B6.out.size⟩
          have B36 := hide (B35.out.then_below B6.out)
          clear kc kc' hks fo B35 B6 N35 sl6 q13 D1 f0 f1 f2 f3 hgl sl12 m'l g1 g2 bdm
          go_upto_region 16 with (go_at_call 18; refine q15.out.mono ?_; rintro x w7 ⟨⟨vk, rfl, R7⟩, b7⟩; obtain ⟨ak, capk, rfl, k1, k2, -⟩ := id R7; replace R7 := hide R7; replace b7 := hide b7)
          rw [List.length_map] at k1 R7
          try rw [List.length_map]
          have F7 : Hid (w7.cell? ⟨gn, 0, none⟩ = some (.int .i64 (kd : Int)) ∧ w7.cell? ⟨gn, 1, none⟩ = some (.int .i64 (bg : Int)) ∧ w7.cell? ⟨gn, 2, none⟩ = some (.int .i64 (fn : Int)) ∧ w7.cell? ⟨gn, 3, none⟩ = some (.int .i64 (sz : Int)) ∧ gn < w7.heap.size) :=
            ⟨(b7.out.cell (p := ⟨gn, 0, none⟩) F6.out.2.2.2.2).trans F6.out.1, (b7.out.cell (p := ⟨gn, 1, none⟩) F6.out.2.2.2.2).trans F6.out.2.1, (b7.out.cell (p := ⟨gn, 2, none⟩) F6.out.2.2.2.2).trans F6.out.2.2.1, (b7.out.cell (p := ⟨gn, 3, none⟩) F6.out.2.2.2.2).trans F6.out.2.2.2.1, Nat.lt_of_lt_of_le F6.out.2.2.2.2 b7.out.size⟩
          have N7 := hide (N6.out.below b7.out)
          have B37 := hide (B36.out.then_below b7.out)
          clear F6 N6 B36 b7 q15
          obtain ⟨f0, f1, f2, f3, hgl⟩ := F7.out
          go_cut [144] (fun sx wx => sx = .bool false ∧ Hid (Below w7.heap.size w7 wx))
          case first => as_aux_lemma =>
            have R : Hid (Below w7.heap.size w7 w7) := Below.refl _ _
            rcases kk.out with ⟨e1, e2, e3, e4⟩ | e1
            · subst e2
              have x1 : ((kd : Int) != 1) = true := by simp; omega
              have x2 : decide ((3 : Int) ≤ (kd : Int)) = true := by simp; omega
              have x3 : decide ((kd : Int) ≤ 10) = true := by simp; omega
              have x4 : (3 : Int) ≤ (kd : Int) := by omega
              have x5 : (kd : Int) ≤ 10 := by omega
              clear kk e1 e3 e4
              go_wp2_with (go_at_call 15; refine (no_calls _ _).mono ?_; rintro x w4 ⟨rfl, rfl⟩)
              go_meet
              exact ⟨by first | rfl | simp, R⟩
            · subst e1
              clear kk
              by_cases e2 : sz = 1
              · subst e2
                go_wp2_with (go_at_call 15; refine (no_calls _ _).mono ?_; rintro x w4 ⟨rfl, rfl⟩)
                go_meet
                exact ⟨by first | rfl | simp, R⟩
              · have x1 : ((sz : Int) == 1) = false := by rw [beq_eq_false_iff_ne]; omega
                have x2 : ¬ (sz : Int) = 1 := by omega
                go_wp2_with (go_at_call 15; refine (no_calls _ _).mono ?_; rintro x w4 ⟨rfl, rfl⟩)
                go_meet
                exact ⟨by first | rfl | simp, R⟩
          case rest =>
            obtain ⟨rfl, B8⟩ := hcut
            have CC : Hid (∀ W, Below wc.heap.size wc W → W.cell? ⟨gn, 0, none⟩ = some (.int .i64 (kd : Int)) ∧ W.cell? ⟨gn, 2, none⟩ = some (.int .i64 (fn : Int)) ∧ W.cell? ⟨gn, 3, none⟩ = some (.int .i64 (sz : Int)) ∧ NRow W (.slice (some ⟨b, off, none⟩) ns.length cap) ns ∧ RowI W (.slice ak ks.length capk) (ks.map (fun n : Nat => (n : Int))) ∧ Cls W ∧ gn < W.heap.size ∧ Below w.heap.size w W) := by
              intro W hW
              have h := B8.out.then_below hW
              exact ⟨(h.cell (p := ⟨gn, 0, none⟩) hgl).trans f0, (h.cell (p := ⟨gn, 2, none⟩) hgl).trans f2, (h.cell (p := ⟨gn, 3, none⟩) hgl).trans f3, N7.out.below h, R7.out.below h, hcH.out.below (B37.out.then_below h), Nat.lt_of_lt_of_le hgl h.size, B37.out.then_below h⟩
            have f1' : wc.cell? ⟨gn, 1, none⟩ = some (.int .i64 (bg : Int)) := (B8.out.cell (p := ⟨gn, 1, none⟩) hgl).trans f1
            have R0 : Hid (Below wc.heap.size wc wc) := Below.refl _ _
            clear f0 f1 f2 f3 hgl N7 R7 B37 B8 F7 kk d5 d6 d7 d8 d9 hz1
            go_wp2_with fail
            clear f1'
            go_loopw [15, 16] (fun x i wr => ∃ j fr : Nat, x = .int .i64 (fr : Int) ∧ i = .int .i64 (j : Int) ∧ j ≤ ks.length ∧ Hid (PP ts ns kd k sz fn fr (ks.drop j)) ∧ Hid (Below wc.heap.size wc wr)) (fun _ i _ => ks.length - (intOf i).toNat)
            case atStart => exact ⟨0, bg + 1, by go_num, rfl, Nat.zero_le _, P0, R0⟩
            case round =>
              clear P0 R0
              obtain ⟨j, fr, rfl, rfl, hj, P, BB⟩ := hrel
              obtain ⟨y0, y2, y3, NW, RW, CW, hgl, BW⟩ := CC.out wr BB.out
              by_cases hlt : j < ks.length
              · obtain ⟨q, hq'⟩ : ∃ q, ks.getD j 0 = q := ⟨_, rfl⟩
                have hd : ks.drop j = q :: ks.drop (j + 1) := by
                  rw [← hq', List.getD_eq_getElem?_getD, List.getElem?_eq_getElem hlt]
                  exact List.drop_eq_getElem_cons hlt
                have PO := P.out
                rw [hd] at PO
                rcases PO with ⟨_, hx⟩ | ⟨hkd, c, hK, hc⟩
                · cases hx
                obtain ⟨x1, x2, x3, x4, x5, x6, x7, x8⟩ := hK.step hR.out
                have P1 : Hid (PP ts ns kd k sz fn (ns.getD q X.n0).fin (ks.drop (j + 1))) := .inr ⟨hkd, c, x8, hc⟩
                obtain ⟨bk, ok, rfl, y4⟩ := RW.at_ hlt
                rw [hq'] at y4
                obtain ⟨b', off', eb, n0, n1, n2, n3, n4⟩ := NW.at_ x3
                cases eb
                clear n0 n3 n4 hK x8 hd hq'
                generalize (ns.getD q X.n0).beg = nb at *
                generalize (ns.getD q X.n0).fin = nf at *
                have hnb : nb ≤ s.size := by omega
                have qo := fun W (hW : Cls W) => only_calls W hW (s.extract fr nb) _ (extract_mid hs.out fr nb) (by have := hlH.out; rw [List.length_drop, List.length_take]; omega) (by rw [List.drop_take]; exact x7)
                replace qo := hide qo
                have sl := fun W => run_mid s (fr : Int) (nb : Int) fr nb rfl rfl x4 hnb W
                have hkb : bk < wr.heap.size := World.block_lt_of_cell? wr _ y4
                have hnbk : b < wr.heap.size := World.block_lt_of_cell? wr _ n1
                have i1 : (j : Int) < (ks.length : Int) := by omega
                have i2 : (q : Int) < (ns.length : Int) := by omega
                have i3 : decide ((q : Int) ≤ (k : Int)) = false := by simp; omega
                have i4 : decide ((k : Int) + (sz : Int) ≤ (q : Int)) = false := by simp; omega
                have i5 : decide ((nb : Int) < (fr : Int)) = false := by simp; omega
                have i6 : decide ((nf : Int) < (nb : Int)) = false := by simp; omega
                have i7 : decide ((fn : Int) - 1 < (nf : Int)) = false := by simp; omega
                have e1 : ¬ (q : Int) ≤ (k : Int) := by omega
                have e2 : ¬ (k : Int) + (sz : Int) ≤ (q : Int) := by omega
                have e3 : ¬ (nb : Int) < (fr : Int) := by omega
                have e4 : ¬ (nf : Int) < (nb : Int) := by omega
                have e5 : ¬ (fn : Int) - 1 < (nf : Int) := by omega
                have ew : IntKind.i64.wrap ((k : Int) + (sz : Int)) = (k : Int) + (sz : Int) := by rw [IntKind.wrap_i64]; omega
                have ev : IntKind.i64.wrap ((fn : Int) - 1) = (fn : Int) - 1 := by rw [IntKind.wrap_i64]; omega
                have D1 : Below wr.heap.size wr wr.drew := (Below.refl _ _).drew
                have CD : Cls wr.drew := CW
                have NWH := hide NW
                have hltH := hide hlt
                have kbH := hide (Nat.le_trans k1 k2)
                clear NW RW CW P x1 x2 x4 x5 x6 x7 hc hj nn h1 h2 r1 r2 z1 z2 sb k1 k2 hpos hk hz0 kl d1 d2 d3 d4 hpk x3 hnb
                go_upto_region 22 with fail
                go_cut [230] (fun sx wx => sx = .bool false ∧ Hid (Below wr.heap.size wr wx))
                case first => as_aux_lemma =>
                  have S0 : wr.cell? ⟨bk, ok + j, none⟩ = some (.int .i64 (q : Int)) ∧ wr.cell? ⟨b, off + q * 5 + 1, none⟩ = some (.int .i64 (nb : Int)) ∧ wr.cell? ⟨b, off + q * 5 + 2, none⟩ = some (.int .i64 (nf : Int)) ∧ wr.cell? ⟨gn, 2, none⟩ = some (.int .i64 (fn : Int)) ∧ wr.cell? ⟨gn, 3, none⟩ = some (.int .i64 (sz : Int)) := ⟨y4, n1, n2, y2, y3⟩
                  have S1 : wr.drew.cell? ⟨bk, ok + j, none⟩ = some (.int .i64 (q : Int)) ∧ wr.drew.cell? ⟨b, off + q * 5 + 1, none⟩ = some (.int .i64 (nb : Int)) ∧ wr.drew.cell? ⟨b, off + q * 5 + 2, none⟩ = some (.int .i64 (nf : Int)) ∧ wr.drew.cell? ⟨gn, 2, none⟩ = some (.int .i64 (fn : Int)) ∧ wr.drew.cell? ⟨gn, 3, none⟩ = some (.int .i64 (sz : Int)) := ⟨y4, n1, n2, y2, y3⟩
                  have S2 : ∀ {wa : World}, Below wr.drew.heap.size wr.drew wa → wa.cell? ⟨bk, ok + j, none⟩ = some (.int .i64 (q : Int)) ∧ wa.cell? ⟨b, off + q * 5 + 1, none⟩ = some (.int .i64 (nb : Int)) ∧ wa.cell? ⟨b, off + q * 5 + 2, none⟩ = some (.int .i64 (nf : Int)) ∧ wa.cell? ⟨gn, 2, none⟩ = some (.int .i64 (fn : Int)) ∧ wa.cell? ⟨gn, 3, none⟩ = some (.int .i64 (sz : Int)) := fun h => ⟨(h.cell (p := ⟨bk, ok + j, none⟩) hkb).trans y4, (h.cell (p := ⟨b, off + q * 5 + 1, none⟩) hnbk).trans n1, (h.cell (p := ⟨b, off + q * 5 + 2, none⟩) hnbk).trans n2, (h.cell (p := ⟨gn, 2, none⟩) hgl).trans y2, (h.cell (p := ⟨gn, 3, none⟩) hgl).trans y3⟩
                  clear y4 n1 n2 y2 y3 y0
                  simp only [List.append_eq, List.cons_append, List.nil_append]
                  go_region_held3 (fun w' => w'.cell? ⟨bk, ok + j, none⟩ = some (.int .i64 (q : Int)) ∧ w'.cell? ⟨b, off + q * 5 + 1, none⟩ = some (.int .i64 (nb : Int)) ∧ w'.cell? ⟨b, off + q * 5 + 2, none⟩ = some (.int .i64 (nf : Int)) ∧ w'.cell? ⟨gn, 2, none⟩ = some (.int .i64 (fn : Int)) ∧ w'.cell? ⟨gn, 3, none⟩ = some (.int .i64 (sz : Int)))
                    (first
                      | with_reducible exact S0
                      | with_reducible exact S1
                      | with_reducible exact S2 ba)
                    (first
                      | (go_at_call 16; refine (qo.out _ CD).mono ?_; rintro x wa ⟨rfl, ba⟩))
                  all_goals (go_wp2_with fail; go_meet)
                  all_goals exact ⟨rfl, D1.then_below ba⟩
                case rest =>
                  obtain ⟨rfl, B9⟩ := hcut
                  have y4' := (B9.out.cell (p := ⟨bk, ok + j, none⟩) hkb).trans y4
                  have n2' := (B9.out.cell (p := ⟨b, off + q * 5 + 2, none⟩) hnbk).trans n2
                  have BB' := hide (BB.out.then_below B9.out)
                  clear y4 n1 n2 y2 y3 y0
                  have kb := kbH.out
                  have kb2 := hltH.out
                  go_wp2_with fail
                  go_roundw
                  case rel => exact ⟨j + 1, nf, rfl, by go_num, hltH.out, P1, BB'⟩
                  case measure => have := hltH.out; simp [intOf]; omega
              · obtain rfl : j = ks.length := by omega
                have PO := P.out
                rw [List.drop_length] at PO
                rcases PO with ⟨hkd, _⟩ | ⟨hkd, c, hK, hc⟩
                · have x1 : ((kd : Int) != 1) = true := by simp; omega
                  clear NW RW P hlt hj
                  go_wp2_with fail
                  go_ret
                  exact ⟨by rfl, BW⟩
                · obtain ⟨x1, x2⟩ := hK.last hR.out
                  have hcb : c.beg ≤ s.size := by omega
                  have qo := only_calls wr CW (s.extract fr c.beg) _ (extract_mid hs.out fr c.beg) (by have := hlH.out; rw [List.length_drop, List.length_take]; omega) (by rw [List.drop_take]; exact x2)
                  have sl := fun W => run_mid s (fr : Int) ((fn : Int) - 1) fr c.beg rfl (by omega) x1 hcb W
                  subst hkd
                  replace qo := hide qo
                  have ev : IntKind.i64.wrap ((fn : Int) - 1) = (fn : Int) - 1 := by rw [IntKind.wrap_i64]; omega
                  clear NW RW CW P hlt hj hK hc x1 x2 hcb
                  go_wp2_with (go_at_call 16; refine qo.out.mono ?_; rintro x wa ⟨rfl, ba⟩)
                  go_ret
                  exact ⟨by rfl, BW.then_below ba⟩
end Go.Proofs.YtackibimlpkcmaaDoor
