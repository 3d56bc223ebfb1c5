/-
  The scanner's own small methods: idle, fail, open, keep, tell.
-/
import Derived.Test.YtjbalgjdcdmjjaaDoorScanBase
import Derived.Deep.RegionHeld3
import Derived.Deep.RegionLaw
import Derived.Laws.BytesString
import Derived.Laws.IdiomStrings
namespace Go.Proofs.YtjbalgjdcdmjjaaDoor
open Go.RowKit
set_option linter.unusedVariables false
theorem infoByte : (Tryd.prog.info? 5).map (fun i => (i.zero, i.size, i.bytes)) = some (some (.int .u8 0), 1, 1) := by kernel_rfl
theorem sliceByte : Tryd.prog.underlying 70 = some (.slice 5) := by kernel_rfl
theorem infoTok : (Tryd.prog.info? 66).map (fun i => (i.zero, i.size, i.bytes)) = some (some (.agg #[.int .i64 0, .int .i64 0, .int .i64 0, .string ⟨#[]⟩]), 4, 40) := by kernel_rfl
theorem sliceTok : Tryd.prog.underlying 26 = some (.slice 66) := by kernel_rfl
/-- append to a row of one's own, and where the new row lies. -/
theorem run_append_mine {P : Program} (w : World) (base : Nat) (t ty e : TypeId) (i : TypeInfo) (z : Value) (size bytes : Nat) (ht : P.underlying t = some (.slice e)) (hi : P.info? e = some i) (hz : i.zero = some z)
    (hsize : i.size = size) (hby : i.bytes = bytes) (hzs : z.cells.size = size) (hsz : 0 < size)
    (v : Value) (n : Nat) (xs : List Value) (hown : w.ownsRow base e size v n xs)
    (a : Addr) (m c : Nat) (news : List Value) (hl : news.length = m * size) (hnews : ∀ j u, news[j]? = some u → w.cell? (a.add j) = some u) (h1 : ∀ u ∈ news, u.oneCell' = true)
    (h63 : n + m ≤ maxLen) (hbytes : (n + m) * bytes ≤ 140737488355328) (hbase : base ≤ w.heap.size) :
    ∃ v' w', (Builtin.append_ #[t, t] ty #[v, .slice (some a) m c]).run P w = .ok v' w' ∧ w'.ownsRow base e size v' (n + m) (xs ++ news) ∧ w.grownBy w' v.ownBlock ∧
      (v'.ownBlock = v.ownBlock ∨ v'.ownBlock = some w.heap.size) := by
  obtain ⟨v', w', hr, h2, h3, h4⟩ := run_append_own (P := P) w base t ty e i z size bytes ht hi hz hsize hby hzs hsz v n xs hown a m c news hl hnews h1 h63 hbytes hbase
  refine ⟨v', w', hr, h2, h3, ?_⟩
  subst hsize
  subst hby
  have hsmall : n + m ≤ 9223372036854775807 := by simp only [maxLen] at h63; omega
  rcases hown.2 with ⟨rfl, rfl⟩ | ⟨g, cap, cur, rfl, hbg, hg, hnc, hcm, hcs, htake⟩
  · by_cases hm : m = 0
    · left
      rw [h4.2 ⟨rfl, hm⟩]
    · right
      have hq := run_append_nil (P := P) w t ty e i z ht hi hz a m c news hl hnews (by omega) (by omega) (by have hb := hbytes; simp only [Nat.zero_add] at hb; omega)
      have := hr.symm.trans hq
      simp only [Result.ok.injEq] at this
      rw [this.1]
      rfl
  · by_cases hroom : n + m ≤ cap
    · left
      have hfit : n * i.size + news.length ≤ cur.size := by rw [hl, hcs, ← Nat.add_mul]; exact Nat.mul_le_mul_right _ hroom
      have hq := run_append_room (P := P) w t ty e i ht hi g n cap cur hg a m c news hl hnews h1 hroom hfit
      have := hr.symm.trans hq
      simp only [Result.ok.injEq] at this
      rw [this.1]
      rfl
    · right
      have holds : ∀ j u, xs[j]? = some u → w.cell? ((⟨g, 0, none⟩ : Addr).add j) = some u := hown.cells (g := g) rfl
      have hq := run_append_grow (P := P) w t ty e i z ht hi hz ⟨g, 0, none⟩ n cap xs hown.1 holds a m c news hl hnews (by omega) (by omega) (growslice_fits (by omega) hbytes)
      have := hr.symm.trans hq
      simp only [Result.ok.injEq] at this
      rw [this.1]
      rfl
theorem wp_append_mine {P : Program} {w : World} {o : Oper} {a : Act} {K : Act → World → Prop} {Q : Exit → Act → World → Prop} (s x : Operand) (t : TypeId)
    (ho : o.op = .call { callee := .builtin .append, args := #[s, x], argTypes := #[t, t] })
    (base : Nat) (e : TypeId) (i : TypeInfo) (z : Value) (size bytes : Nat) (ht : P.underlying t = some (.slice e)) (hi : P.info? e = some i) (hz : i.zero = some z)
    (hsize : i.size = size) (hby : i.bytes = bytes) (hzs : z.cells.size = size) (hsz : 0 < size)
    (v : Value) (n : Nat) (xs : List Value) (hs : a.eval s = v) (hown : w.ownsRow base e size v n xs)
    (ad : Addr) (m c : Nat) (news : List Value) (hx : a.eval x = .slice (some ad) m c) (hl : news.length = m * size) (hnews : ∀ j u, news[j]? = some u → w.cell? (ad.add j) = some u) (h1 : ∀ u ∈ news, u.oneCell' = true)
    (h63 : n + m ≤ maxLen) (hbytes : (n + m) * bytes ≤ 140737488355328) (hbase : base ≤ w.heap.size)
    (h : ∀ v' w', w'.ownsRow base e size v' (n + m) (xs ++ news) → w.grownBy w' v.ownBlock → (v'.ownBlock = v.ownBlock ∨ v'.ownBlock = some w.heap.size) → K (a.put o.dst v') w') : o.wp P a w K Q := by
  obtain ⟨v', w', hr, h2, h3, h4⟩ := run_append_mine (P := P) w base t o.type e i z size bytes ht hi hz hsize hby hzs hsz v n xs hown ad m c news hl hnews h1 h63 hbytes hbase
  unfold Oper.wp execOp
  simp only [ho, resolve, invoke, builtin, Sem.run_bind, Sem.run_pure, Result.andThen_ok, List.map_toArray, List.map_cons, List.map_nil, hs, hx, hr]
  exact h v' w' h2 h3 h4
theorem wpList_append_mine {P : Program} {w : World} {ops : Array Oper} {rest : List Oper} {o : Oper} {a : Act} {Q : Exit → Act → World → Prop} (hgd : o.guard = none) (s x : Operand) (t : TypeId)
    (ho : o.op = .call { callee := .builtin .append, args := #[s, x], argTypes := #[t, t] })
    (base : Nat) (e : TypeId) (i : TypeInfo) (z : Value) (size bytes : Nat) (ht : P.underlying t = some (.slice e)) (hi : P.info? e = some i) (hz : i.zero = some z)
    (hsize : i.size = size) (hby : i.bytes = bytes) (hzs : z.cells.size = size) (hsz : 0 < size)
    (v : Value) (n : Nat) (xs : List Value) (hs : a.eval s = v) (hown : w.ownsRow base e size v n xs)
    (ad : Addr) (m c : Nat) (news : List Value) (hx : a.eval x = .slice (some ad) m c) (hl : news.length = m * size) (hnews : ∀ j u, news[j]? = some u → w.cell? (ad.add j) = some u) (h1 : ∀ u ∈ news, u.oneCell' = true)
    (h63 : n + m ≤ maxLen) (hbytes : (n + m) * bytes ≤ 140737488355328) (hbase : base ≤ w.heap.size)
    (h : ∀ v' w', w'.ownsRow base e size v' (n + m) (xs ++ news) → w.grownBy w' v.ownBlock → (v'.ownBlock = v.ownBlock ∨ v'.ownBlock = some w.heap.size) → wpList P ops Q rest (a.put o.dst v') w') : wpList P ops Q (o :: rest) a w :=
  wpList_plain hgd fun _ hK => wp_append_mine s x t ho base e i z size bytes ht hi hz hsize hby hzs hsz v n xs hs hown ad m c news hx hl hnews h1 h63 hbytes hbase fun v' w' h2 h3 h4 => hK _ _ (h v' w' h2 h3 h4)
theorem step_append_mine {P : Program} {w : World} {ops : Array Oper} {o : Oper} {a : Act} {K : Act → World → Prop} {Q : Exit → Act → World → Prop} {E : Prop} (hgd : o.guard = none) (s x : Operand) (t : TypeId)
    (ho : o.op = .call { callee := .builtin .append, args := #[s, x], argTypes := #[t, t] })
    (base : Nat) (e : TypeId) (i : TypeInfo) (z : Value) (size bytes : Nat) (ht : P.underlying t = some (.slice e)) (hi : P.info? e = some i) (hz : i.zero = some z)
    (hsize : i.size = size) (hby : i.bytes = bytes) (hzs : z.cells.size = size) (hsz : 0 < size)
    (v : Value) (n : Nat) (xs : List Value) (hs : a.eval s = v) (hown : w.ownsRow base e size v n xs)
    (ad : Addr) (m c : Nat) (news : List Value) (hx : a.eval x = .slice (some ad) m c) (hl : news.length = m * size) (hnews : ∀ j u, news[j]? = some u → w.cell? (ad.add j) = some u) (h1 : ∀ u ∈ news, u.oneCell' = true)
    (h63 : n + m ≤ maxLen) (hbytes : (n + m) * bytes ≤ 140737488355328) (hbase : base ≤ w.heap.size)
    (h : ∀ v' w', w'.ownsRow base e size v' (n + m) (xs ++ news) → w.grownBy w' v.ownBlock → (v'.ownBlock = v.ownBlock ∨ v'.ownBlock = some w.heap.size) → K (a.put o.dst v') w') :
    if Region.wanted o (yielded ops a.tmps) = true then Oper.wp P o a w K Q else E := by
  have hw : Region.wanted o (yielded ops a.tmps) = true := by simp [Region.wanted, hgd]
  rw [if_pos hw]
  exact wp_append_mine s x t ho base e i z size bytes ht hi hz hsize hby hzs hsz v n xs hs hown ad m c news hx hl hnews h1 h63 hbytes hbase h
section
variable {F : Nat → Prop} {w : World} {g : Nat} {c : Sc} {acc : List UInt8} {ts : List S.Tok} {tv ov : Value}
theorem ownsRow_same {w1 : World} {e : TypeId} {size : Nat} {v : Value} {n : Nat} {xs : List Value} (h : w.ownsRow 0 e size v n xs) (q : ∀ k, v.ownBlock = some k → w1.heap[k]? = w.heap[k]?) : w1.ownsRow 0 e size v n xs := by
  obtain ⟨h1, h2⟩ := h
  refine ⟨h1, ?_⟩
  rcases h2 with h2 | ⟨b, cap, cur, rfl, h3, hb, h4⟩
  · exact .inl h2
  · exact .inr ⟨b, cap, cur, rfl, h3, (q b rfl).trans hb, h4⟩
theorem SS.alloc (h : SS F w g c acc ts tv ov) (o : Obj) : SS F (w.alloc o) g c acc ts tv ov := by
  have hk := (Kp.refl F w).alloc o
  refine ⟨(heap_alloc_old w o h.lt).trans h.blk, h.mine, ownsRow_same h.text fun k hk => heap_alloc_old w o (h.text.lt k hk).2, h.tmine, ownsRow_same h.told fun k hk => heap_alloc_old w o (h.told.lt k hk).2, h.omine, h.cls.kept h.cF hk, h.cF, fun k hF => Nat.lt_of_lt_of_le (h.Flt k hF) hk.size⟩
/-- The text has a new row. -/
theorem SS.newText (h : SS F w g c acc ts tv ov) {w1 : World} {v' : Value} {acc' : List UInt8} (o : w1.ownsRow 0 5 1 v' acc'.length (acc'.map byteV)) (q : w.grownBy w1 tv.ownBlock) (m : v'.ownBlock = tv.ownBlock ∨ v'.ownBlock = some w.heap.size) :
    SS F (w1.setCell ⟨g, 6, none⟩ v') g c acc' ts v' ov ∧ Kp F w (w1.setCell ⟨g, 6, none⟩ v') := by
  have hk : Kp F w w1 := (Kp.refl F w).grown q h.tmine
  have hm : ∀ k, v'.ownBlock = some k → ¬ F k := by
    intro k e
    rcases m with m | m
    · exact h.tmine k (m.symm.trans e)
    · intro hF
      have h1 := h.Flt k hF
      have h2 : w.heap.size = k := Option.some.inj (m.symm.trans e)
      omega
  have hb : w1.heap[g]? = some (.cells (c.arr tv ov) 74 (0, 0)) := (q.block g h.lt (fun e => h.tne e.symm)).trans h.blk
  have hne : v'.ownBlock ≠ some g := by
    rcases m with m | m
    · rw [m]; exact h.tne
    · rw [m]
      have := h.lt
      intro e
      have := Option.some.inj e
      omega
  have ho : w1.ownsRow 0 66 4 ov ts.length (tksCells ts) := ownsRow_same h.told fun k hk => q.block k (h.told.lt k hk).2 (fun e => h.tone e.symm hk)
  refine ⟨⟨?_, h.mine, ownsRow_set o hne 6 v', hm, ownsRow_set ho h.one 6 v', h.omine, h.cls.kept h.cF (hk.set h.mine 6 v'), h.cF, fun k hF => Nat.lt_of_lt_of_le (h.Flt k hF) (hk.set h.mine 6 v').size⟩, hk.set h.mine 6 v'⟩
  simp only [World.setCell, Array.getElem?_modify, if_pos, hb, Option.map_some]
  rfl
/-- The list of tokens has a new row. -/
theorem SS.newTold (h : SS F w g c acc ts tv ov) {w1 : World} {v' : Value} {ts' : List S.Tok} (o : w1.ownsRow 0 66 4 v' ts'.length (tksCells ts')) (q : w.grownBy w1 ov.ownBlock) (m : v'.ownBlock = ov.ownBlock ∨ v'.ownBlock = some w.heap.size) :
    SS F (w1.setCell ⟨g, 13, none⟩ v') g c acc ts' tv v' ∧ Kp F w (w1.setCell ⟨g, 13, none⟩ v') := by
  have hk : Kp F w w1 := (Kp.refl F w).grown q h.omine
  have hm : ∀ k, v'.ownBlock = some k → ¬ F k := by
    intro k e
    rcases m with m | m
    · exact h.omine k (m.symm.trans e)
    · intro hF
      have h1 := h.Flt k hF
      have h2 : w.heap.size = k := Option.some.inj (m.symm.trans e)
      omega
  have hb : w1.heap[g]? = some (.cells (c.arr tv ov) 74 (0, 0)) := (q.block g h.lt (fun e => h.one e.symm)).trans h.blk
  have hne : v'.ownBlock ≠ some g := by
    rcases m with m | m
    · rw [m]; exact h.one
    · rw [m]
      have := h.lt
      intro e
      have := Option.some.inj e
      omega
  have ho : w1.ownsRow 0 5 1 tv acc.length (acc.map byteV) := ownsRow_same h.text fun k hk => q.block k (h.text.lt k hk).2 (fun e => h.tone hk e.symm)
  refine ⟨⟨?_, h.mine, ownsRow_set ho h.tne 13 v', h.tmine, ownsRow_set o hne 13 v', hm, h.cls.kept h.cF (hk.set h.mine 13 v'), h.cF, fun k hF => Nat.lt_of_lt_of_le (h.Flt k hF) (hk.set h.mine 13 v').size⟩, hk.set h.mine 13 v'⟩
  simp only [World.setCell, Array.getElem?_modify, if_pos, hb, Option.map_some]
  rfl
/-- The text is cut to nothing. -/
theorem sl_zero (g o N cap : Nat) (W : World) : (Instr.sliceAt 70 (.slice (some ⟨g, o, none⟩) N cap) none (some (.int .i64 0)) none).run Tryd.prog W = .ok (.slice (some ⟨g, o, none⟩) 0 cap) W := by
  have he : Tryd.prog.elem 70 = 5 := by kernel_rfl
  have hu : Tryd.prog.underlying 70 = some (.slice (Tryd.prog.elem 70)) := by rw [he]; exact sliceByte
  rw [run_sliceAt_slice (h := hu), run_slice_h (ht := hu) (h0 := by omega) (h2 := by omega), he]
  clear hu he
  go_simp
theorem sl_none (W : World) : (Instr.sliceAt 70 (.slice none 0 0) none (some (.int .i64 0)) none).run Tryd.prog W = .ok (.slice none 0 0) W := by
  have he : Tryd.prog.elem 70 = 5 := by kernel_rfl
  have hu : Tryd.prog.underlying 70 = some (.slice (Tryd.prog.elem 70)) := by rw [he]; exact sliceByte
  rw [run_sliceAt_slice (h := hu), run_slice_h (ht := hu) (h0 := by omega) (h2 := by omega), he]
  clear hu he
  go_simp
theorem SS.noText (h : SS F w g c acc ts tv ov) : ∃ ao cap, (∃ n, tv = .slice ao n cap) ∧ (∀ W : World, (Instr.sliceAt 70 tv none (some (.int .i64 0)) none).run Tryd.prog W = .ok (.slice ao 0 cap) W) ∧ SS F (w.setCell ⟨g, 6, none⟩ (.slice ao 0 cap)) g c [] ts (.slice ao 0 cap) ov := by
  rcases h.text with ⟨h1, ⟨rfl, h2⟩ | ⟨b, cap, cur, rfl, h3, hb, h4, h5, h6, h7⟩⟩
  · exact ⟨none, 0, ⟨_, rfl⟩, sl_none, (h.newText (w1 := w) (v' := .slice none 0 0) (acc' := []) (World.ownsRow_nil w 0 _ 1) ⟨rfl, rfl, rfl, Nat.le_refl _, fun _ _ _ => rfl⟩ (.inl rfl)).1⟩
  · exact ⟨some ⟨b, 0, none⟩, cap, ⟨_, rfl⟩, sl_zero b 0 acc.length cap, (h.newText (w1 := w) (v' := .slice (some ⟨b, 0, none⟩) 0 cap) (acc' := []) ⟨by simp, .inr ⟨b, cap, cur, rfl, Nat.zero_le _, hb, Nat.zero_le _, h5, h6, by simp⟩⟩ ⟨rfl, rfl, rfl, Nat.le_refl _, fun _ _ _ => rfl⟩ (.inl rfl)).1⟩
/-- The text as a string. -/
theorem conv_none (w : World) : (convert 70 9 (.slice none 0 0)).run Tryd.prog w = .ok (.string ⟨#[]⟩) w := by
  rw [run_convert_bytes_string w 70 9 5 none 0 0 sliceByte (by kernel_rfl) (by kernel_rfl)]
  rfl
theorem SS.conv (h : SS F w g c acc ts tv ov) : (convert 70 9 tv).run Tryd.prog w = .ok (str acc) w := by
  rcases h.text with ⟨h1, ⟨rfl, h2⟩ | ⟨b, cap, cur, rfl, h3, hb, h4, h5, h6, h7⟩⟩
  · have : acc = [] := List.length_eq_zero_iff.1 h2
    subst this
    exact conv_none w
  · refine run_convert_bytes_back (P := Tryd.prog) w 70 9 5 ⟨b, 0, none⟩ cap acc sliceByte (by kernel_rfl) (by kernel_rfl) (fun j hj => ?_)
    have e := h.text.cells (g := b) rfl j (byteV acc[j]) (by rw [List.getElem?_map, List.getElem?_eq_getElem hj]; rfl)
    exact e
end
set_option maxRecDepth 100000 in
theorem idle_calls {F : Nat → Prop} {w : World} {g : Nat} {c : Sc} {acc : List UInt8} {ts : List S.Tok} {tv ov : Value} (h : SS F w g c acc ts tv ov) :
    Calls Tryd.prog 25 #[.pointer (some ⟨g, 0, none⟩)] w fun e w' => e = .returned (.tuple #[]) ∧ Left F w w' g { c with step := mv 51 g, stop := mv 52 g } acc ts := by
  have q := hide (become_calls h 51 52)
  have hmf : ∀ (fn : Fn) (first cap : Array Value) (w : World), (Instr.makeFunc fn first cap).run Tryd.prog w = .ok (.func fn first cap) w := fun _ _ _ _ => rfl
  go_enter Tryd.func25, Tryd.ntmps25
  go_wp2_with (go_at_call 50; refine q.out.mono ?_; rintro e w1 ⟨rfl, q1⟩)
  go_end0
  exact ⟨rfl, q1⟩
set_option maxRecDepth 100000 in
theorem fail_calls {F : Nat → Prop} {w : World} {g : Nat} {c : Sc} {acc : List UInt8} {ts : List S.Tok} {tv ov : Value} (h : SS F w g c acc ts tv ov) (f p : Nat) :
    Calls Tryd.prog 60 #[.pointer (some ⟨g, 0, none⟩), .int .i64 f, .int .i64 p] w fun e w' => e = .returned (.tuple #[]) ∧ Left F w w' g { c with fault := f, place := p } acc ts := by
  obtain ⟨-, -, -, -, -, -, -, -, -, -, -, -, -, -, -, c15, c16⟩ := h.cells
  have fz := h.frozen
  have h1 := hide ((h.set 15 (.int .i64 f) { c with fault := f } rfl).set 16 (.int .i64 p) { c with fault := f, place := p } rfl)
  have k1 := hide (((Kp.refl F w).set h.mine 15 (.int .i64 f)).set h.mine 16 (.int .i64 p))
  go_enter Tryd.func60, Tryd.ntmps60
  go_wp2
  go_end0
  exact ⟨rfl, ⟨_, _, h1.out⟩, k1.out⟩
end Go.Proofs.YtjbalgjdcdmjjaaDoor
