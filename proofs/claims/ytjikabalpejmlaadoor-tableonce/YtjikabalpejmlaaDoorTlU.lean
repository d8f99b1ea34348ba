/-
  The document's own answers of layer 14: With.
-/
import Derived.Test.YtjikabalpejmlaaDoorTlT
import Derived.Laws.OwnMore
namespace Go.Proofs.YtjikabalpejmlaaDoor
open Go.RowKit Go.Deep Pk Lf
open Mk (V allM cpus fstI anyB)

/-- A slice of the call's own that is not empty lies in a block of its own. -/
theorem own_at {w : World} {B : Nat} {e : TypeId} {size : Nat} {v : Value} {n : Nat} {xs : List Value} (h : w.ownsRow B e size v n xs) (hn : 0 < n) : ∃ g cap, v = .slice (some ⟨g, 0, none⟩) n cap ∧ B ≤ g ∧ g < w.heap.size := by
  rcases h.2 with ⟨-, h0⟩ | ⟨g, cap, cur, rfl, hb, hg, -⟩
  · omega
  · exact ⟨g, cap, rfl, hb, (Array.getElem?_eq_some_iff.1 hg).1⟩
theorem own_off {w : World} {B : Nat} {e : TypeId} {size : Nat} {v : Value} {n : Nat} {xs : List Value} (h : w.ownsRow B e size v n xs) {p : Addr} (hne : v.ownBlock ≠ some p.block) (x : Value) : (w.setCell p x).ownsRow B e size v n xs :=
  World.ownsRow.kept (row := some p.block) h ⟨rfl, rfl, rfl, by simp [World.setCell], fun k _ hk => Below.heap_setCell _ _ _ k (fun e => hk (by rw [e]))⟩ (.inr hne)

theorem own_below {w w' : World} {B : Nat} {e : TypeId} {size : Nat} {v : Value} {n : Nat} {xs : List Value} (h : w.ownsRow B e size v n xs) (hb : Below w.heap.size w w') : w'.ownsRow B e size v n xs := by
  refine World.ownsRow.kept (row := none) h ⟨hb.os, hb.tape, hb.output, hb.size, fun i hi _ => hb.block i hi⟩ ?_
  cases v.ownBlock <;> simp
theorem Bk.other {w : World} {n : Nat} {x : Tl.Tk} (h : Bk w n x) {p : Addr} {v : Value} (hne : n ≠ p.block) : Bk (w.setCell p v) n x := (Below.heap_setCell _ _ _ _ hne).trans h
theorem task_at (ts : List Tl.Tk) (i : Nat) (hi : i < ts.length) : (cellsE encK ts)[i * 3]? = some (.int .i64 (ts.getD i Tl.k0).nice) ∧ (cellsE encK ts)[i * 3 + 1]? = some (.int .u64 ((ts.getD i Tl.k0).mask : Int)) ∧ (cellsE encK ts)[i * 3 + 2]? = some (.int .i64 (ts.getD i Tl.k0).lag) :=
  ⟨cellsE_at (E := encK) ts i hi 0 (by decide), cellsE_at (E := encK) ts i hi 1 (by decide), cellsE_at (E := encK) ts i hi 2 (by decide)⟩
set_option maxHeartbeats 8000000 in
set_option maxRecDepth 100000 in
theorem rwith_far (t : Tl.T) (i : Nat) (z : Int) (x : Tl.Tk) (v : Value) (W : World) (hV : Tv W v t) (hi : i < t.ws.length) (hl : t.ws.length ≤ 64) (he : t.ts.length = t.ws.length) (hz : (Lit.int .u64 z).wf = true) (hx : encK.ok x) :
    Calls Tryd.prog 51 #[v, .int .i64 i, .int .u64 z, .agg #[.int .i64 x.nice, .int .u64 (x.mask : Int), .int .i64 x.lag]] W fun e w' =>
      (∃ a0 l0 p0 a1 l1 p1, e = .returned (.agg #[.slice a0 l0 p0, .slice a1 l1 p1]) ∧ Tv w' (.agg #[.slice a0 l0 p0, .slice a1 l1 p1]) (Tl.put t i z x) ∧ Far W.heap.size (.agg #[.slice a0 l0 p0, .slice a1 l1 p1])) ∧ Below W.heap.size W w' := by
  have HV := Lib.hid hV
  obtain ⟨c0, c1, rfl, hI, hK⟩ := hV
  have HWF := Lib.hid (And.intro hI.wf hK.oks)
  have HZX := Lib.hid (And.intro hz hx)
  have HA := Lib.hid (allocs_at [.cells #[c0, c1] 25, .cells #[.int .i64 x.nice, .int .u64 (x.mask : Int), .int .i64 x.lag] 52, .cells #[.slice none 0 0, .slice none 0 0] 25] W)
  have HB := Lib.hid (allocs_below W [.cells #[c0, c1] 25, .cells #[.int .i64 x.nice, .int .u64 (x.mask : Int), .int .i64 x.lag] 52, .cells #[.slice none 0 0, .slice none 0 0] 25])
  simp only [allocs] at HA HB
  obtain ⟨n, hn⟩ : ∃ n, t.ws.length = n := ⟨_, rfl⟩
  have HN := Lib.hid (And.intro hn (he.trans hn))
  rw [hn] at hi hl
  clear hn he hz hx
  have HI := Lib.hid hI
  have HK := Lib.hid hK
  obtain ⟨a0, p0, rfl, -⟩ := hI
  obtain ⟨a1, p1, rfl, -⟩ := hK
  go_enter Tryd.func51, Tryd.ntmps51
  go_upto_region 1 with fail
  generalize ((W.alloc _).alloc _).alloc _ = w1 at HA HB ⊢
  have h0 : Bt w1 W.heap.size _ _ := HA.out 0 _ rfl
  have h1 : Bk w1 (W.heap.size + 1) x := HA.out 1 _ rfl
  have h2 : Bt w1 (W.heap.size + 1 + 1) (.slice none 0 0) (.slice none 0 0) := HA.out 2 _ rfl
  have H1 := Lib.hid h1
  have H2 := Lib.hid h2
  have H0 := Lib.hid h0
  obtain ⟨x0, x1⟩ := h0.cells
  clear h0 h1 h2 HA
  have HI1 := Lib.hid (HI.out.below HB.out)
  have HK1 := Lib.hid (HK.out.below HB.out)
  go_upto_region 2 with (at_builtin; go_loud (refine wpList_append_ints (k := .u64) (bytes := 8) rfl (.const (.slice none 0 0)) (.tmp 12) 22 rfl w1.heap.size 28 Tryd.underlying22 info_u64 (by decide) [] t.ws (by simp [Act.eval]; exact Own.nil _ _ _ _) HI1.out (by rw [HN.out.1]; simp; omega) (Nat.le_refl _) ?_); intro v9 w2 ho2 hb2)
  have HO2 : Hid (w2.ownsRow w1.heap.size 28 1 v9 n (t.ws.map (Value.int .u64))) := Lib.hid (by have := ho2; unfold Own at this; rw [List.nil_append, HN.out.1] at this; exact this)
  have HB2 := Lib.hid hb2
  clear ho2 hb2 x0 x1
  have x1 := ((H0.out.below HB2.out).cells).2
  have HK2 := Lib.hid (HK1.out.below HB2.out)
  go_upto_region 3 with (at_builtin; go_loud (refine wpList_append_els encK rfl (.const (.slice none 0 0)) (.tmp 15) 23 rfl w2.heap.size 52 Tryd.underlying23 info_task rfl (by decide) [] t.ts (by simp [Act.eval]; exact OwnE.nil _ _ _) HK2.out (by rw [HN.out.2]; show (0 + n) * 3 ≤ _; omega) (by rw [HN.out.2]; simp; omega) (Nat.le_refl _) ?_); intro v10 w3 ho3 hb3)
  have HO3 : Hid (w3.ownsRow w2.heap.size 52 3 v10 n (cellsE encK t.ts)) := Lib.hid (by have := ho3; unfold OwnE at this; rw [List.nil_append, HN.out.2] at this; exact this)
  have HB3 := Lib.hid hb3
  clear ho3 hb3 x1
  obtain ⟨g, cap, rfl, hg1, hg2⟩ := own_at HO2.out (by omega)
  obtain ⟨g', cap', rfl, hg1', hg2'⟩ := own_at HO3.out (by omega)
  have hw1 : W.heap.size + 1 + 1 < w1.heap.size := H2.out.lt
  have hO3 := own_below HO2.out (HB3.out)
  have c0 : w3.cell? ⟨g, i, none⟩ = some (.int .u64 (t.ws.getD i 0)) := by
    rw [World.ownsRow.cellAt hO3 i (by omega), List.getElem?_map, List.getElem?_eq_getElem (by rw [HN.out.1]; exact hi), List.getD_eq_getElem?_getD, List.getElem?_eq_getElem (by rw [HN.out.1]; exact hi)]
    rfl
  have f0 := World.ownsRow.frozenAt hO3 i
  have HO4 : Hid ((w3.setCell ⟨g, i, none⟩ (.int .u64 z)).ownsRow w1.heap.size 28 1 (.slice (some ⟨g, 0, none⟩) n cap) n ((t.ws.set i z).map (Value.int .u64))) := Lib.hid (by
    have := (World.ownsRow.stored hO3 i (.int .u64 z)).1
    rw [List.map_set]; exact this)
  have HP4 := Lib.hid (own_off HO3.out (p := ⟨g, i, none⟩) (by show some g' ≠ some g; intro e; have := Option.some.inj e; omega) (.int .u64 z))
  have hbk : Bk (w3.setCell ⟨g, i, none⟩ (.int .u64 z)) (W.heap.size + 1) x := ((H1.out.below HB2.out).below HB3.out).other (show W.heap.size + 1 ≠ g by omega)
  have hbt : Bt (w3.setCell ⟨g, i, none⟩ (.int .u64 z)) (W.heap.size + 1 + 1) (.slice none 0 0) (.slice none 0 0) := ((H2.out.below HB2.out).below HB3.out).other (show W.heap.size + 1 + 1 ≠ g by omega)
  have hb4 : Below W.heap.size W (w3.setCell ⟨g, i, none⟩ (.int .u64 z)) := (((HB.out.trans (HB2.out.mono HB.out.size)).trans (HB3.out.mono (Nat.le_trans HB.out.size HB2.out.size))).setCell (p := ⟨g, i, none⟩) (show W.heap.size ≤ g by omega) _)
  have HBK := Lib.hid hbk
  have HBT := Lib.hid hbt
  have HB4 := Lib.hid hb4
  have HGG : Hid (W.heap.size + 1 + 1 < g ∧ W.heap.size + 1 + 1 < g' ∧ g ≠ g') := Lib.hid (by have := HB2.out.size; omega)
  clear hbk hbt hb4 hO3 HO2 HO3 HB2 HB3 HK2 HI1 HK1 H0 H1 H2 hg1 hg2 hg1' hg2' hw1 HB
  have hin : (i : Int) < (n : Int) := by omega
  go_upto_region 4 with fail
  generalize w3.setCell _ _ = w4 at HO4 HP4 HBK HBT HB4 ⊢
  obtain ⟨k0, k1, k2⟩ := HBK.out.cells
  obtain ⟨e0, e1, e2⟩ := task_at t.ts i (by rw [HN.out.2]; exact hi)
  have d0 := (World.ownsRow.cellAt HP4.out (i * 3) (by omega)).trans e0
  have d1 := (World.ownsRow.cellAt HP4.out (i * 3 + 1) (by omega)).trans e1
  have d2 := (World.ownsRow.cellAt HP4.out (i * 3 + 2) (by omega)).trans e2
  have g0 := World.ownsRow.frozenAt HP4.out (i * 3)
  have g1 := World.ownsRow.frozenAt HP4.out (i * 3 + 1)
  have g2 := World.ownsRow.frozenAt HP4.out (i * 3 + 2)
  have HP5 : Hid ((((w4.setCell ⟨g', i * 3, none⟩ (.int .i64 x.nice)).setCell ⟨g', i * 3 + 1, none⟩ (.int .u64 (x.mask : Int))).setCell ⟨g', i * 3 + 2, none⟩ (.int .i64 x.lag)).ownsRow w2.heap.size 52 3 (.slice (some ⟨g', 0, none⟩) n cap') n (cellsE encK (t.ts.set i x))) := Lib.hid (by
    rw [cellsE_set3 _ _ _ (by rw [HN.out.2]; exact hi)]
    exact (World.ownsRow.stored (World.ownsRow.stored (World.ownsRow.stored HP4.out (i * 3) (.int .i64 x.nice)).1 (i * 3 + 1) (.int .u64 (x.mask : Int))).1 (i * 3 + 2) (.int .i64 x.lag)).1)
  have HO5 := Lib.hid (own_off (own_off (own_off HO4.out (p := ⟨g', i * 3, none⟩) (by show some g ≠ some g'; intro e; exact HGG.out.2.2 (Option.some.inj e)) (.int .i64 x.nice)) (p := ⟨g', i * 3 + 1, none⟩) (by show some g ≠ some g'; intro e; exact HGG.out.2.2 (Option.some.inj e)) (.int .u64 (x.mask : Int))) (p := ⟨g', i * 3 + 2, none⟩) (by show some g ≠ some g'; intro e; exact HGG.out.2.2 (Option.some.inj e)) (.int .i64 x.lag))
  have HBT5 := Lib.hid (((HBT.out.other (p := ⟨g', i * 3, none⟩) (v := .int .i64 x.nice) (show W.heap.size + 1 + 1 ≠ g' by have := HGG.out.2.1; omega)).other (p := ⟨g', i * 3 + 1, none⟩) (v := .int .u64 (x.mask : Int)) (show W.heap.size + 1 + 1 ≠ g' by have := HGG.out.2.1; omega)).other (p := ⟨g', i * 3 + 2, none⟩) (v := .int .i64 x.lag) (show W.heap.size + 1 + 1 ≠ g' by have := HGG.out.2.1; omega))
  have HB5 := Lib.hid (((HB4.out.setCell (p := ⟨g', i * 3, none⟩) (show W.heap.size ≤ g' by have := HGG.out.2.1; omega) (.int .i64 x.nice)).setCell (p := ⟨g', i * 3 + 1, none⟩) (show W.heap.size ≤ g' by have := HGG.out.2.1; omega) (.int .u64 (x.mask : Int))).setCell (p := ⟨g', i * 3 + 2, none⟩) (show W.heap.size ≤ g' by have := HGG.out.2.1; omega) (.int .i64 x.lag))
  clear e0 e1 e2 HO4 HP4 HBK HBT HB4 c0 f0
  go_upto_region 5 with fail
  clear k0 k1 k2 d0 d1 d2 g0 g1 g2
  generalize ((w4.setCell _ _).setCell _ _).setCell _ _ = w5 at HP5 HO5 HBT5 HB5 ⊢
  obtain ⟨r0, r1⟩ := HBT5.out.cells
  have rf0 := HBT5.out.free 0
  have rf1 := HBT5.out.free 1
  have HS := Lib.hid (HBT5.out.set (.slice (some ⟨g, 0, none⟩) n cap) (.slice (some ⟨g', 0, none⟩) n cap'))
  have HF : Hid (Tv ((w5.setCell ⟨W.heap.size + 1 + 1, 0, none⟩ (.slice (some ⟨g, 0, none⟩) n cap)).setCell ⟨W.heap.size + 1 + 1, 1, none⟩ (.slice (some ⟨g', 0, none⟩) n cap')) (.agg #[.slice (some ⟨g, 0, none⟩) n cap, .slice (some ⟨g', 0, none⟩) n cap']) (Tl.put t i z x) ∧ Below W.heap.size W ((w5.setCell ⟨W.heap.size + 1 + 1, 0, none⟩ (.slice (some ⟨g, 0, none⟩) n cap)).setCell ⟨W.heap.size + 1 + 1, 1, none⟩ (.slice (some ⟨g', 0, none⟩) n cap'))) := Lib.hid (by
    refine ⟨⟨_, _, rfl, ?_, ?_⟩, (HB5.out.setCell (p := ⟨W.heap.size + 1 + 1, 0, none⟩) (show W.heap.size ≤ W.heap.size + 1 + 1 by omega) _).setCell (p := ⟨W.heap.size + 1 + 1, 1, none⟩) (show W.heap.size ≤ W.heap.size + 1 + 1 by omega) _⟩
    · have h := own_off (own_off HO5.out (p := ⟨W.heap.size + 1 + 1, 0, none⟩) (by show some g ≠ some (W.heap.size + 1 + 1); intro e; have := Option.some.inj e; have := HGG.out.1; omega) (.slice (some ⟨g, 0, none⟩) n cap)) (p := ⟨W.heap.size + 1 + 1, 1, none⟩) (by show some g ≠ some (W.heap.size + 1 + 1); intro e; have := Option.some.inj e; have := HGG.out.1; omega) (.slice (some ⟨g', 0, none⟩) n cap')
      exact ints_own h (wf_set HWF.out.1 HZX.out.1)
    · have h := own_off (own_off HP5.out (p := ⟨W.heap.size + 1 + 1, 0, none⟩) (by show some g' ≠ some (W.heap.size + 1 + 1); intro e; have := Option.some.inj e; have := HGG.out.2.1; omega) (.slice (some ⟨g, 0, none⟩) n cap)) (p := ⟨W.heap.size + 1 + 1, 1, none⟩) (by show some g' ≠ some (W.heap.size + 1 + 1); intro e; have := Option.some.inj e; have := HGG.out.2.1; omega) (.slice (some ⟨g', 0, none⟩) n cap')
      have h2 : OwnE encK ((w5.setCell ⟨W.heap.size + 1 + 1, 0, none⟩ (.slice (some ⟨g, 0, none⟩) n cap)).setCell ⟨W.heap.size + 1 + 1, 1, none⟩ (.slice (some ⟨g', 0, none⟩) n cap')) w2.heap.size 52 (.slice (some ⟨g', 0, none⟩) n cap') (t.ts.set i x) := by
        unfold OwnE
        rw [List.length_set, HN.out.2]
        exact h
      exact h2.els (ok_set HWF.out.2 HZX.out.2))
  clear HP5 HO5 HBT5 HB5
  go_wp2
  obtain ⟨q0, q1⟩ := HS.out.cells
  refine bodyPost_ret (v := .agg #[.slice (some ⟨g, 0, none⟩) n cap, .slice (some ⟨g', 0, none⟩) n cap']) (by simp [results, Tryd.results51, go_sem, q0, q1]) rfl ⟨⟨_, _, _, _, _, _, rfl, HF.out.1, ⟨_, _, _, _, _, _, rfl, (by intro q hq; cases hq; show W.heap.size ≤ g; have := HGG.out.1; omega), (by intro q hq; cases hq; show W.heap.size ≤ g'; have := HGG.out.2.1; omega)⟩⟩, HF.out.2⟩
theorem rwith_any (t : Tl.T) (i : Nat) (z : Int) (x : Tl.Tk) (v : Value) (W : World) (hV : Tv W v t) (hi : i < t.ws.length) (hl : t.ws.length ≤ 64) (he : t.ts.length = t.ws.length) (hz : (Lit.int .u64 z).wf = true) (hx : encK.ok x) :
    Calls Tryd.prog 51 #[v, .int .i64 i, .int .u64 z, .agg #[.int .i64 x.nice, .int .u64 (x.mask : Int), .int .i64 x.lag]] W fun e w' =>
      (∃ a0 l0 p0 a1 l1 p1, e = .returned (.agg #[.slice a0 l0 p0, .slice a1 l1 p1]) ∧ Tv w' (.agg #[.slice a0 l0 p0, .slice a1 l1 p1]) (Tl.put t i z x)) ∧ Below W.heap.size W w' :=
  (rwith_far t i z x v W hV hi hl he hz hx).mono fun _ _ ⟨⟨a0, l0, p0, a1, l1, p1, h1, h2, _⟩, hb⟩ => ⟨⟨a0, l0, p0, a1, l1, p1, h1, h2⟩, hb⟩
end Go.Proofs.YtjikabalpejmlaaDoor
