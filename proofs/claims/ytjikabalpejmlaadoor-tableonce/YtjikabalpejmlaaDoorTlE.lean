/-
  Layer 14's copied.
-/
import Derived.Test.YtjikabalpejmlaaDoorTlD
import Derived.Laws.MakeOwn
import Derived.Deep.DeepCutAuto
namespace Go.Proofs.YtjikabalpejmlaaDoor
open Go.RowKit Go.Deep Pk Lf
open Mk (V allM cpus fstI anyB)

theorem info_u64 : (Tryd.prog.info? 28).map (fun i => (i.zero, i.size, i.bytes)) = some (some (.int .u64 0), 1, 8) := by kernel_rfl
theorem info_task : (Tryd.prog.info? 52).map (fun i => (i.zero, i.size, i.bytes)) = some (some (.agg #[.int .i64 0, .int .u64 0, .int .i64 0]), 3, 24) := by kernel_rfl
theorem zeros_w (l : Nat) : madeCells (Value.cells (.int .u64 0)) (l * 1) = Array.replicate l (.int .u64 0) := by
  rw [Nat.mul_one]
  have h := toList_madeCells_one (.int .u64 0) l
  exact Array.ext' (h.trans (by simp))
theorem zeros_t (l : Nat) : madeCells (Value.cells (.agg #[.int .i64 0, .int .u64 0, .int .i64 0])) (l * 3) = (cellsE encK (List.replicate l Tl.k0)).toArray := by
  apply Array.ext'
  apply List.ext_getElem?
  intro j
  by_cases hj : j < l * 3
  · have h1 := cellsE_at (E := encK) (List.replicate l Tl.k0) (j / 3) (by simp; omega) (j % 3) (Nat.mod_lt _ (by decide))
    have e : (List.replicate l Tl.k0).getD (j / 3) encK.d = Tl.k0 := by
      rw [List.getD_eq_getElem?_getD, List.getElem?_replicate]
      split <;> rfl
    rw [e] at h1
    have e2 : j / 3 * encK.n + j % 3 = j := by show j / 3 * 3 + j % 3 = j; omega
    rw [e2] at h1
    rw [show (cellsE encK (List.replicate l Tl.k0)).toArray.toList = cellsE encK (List.replicate l Tl.k0) from rfl, h1]
    rcases (show j % 3 = 0 ∨ j % 3 = 1 ∨ j % 3 = 2 by omega) with h | h | h <;> rw [h] <;> simp [madeCells, Value.cells, hj, h, encK, Tl.k0]
  · rw [List.getElem?_eq_none (by simp [madeCells]; omega), List.getElem?_eq_none (by show (cellsE encK _).length ≤ j; rw [cellsE_length]; show _ * 3 ≤ _; simp; omega)]

/-- Rows in a box. -/
def Br (w : World) (n : Nat) (a b : Value) : Prop := w.heap[n]? = some (.cells #[a, b] 66)
section
variable {w w' : World} {n : Nat} {a b : Value}
theorem Br.new (w : World) (a b : Value) : Br (w.alloc (.cells #[a, b] 66)) w.heap.size a b := heap_alloc_new w _
theorem Br.lt (h : Br w n a b) : n < w.heap.size := (Array.getElem?_eq_some_iff.1 h).1
theorem Br.below (h : Br w n a b) (hb : Below w.heap.size w w') : Br w' n a b := (hb.block n h.lt).trans h
theorem Br.other (h : Br w n a b) {p : Addr} {v : Value} (hne : n ≠ p.block) : Br (w.setCell p v) n a b := (Below.heap_setCell _ _ _ _ hne).trans h
theorem Br.cells (h : Br w n a b) : w.cell? ⟨n, 0, none⟩ = some a ∧ w.cell? ⟨n, 1, none⟩ = some b := by
  refine ⟨?_, ?_⟩ <;> simp [World.cell?, show w.heap[n]? = _ from h]
theorem Br.free (h : Br w n a b) (i : Nat) : w.frozen? ⟨n, i, none⟩ = false := by simp [World.frozen?, show w.heap[n]? = _ from h]
theorem Br.set (h : Br w n a b) (x y : Value) : Br ((w.setCell ⟨n, 0, none⟩ x).setCell ⟨n, 1, none⟩ y) n x y := by
  have h0 := heap_setCell_same w n 0 _ _ x h
  have h1 := heap_setCell_same _ n 1 _ _ y h0
  unfold Br
  rw [h1]; rfl
end
structure Cp (W wx : World) (l n0 n1 b : Nat) (ws : List Int) (ts : List Tl.Tk) : Prop where
  w : Wd wx n0 ws
  t : Td wx n1 ts
  bx : Br wx b (.slice (some ⟨n0, 0, none⟩) l l) (.slice (some ⟨n1, 0, none⟩) l l)
  res : Br wx W.heap.size (.slice none 0 0) (.slice none 0 0)
  ne : n0 ≠ n1 ∧ n0 ≠ b ∧ n1 ≠ b
  ge : W.heap.size < n0 ∧ W.heap.size < n1 ∧ W.heap.size < b
  bel : Below W.heap.size W wx
theorem Cp.of {W w : World} {l n0 n1 b : Nat} (h0 : w.heap[n0]? = some (.cells (Array.replicate l (.int .u64 0)) 28)) (h1 : Td w n1 (List.replicate l Tl.k0)) (hb : Br w b (.slice (some ⟨n0, 0, none⟩) l l) (.slice (some ⟨n1, 0, none⟩) l l)) (hr : Br w W.heap.size (.slice none 0 0) (.slice none 0 0))
    (ne : n0 ≠ n1 ∧ n0 ≠ b ∧ n1 ≠ b) (ge : W.heap.size < n0 ∧ W.heap.size < n1 ∧ W.heap.size < b) (bel : Below W.heap.size W w) : Cp W w.drew l n0 n1 b (List.replicate l 0) (List.replicate l Tl.k0) :=
  ⟨by
    show w.heap[n0]? = _
    rw [h0]
    simp, h1, hb, hr, ne, ge, bel.drew⟩
theorem Cp.putW {W wx : World} {l n0 n1 b : Nat} {ws0 : List Int} {ts : List Tl.Tk} (h : Cp W wx l n0 n1 b ws0 ts) (ws : List Int) (hl : ws.length = ws0.length) : Cp W (wx.setCells n0 0 (ws.map (Value.int .u64))) l n0 n1 b ws ts :=
  ⟨by
    have := setCells_block (b := n0) (t := 28) (ws.map (Value.int .u64)) [] (ws0.map (Value.int .u64)) wx (by simp [hl]) h.w
    exact this, (setCells_other _ _ _ _ _ (Ne.symm h.ne.1)).trans h.t, (setCells_other _ _ _ _ _ (Ne.symm h.ne.2.1)).trans h.bx, (setCells_other _ _ _ _ _ (by have := h.ge.1; omega)).trans h.res, h.ne, h.ge, below_setCells h.bel (by have := h.ge.1; omega) _ _⟩
theorem Cp.putT {W wx : World} {l n0 n1 b : Nat} {ws : List Int} {ts0 : List Tl.Tk} (h : Cp W wx l n0 n1 b ws ts0) (ts : List Tl.Tk) (hl : ts.length = ts0.length) : Cp W (wx.setCells n1 0 (cellsE encK ts)) l n0 n1 b ws ts :=
  ⟨(setCells_other _ _ _ _ _ h.ne.1).trans h.w, by
    have := setCells_block (b := n1) (t := 52) (cellsE encK ts) [] (cellsE encK ts0) wx (by rw [cellsE_length, cellsE_length, hl]) h.t
    exact this, (setCells_other _ _ _ _ _ (Ne.symm h.ne.2.2)).trans h.bx, (setCells_other _ _ _ _ _ (by have := h.ge.2.1; omega)).trans h.res, h.ne, h.ge, below_setCells h.bel (by have := h.ge.2.1; omega) _ _⟩
theorem sz_alloc (w : World) (o : Obj) : (w.alloc o).heap.size = w.heap.size + 1 := by simp
theorem three (W : World) (r a b c : Obj) : ((((W.alloc r).alloc a).alloc b).alloc c).heap[W.heap.size]? = some r ∧ ((((W.alloc r).alloc a).alloc b).alloc c).heap[W.heap.size + 1]? = some a ∧
    ((((W.alloc r).alloc a).alloc b).alloc c).heap[W.heap.size + 1 + 1]? = some b ∧ ((((W.alloc r).alloc a).alloc b).alloc c).heap[W.heap.size + 1 + 1 + 1]? = some c ∧ Below W.heap.size W ((((W.alloc r).alloc a).alloc b).alloc c) := by
  have h0 := heap_alloc_new W r
  have h1 := heap_alloc_new (W.alloc r) a
  have h2 := heap_alloc_new ((W.alloc r).alloc a) b
  have h3 := heap_alloc_new (((W.alloc r).alloc a).alloc b) c
  simp only [sz_alloc] at h1 h2 h3
  refine ⟨?_, ?_, ?_, h3, ((((Below.refl _ _).alloc (Nat.le_refl _) _).alloc (by simp) _).alloc (by simp; omega) _).alloc (by simp; omega) _⟩
  · rw [Below.heap_alloc _ _ _ (by simp only [sz_alloc]; omega), Below.heap_alloc _ _ _ (by simp only [sz_alloc]; omega), Below.heap_alloc _ _ _ (by simp only [sz_alloc]; omega)]
    exact h0
  · rw [Below.heap_alloc _ _ _ (by simp only [sz_alloc]; omega), Below.heap_alloc _ _ _ (by simp only [sz_alloc]; omega)]
    exact h1
  · rw [Below.heap_alloc _ _ _ (by simp only [sz_alloc]; omega)]
    exact h2
theorem words_src {W : World} {a0 : Option Addr} {l p0 : Nat} {ws : List Int} (hl : ws.length = l) (h : Ints .u64 W (.slice a0 l p0) ws) (Y : World) (hY : Below W.heap.size W Y) (hne : l ≠ 0) :
    ∃ a, a0 = some a ∧ ∀ j v, (ws.map (Value.int .u64))[j]? = some v → Y.cell? (a.add j) = some v := by
  rcases h.parts with ⟨e, -⟩ | ⟨-, -, b, off, cap', hv, hb, hc⟩
  · rw [e] at hl; simp at hl; omega
  simp only [Value.slice.injEq] at hv
  obtain ⟨rfl, -, rfl⟩ := hv
  refine ⟨_, rfl, fun j v hj => ?_⟩
  have hjl : j < ws.length := by
    have := (List.getElem?_eq_some_iff.1 hj).1
    simpa using this
  rw [Go.WideShapes.add_plain, hY.cell (p := ⟨b, off + j, none⟩) hb, hc j hjl, ← hj]
  simp [hjl]
theorem tasks_src {W : World} {a0 : Option Addr} {l p0 : Nat} {ts : List Tl.Tk} (hl : ts.length = l) (h : Ks W (.slice a0 l p0) ts) (Y : World) (hY : Below W.heap.size W Y) (hne : l ≠ 0) :
    ∃ a, a0 = some a ∧ ∀ j v, (cellsE encK ts)[j]? = some v → Y.cell? (a.add j) = some v := by
  rcases Els.parts h with ⟨e, -⟩ | ⟨-, b, off, cap', hv, -, hb, hc⟩
  · rw [e] at hl; simp at hl; omega
  simp only [Value.slice.injEq] at hv
  obtain ⟨rfl, -, rfl⟩ := hv
  refine ⟨_, rfl, fun j v hj => ?_⟩
  have hjl : j < ts.length * 3 := by
    have := (List.getElem?_eq_some_iff.1 hj).1
    rw [cellsE_length] at this
    exact this
  have h1 := cellsE_at (E := encK) ts (j / 3) (by omega) (j % 3) (Nat.mod_lt _ (by decide))
  have h2 := hc (j / 3) (by omega) (j % 3) (Nat.mod_lt _ (by decide))
  have e2 : j / 3 * encK.n + j % 3 = j := by show j / 3 * 3 + j % 3 = j; omega
  rw [e2] at h1
  rw [show off + j / 3 * encK.n + j % 3 = off + j by rw [Nat.add_assoc, e2]] at h2
  rw [Go.WideShapes.add_plain, hY.cell (p := ⟨b, off + j, none⟩) hb, h2, ← h1, hj]
set_option maxHeartbeats 4000000 in
set_option maxRecDepth 100000 in
theorem copied_any (t : Tl.T) (W : World) (c0 c1 : Value) (hI : Ints .u64 W c0 t.ws) (hK : Ks W c1 t.ts) (hl : t.ws.length ≤ 64) (he : t.ts.length = t.ws.length) :
    Calls Tryd.prog 53 #[c0, c1] W fun e w' => ∃ n0 n1, e = .returned (.agg #[.slice (some ⟨n0, 0, none⟩) t.ws.length t.ws.length, .slice (some ⟨n1, 0, none⟩) t.ws.length t.ws.length]) ∧ Wd w' n0 t.ws ∧ Td w' n1 t.ts ∧ n0 ≠ n1 ∧ W.heap.size ≤ n0 ∧ W.heap.size ≤ n1 ∧ Below W.heap.size W w' := by
  obtain ⟨l, hll⟩ : ∃ l, t.ws.length = l := ⟨_, rfl⟩
  have HI := Lib.hid hI
  have HK := Lib.hid hK
  have HL := Lib.hid (And.intro hll (he.trans hll))
  obtain ⟨a0, p0, rfl, -, -, -⟩ := hI
  obtain ⟨a1, p1, rfl, -, -, -⟩ := hK
  rw [he] at HK ⊢
  rw [hll] at hl HI HK ⊢
  have hmk0 : ∀ w : World, (Instr.makeSlice 22 (.int .i64 l) (.int .i64 l)).run Tryd.prog w = .ok (.slice (some ⟨w.heap.size, 0, none⟩) l l) (w.alloc (.cells (Array.replicate l (.int .u64 0)) 28)) := fun w => by
    obtain ⟨i, hi, hz, hs1, hs2⟩ := info_parts info_u64
    have := run_make w 22 28 i _ Tryd.underlying22 hi hz .i64 .i64 l l (by omega) (by omega) (by rw [hs2]; omega) (by omega)
    rw [hs1, Int.toNat_natCast, zeros_w] at this
    exact this
  have hmk1 : ∀ w : World, (Instr.makeSlice 23 (.int .i64 l) (.int .i64 l)).run Tryd.prog w = .ok (.slice (some ⟨w.heap.size, 0, none⟩) l l) (w.alloc (.cells (cellsE encK (List.replicate l Tl.k0)).toArray 52)) := fun w => by
    obtain ⟨i, hi, hz, hs1, hs2⟩ := info_parts info_task
    have := run_make w 23 52 i _ Tryd.underlying23 hi hz .i64 .i64 l l (by omega) (by omega) (by rw [hs2]; omega) (by omega)
    rw [hs1, Int.toNat_natCast, zeros_t] at this
    exact this
  clear hll he
  go_enter Tryd.func53, Tryd.ntmps53
  go_upto_region 1 with fail
  go_cut [5] (fun p wx => ∃ n0 n1 b : Nat, p = .pointer (some ⟨b, 0, none⟩) ∧ Hid (Cp W wx l n0 n1 b (List.replicate l 0) (List.replicate l Tl.k0)))
  case first =>
    go_region
    all_goals
      go_wp2_with fail
      go_meet
      have H3 := three W
      first
        | exact ⟨W.heap.size + 1, W.heap.size + 1 + 1, W.heap.size + 1 + 1 + 1, rfl, Lib.hid (Cp.of (H3 _ _ _ _).2.1 (H3 _ _ _ _).2.2.1 (H3 _ _ _ _).2.2.2.1 (H3 _ _ _ _).1 ⟨by omega, by omega, by omega⟩ ⟨by omega, by omega, by omega⟩ (H3 _ _ _ _).2.2.2.2)⟩
        | exact ⟨W.heap.size + 1, W.heap.size + 1 + 1 + 1, W.heap.size + 1 + 1, rfl, Lib.hid (Cp.of (H3 _ _ _ _).2.1 (H3 _ _ _ _).2.2.2.1 (H3 _ _ _ _).2.2.1 (H3 _ _ _ _).1 ⟨by omega, by omega, by omega⟩ ⟨by omega, by omega, by omega⟩ (H3 _ _ _ _).2.2.2.2)⟩
        | exact ⟨W.heap.size + 1 + 1, W.heap.size + 1, W.heap.size + 1 + 1 + 1, rfl, Lib.hid (Cp.of (H3 _ _ _ _).2.2.1 (H3 _ _ _ _).2.1 (H3 _ _ _ _).2.2.2.1 (H3 _ _ _ _).1 ⟨by omega, by omega, by omega⟩ ⟨by omega, by omega, by omega⟩ (H3 _ _ _ _).2.2.2.2)⟩
        | exact ⟨W.heap.size + 1 + 1, W.heap.size + 1 + 1 + 1, W.heap.size + 1, rfl, Lib.hid (Cp.of (H3 _ _ _ _).2.2.1 (H3 _ _ _ _).2.2.2.1 (H3 _ _ _ _).2.1 (H3 _ _ _ _).1 ⟨by omega, by omega, by omega⟩ ⟨by omega, by omega, by omega⟩ (H3 _ _ _ _).2.2.2.2)⟩
        | exact ⟨W.heap.size + 1 + 1 + 1, W.heap.size + 1, W.heap.size + 1 + 1, rfl, Lib.hid (Cp.of (H3 _ _ _ _).2.2.2.1 (H3 _ _ _ _).2.1 (H3 _ _ _ _).2.2.1 (H3 _ _ _ _).1 ⟨by omega, by omega, by omega⟩ ⟨by omega, by omega, by omega⟩ (H3 _ _ _ _).2.2.2.2)⟩
        | exact ⟨W.heap.size + 1 + 1 + 1, W.heap.size + 1 + 1, W.heap.size + 1, rfl, Lib.hid (Cp.of (H3 _ _ _ _).2.2.2.1 (H3 _ _ _ _).2.2.1 (H3 _ _ _ _).2.1 (H3 _ _ _ _).1 ⟨by omega, by omega, by omega⟩ ⟨by omega, by omega, by omega⟩ (H3 _ _ _ _).2.2.2.2)⟩
  case rest =>
    obtain ⟨n0, n1, b, rfl, HC⟩ := hcut
    clear hmk0 hmk1
    obtain ⟨x0, x1⟩ := HC.out.bx.cells
    have HC2 := Lib.hid (HC.out.putW t.ws (by rw [List.length_replicate]; exact HL.out.1))
    have HC3 := Lib.hid (HC2.out.putT t.ts (by rw [List.length_replicate]; exact HL.out.2))
    have HS0 := Lib.hid (words_src HL.out.1 HI.out wc HC.out.bel)
    have HS1 := Lib.hid (tasks_src HL.out.2 HK.out _ HC2.out.bel)
    have HH0 := Lib.hid HC.out.w
    have HH1 := Lib.hid HC2.out.t
    obtain ⟨y0, y1⟩ := HC2.out.bx.cells
    obtain ⟨z0, z1⟩ := HC3.out.bx.cells
    obtain ⟨r0, r1⟩ := HC3.out.res.cells
    have rf := HC3.out.res.free
    have rf0 := rf 0
    have rf1 := rf 1
    have HE : Hid (∃ w', w' = (((wc.setCells n0 0 (t.ws.map (Value.int .u64))).setCells n1 0 (cellsE encK t.ts)).setCell ⟨W.heap.size, 0, none⟩ (.slice (some ⟨n0, 0, none⟩) l l)).setCell ⟨W.heap.size, 1, none⟩ (.slice (some ⟨n1, 0, none⟩) l l) ∧ Br w' W.heap.size (.slice (some ⟨n0, 0, none⟩) l l) (.slice (some ⟨n1, 0, none⟩) l l) ∧ Wd w' n0 t.ws ∧ Td w' n1 t.ts ∧ Below W.heap.size W w') := Lib.hid
      ⟨_, rfl, HC3.out.res.set _ _, (HC3.out.w.other (a := ⟨W.heap.size, 0, none⟩) (by show n0 ≠ W.heap.size; have := HC.out.ge.1; omega)).other (a := ⟨W.heap.size, 1, none⟩) (by show n0 ≠ W.heap.size; have := HC.out.ge.1; omega), (HC3.out.t.other (a := ⟨W.heap.size, 0, none⟩) (by show n1 ≠ W.heap.size; have := HC.out.ge.2.1; omega)).other (a := ⟨W.heap.size, 1, none⟩) (by show n1 ≠ W.heap.size; have := HC.out.ge.2.1; omega), (HC3.out.bel.setCell (p := ⟨W.heap.size, 0, none⟩) (Nat.le_refl _) _).setCell (p := ⟨W.heap.size, 1, none⟩) (Nat.le_refl _) _⟩
    have HX := Lib.hid (And.intro HC.out.ne HC.out.ge)
    clear HC HC2 HC3 rf
    go_wp2_with (refine wpList_copy_of _ rfl (.tmp 14) (.tmp 15) 22 22 rfl (.slice (some ⟨n0, 0, none⟩) l l) (.slice a0 l p0) rfl rfl (run_copy_all _ _ _ _ 28 28 1 n0 l _ _ _ _ (t.ws.map (Value.int .u64)) Tryd.underlying22 (by kernel_rfl) (by simp [HL.out.1]) HH0.out (by simp) HS0.out (by simp [Value.oneCell'])) (fun r => ?_))
    generalize wc.setCells n0 0 (t.ws.map (Value.int .u64)) = w2 at HH1 y0 y1 z0 z1 r0 r1 rf0 rf1 HE HS1 ⊢
    obtain ⟨r2, hr2⟩ := @run_copy_all Tryd.prog w2 23 23 3 52 52 3 n1 l l p1 a1 _ (cellsE encK t.ts) Tryd.underlying23 (by kernel_rfl) (by rw [cellsE_length, HL.out.2]; rfl) HH1.out (by rw [List.size_toArray, cellsE_length, List.length_replicate]; rfl) HS1.out (cellsE_one t.ts)
    generalize w2.setCells n1 0 (cellsE encK t.ts) = w3 at hr2 z0 z1 r0 r1 rf0 rf1 HE
    go_wp2
    rw [hr2]
    go_wp2
    obtain ⟨w', e, hr, h1, h2, h3⟩ := HE.out
    rw [← e]
    obtain ⟨q0, q1⟩ := hr.cells
    refine bodyPost_ret (v := .agg #[.slice (some ⟨n0, 0, none⟩) l l, .slice (some ⟨n1, 0, none⟩) l l]) (by simp [results, Tryd.results53, go_sem, q0, q1]) rfl ⟨n0, n1, rfl, h1, h2, HX.out.1.1, by have := HX.out.2.1; omega, by have := HX.out.2.2.1; omega, h3⟩
end Go.Proofs.YtjikabalpejmlaaDoor
