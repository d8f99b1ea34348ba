/-
  Layer 14's rows at work: two blocks that may be written into; contracts of at, pass and copied.
-/
import Derived.Test.YtjikabalpejmlaaDoorTlC
import Derived.Test.YtjikabalpejmlaaDoorSlC
namespace Go.Proofs.YtjikabalpejmlaaDoor
open Go.RowKit Go.Deep Pk Lf
open Mk (V allM cpus fstI anyB)

/-- The words, the tasks, lie in the block n. -/
def Wd (w : World) (n : Nat) (ws : List Int) : Prop := w.heap[n]? = some (.cells (ws.map (Value.int .u64)).toArray 28)
def Td (w : World) (n : Nat) (ts : List Tl.Tk) : Prop := w.heap[n]? = some (.cells (cellsE encK ts).toArray 52)
section
variable {w w' : World} {n : Nat} {ws : List Int} {ts : List Tl.Tk}
theorem Wd.lt (h : Wd w n ws) : n < w.heap.size := (Array.getElem?_eq_some_iff.1 h).1
theorem Td.lt (h : Td w n ts) : n < w.heap.size := (Array.getElem?_eq_some_iff.1 h).1
theorem Wd.below (h : Wd w n ws) (hb : Below w.heap.size w w') : Wd w' n ws := (hb.block n h.lt).trans h
theorem Td.below (h : Td w n ts) (hb : Below w.heap.size w w') : Td w' n ts := (hb.block n h.lt).trans h
theorem Wd.other (h : Wd w n ws) {a : Addr} {v : Value} (hne : n ≠ a.block) : Wd (w.setCell a v) n ws := (Below.heap_setCell _ _ _ _ hne).trans h
theorem Td.other (h : Td w n ts) {a : Addr} {v : Value} (hne : n ≠ a.block) : Td (w.setCell a v) n ts := (Below.heap_setCell _ _ _ _ hne).trans h
theorem Wd.cell (h : Wd w n ws) {i : Nat} (hi : i < ws.length) : w.cell? ⟨n, i, none⟩ = some (.int .u64 (ws.getD i 0)) := by
  simp only [World.cell?, show w.heap[n]? = _ from h]
  simp [hi]
theorem Wd.free (h : Wd w n ws) (i : Nat) : w.frozen? ⟨n, i, none⟩ = false := by simp [World.frozen?, show w.heap[n]? = _ from h]
theorem Td.free (h : Td w n ts) (i : Nat) : w.frozen? ⟨n, i, none⟩ = false := by simp [World.frozen?, show w.heap[n]? = _ from h]
theorem Td.cell (h : Td w n ts) {i : Nat} (hi : i < ts.length) :
    w.cell? ⟨n, i * 3, none⟩ = some (.int .i64 (ts.getD i Tl.k0).nice) ∧ w.cell? ⟨n, i * 3 + 1, none⟩ = some (.int .u64 ((ts.getD i Tl.k0).mask : Int)) ∧ w.cell? ⟨n, i * 3 + 2, none⟩ = some (.int .i64 (ts.getD i Tl.k0).lag) := by
  have h0 := cellsE_at (E := encK) ts i hi 0 (by decide)
  have h1 := cellsE_at (E := encK) ts i hi 1 (by decide)
  have h2 := cellsE_at (E := encK) ts i hi 2 (by decide)
  refine ⟨?_, ?_, ?_⟩ <;> simp only [World.cell?, show w.heap[n]? = _ from h]
  all_goals simp only [Option.isSome_none, Bool.false_eq_true, if_false, List.getElem?_toArray]
  · exact h0
  · exact h1
  · exact h2
theorem Wd.set (h : Wd w n ws) (i : Nat) (z : Int) : Wd (w.setCell ⟨n, i, none⟩ (.int .u64 z)) n (ws.set i z) := by
  have := heap_setCell_same w n i _ 28 (.int .u64 z) h
  unfold Wd
  rw [this, List.map_set]
  simp
theorem cellsE_set3 (ts : List Tl.Tk) (i : Nat) (x : Tl.Tk) (hi : i < ts.length) :
    cellsE encK (ts.set i x) = (((cellsE encK ts).set (i * 3) (.int .i64 x.nice)).set (i * 3 + 1) (.int .u64 (x.mask : Int))).set (i * 3 + 2) (.int .i64 x.lag) := by
  induction ts generalizing i with
  | nil => simp at hi
  | cons y ts ih =>
    cases i with
    | zero => rfl
    | succ i =>
      have e : cellsE encK (y :: ts) = encK.f y ++ cellsE encK ts := rfl
      have e2 : cellsE encK ((y :: ts).set (i + 1) x) = encK.f y ++ cellsE encK (ts.set i x) := rfl
      rw [e, e2, ih i (by simpa using hi)]
      have hl : (encK.f y).length = 3 := rfl
      rw [List.set_append_right _ _ (by omega), List.set_append_right _ _ (by omega), List.set_append_right _ _ (by omega), hl]
      rw [show (i + 1) * 3 - 3 = i * 3 by omega, show (i + 1) * 3 + 1 - 3 = i * 3 + 1 by omega, show (i + 1) * 3 + 2 - 3 = i * 3 + 2 by omega]
theorem Td.set (h : Td w n ts) {i : Nat} (hi : i < ts.length) (x : Tl.Tk) :
    Td (((w.setCell ⟨n, i * 3, none⟩ (.int .i64 x.nice)).setCell ⟨n, i * 3 + 1, none⟩ (.int .u64 (x.mask : Int))).setCell ⟨n, i * 3 + 2, none⟩ (.int .i64 x.lag)) n (ts.set i x) := by
  have h0 := heap_setCell_same w n (i * 3) _ 52 (.int .i64 x.nice) h
  have h1 := heap_setCell_same _ n (i * 3 + 1) _ 52 (.int .u64 (x.mask : Int)) h0
  have h2 := heap_setCell_same _ n (i * 3 + 2) _ 52 (.int .i64 x.lag) h1
  unfold Td
  rw [h2, cellsE_set3 ts i x hi]
  simp
theorem Wd.ints (h : Wd w n ws) (hw : ∀ z ∈ ws, (Lit.int .u64 z).wf = true) (hl : ws.length ≤ 64) {m cap : Nat} (hm : m = ws.length) : Ints .u64 w (.slice (some ⟨n, 0, none⟩) m cap) ws := by
  subst hm
  exact ⟨_, cap, rfl, by unfold maxLen; omega, hw, fun _ => ⟨n, 0, rfl, fun i hi => by rw [Nat.zero_add]; exact h.cell hi⟩⟩
theorem Td.els (h : Td w n ts) (hw : ∀ x ∈ ts, encK.ok x) (hl : ts.length ≤ 64) {m : Nat} (hm : m = ts.length) : Ks w (.slice (some ⟨n, 0, none⟩) m m) ts := by
  subst hm
  refine ⟨_, _, rfl, ⟨Nat.le_refl _, by unfold maxLen; omega⟩, hw, fun _ => ⟨n, 0, rfl, fun i hi j hj => ?_⟩⟩
  have hj3 : j < 3 := hj
  obtain ⟨a, b, c⟩ := h.cell hi
  rcases (show j = 0 ∨ j = 1 ∨ j = 2 by omega) with rfl | rfl | rfl
  · show w.cell? ⟨n, 0 + i * 3 + 0, none⟩ = _
    rw [Nat.zero_add, Nat.add_zero, a]; rfl
  · show w.cell? ⟨n, 0 + i * 3 + 1, none⟩ = _
    rw [Nat.zero_add, b]; rfl
  · show w.cell? ⟨n, 0 + i * 3 + 2, none⟩ = _
    rw [Nat.zero_add, c]; rfl
end

/-! ### at -/
set_option maxHeartbeats 1000000 in
theorem at_yes (X : World) (n0 n1 l : Nat) (i : Nat) (hi : i < l) :
    Calls Tryd.prog 41 #[.agg #[.slice (some ⟨n0, 0, none⟩) l l, .slice (some ⟨n1, 0, none⟩) l l], .int .i64 i] X fun e w' => e = .returned (.tuple #[.pointer (some ⟨n0, i, none⟩), .pointer (some ⟨n1, i * 3, none⟩)]) ∧ Below X.heap.size X w' := by
  have HB := Lib.hid ((Below.refl X.heap.size X).alloc (Nat.le_refl _) (.cells #[.slice (some ⟨n0, 0, none⟩) l l, .slice (some ⟨n1, 0, none⟩) l l] 66))
  have hh : (X.alloc (.cells #[.slice (some ⟨n0, 0, none⟩) l l, .slice (some ⟨n1, 0, none⟩) l l] 66)).heap[X.heap.size]? = some (.cells #[.slice (some ⟨n0, 0, none⟩) l l, .slice (some ⟨n1, 0, none⟩) l l] 66) := heap_alloc_new X _
  have x0 : (X.alloc (.cells #[.slice (some ⟨n0, 0, none⟩) l l, .slice (some ⟨n1, 0, none⟩) l l] 66)).cell? ⟨X.heap.size, 0, none⟩ = some (.slice (some ⟨n0, 0, none⟩) l l) := by simp only [World.cell?, hh]; rfl
  have x1 : (X.alloc (.cells #[.slice (some ⟨n0, 0, none⟩) l l, .slice (some ⟨n1, 0, none⟩) l l] 66)).cell? ⟨X.heap.size, 1, none⟩ = some (.slice (some ⟨n1, 0, none⟩) l l) := by simp only [World.cell?, hh]; rfl
  clear hh
  go_enter Tryd.func41, Tryd.ntmps41
  go_upto_region 1 with fail
  generalize X.alloc _ = w1 at HB x0 x1 ⊢
  have hd : decide ((0 : Int) ≤ (i : Int)) = true := decide_eq_true (by omega)
  have hd1 : decide ((i : Int) < (l : Int)) = true := decide_eq_true (by omega)
  go_wp2_with fail
  refine (need_yes _ _).mono ?_
  rintro e' w' ⟨rfl, rfl⟩
  have f0 : ∀ n, (w1.drewN n).cell? ⟨X.heap.size, 0, none⟩ = some (.slice (some ⟨n0, 0, none⟩) l l) := fun n => x0
  have f1 : ∀ n, (w1.drewN n).cell? ⟨X.heap.size, 1, none⟩ = some (.slice (some ⟨n1, 0, none⟩) l l) := fun n => x1
  go_wp2_with fail
  go_quiet (fail)
  go_wp2
  go_ret2
  exact ⟨rfl, below_drewN HB.out _⟩
theorem at_no (X : World) (n0 n1 l : Nat) (s : Int) (hi : ¬ (0 ≤ s ∧ s < l)) :
    Calls Tryd.prog 41 #[.agg #[.slice (some ⟨n0, 0, none⟩) l l, .slice (some ⟨n1, 0, none⟩) l l], .int .i64 s] X fun e w' => e = .panicked [{ v := .iface 86 (.int .i64 1), recovered := false }] ∧ Below X.heap.size X w' := by
  have HB := Lib.hid ((Below.refl X.heap.size X).alloc (Nat.le_refl _) (.cells #[.slice (some ⟨n0, 0, none⟩) l l, .slice (some ⟨n1, 0, none⟩) l l] 66))
  have hh : (X.alloc (.cells #[.slice (some ⟨n0, 0, none⟩) l l, .slice (some ⟨n1, 0, none⟩) l l] 66)).heap[X.heap.size]? = some (.cells #[.slice (some ⟨n0, 0, none⟩) l l, .slice (some ⟨n1, 0, none⟩) l l] 66) := heap_alloc_new X _
  have x0 : (X.alloc (.cells #[.slice (some ⟨n0, 0, none⟩) l l, .slice (some ⟨n1, 0, none⟩) l l] 66)).cell? ⟨X.heap.size, 0, none⟩ = some (.slice (some ⟨n0, 0, none⟩) l l) := by simp only [World.cell?, hh]; rfl
  clear hh
  by_cases h0 : 0 ≤ s
  · have hd1 : decide (s < (l : Int)) = false := decide_eq_false (by omega)
    go_enter Tryd.func41, Tryd.ntmps41
    go_upto_region 1 with fail
    generalize X.alloc _ = w1 at HB x0 ⊢
    go_wp2_with fail
    refine (need_no _ _).mono ?_
    rintro e' w' ⟨rfl, rfl⟩
    go_wp2
    exact ⟨rfl, rfl, HB.out⟩
  · go_enter Tryd.func41, Tryd.ntmps41
    go_upto_region 1 with fail
    generalize X.alloc _ = w1 at HB x0 ⊢
    go_wp2_with fail
    refine (need_no _ _).mono ?_
    rintro e' w' ⟨rfl, rfl⟩
    go_wp2
    exact ⟨rfl, rfl, HB.out⟩

/-! ### pass -/
set_option maxHeartbeats 1000000 in
theorem pass_out (X : World) (n0 n1 l : Nat) (s ev cpu : Int) (hi : ¬ (0 ≤ s ∧ s < l)) :
    Calls Tryd.prog 40 #[.agg #[.slice (some ⟨n0, 0, none⟩) l l, .slice (some ⟨n1, 0, none⟩) l l], .int .i64 s, .int .i64 ev, .int .i64 cpu] X fun e w' => e = .panicked [{ v := .iface 86 (.int .i64 1), recovered := false }] ∧ Below X.heap.size X w' := by
  have HB := Lib.hid ((Below.refl X.heap.size X).alloc (Nat.le_refl _) (.cells #[.slice (some ⟨n0, 0, none⟩) l l, .slice (some ⟨n1, 0, none⟩) l l] 66))
  have HI := Lib.hid hi
  clear hi
  go_enter Tryd.func40, Tryd.ntmps40
  go_wp2_with fail
  refine (at_no _ n0 n1 l s HI.out).mono ?_
  rintro e' w2 ⟨rfl, hb2⟩
  have HB2 := Lib.hid (bOn HB.out hb2)
  clear hb2
  go_wp2
  exact ⟨rfl, rfl, HB2.out⟩
/-- What is behind pass, where it goes: one word is turned. -/
def Passed (X w' : World) (n0 i : Nat) (z : Int) : Prop := ∃ Y, Below X.heap.size X Y ∧ w' = Y.setCell ⟨n0, i, none⟩ (.int .u64 z)
set_option maxHeartbeats 1000000 in
theorem pass_in (X : World) (n0 n1 : Nat) (ws : List Int) (i : Nat) (hi : i < ws.length) (ev cpu : Int) (hwf : (Lit.int .i64 ev).wf = true) (hT : Tab X) (h0 : Wd X n0 ws) (hU : U (ws.getD i 0)) :
    Calls Tryd.prog 40 #[.agg #[.slice (some ⟨n0, 0, none⟩) ws.length ws.length, .slice (some ⟨n1, 0, none⟩) ws.length ws.length], .int .i64 i, .int .i64 ev, .int .i64 cpu] X fun e w' =>
      (nxE (ws.getD i 0) ev cpu = 0 ∧ e = .returned (.tuple #[]) ∧ Passed X w' n0 i (nxW (ws.getD i 0) ev cpu)) ∨ (nxE (ws.getD i 0) ev cpu ≠ 0 ∧ e = .panicked [{ v := .iface 86 (.int .i64 (nxE (ws.getD i 0) ev cpu)), recovered := false }] ∧ Below X.heap.size X w') := by
  have HC : Hid (∀ Y, Below X.heap.size X Y → Y.cell? ⟨n0, i, none⟩ = some (.int .u64 (ws.getD i 0)) ∧ Y.frozen? ⟨n0, i, none⟩ = false) := Lib.hid (fun Y hY => ⟨(h0.below hY).cell hi, (h0.below hY).free i⟩)
  have HB := Lib.hid ((Below.refl X.heap.size X).alloc (Nat.le_refl _) (.cells #[.slice (some ⟨n0, 0, none⟩) ws.length ws.length, .slice (some ⟨n1, 0, none⟩) ws.length ws.length] 66))
  have HT := Lib.hid hT
  have HU := Lib.hid hU
  have HF := Lib.hid hwf
  clear hT h0 hU hwf
  generalize ws.getD i 0 = z at HU HC ⊢
  generalize ws.length = l at hi HB ⊢
  obtain ⟨er, her⟩ : ∃ er, nxE z ev cpu = er := ⟨_, rfl⟩
  have HNX : Hid (∀ Y, Below X.heap.size X Y → Calls Tryd.prog 57 #[.int .u64 z, .int .i64 ev, .int .i64 cpu] Y fun e w' => e = .returned (.tuple #[.int .u64 (nxW z ev cpu), .int .i64 er]) ∧ Below Y.heap.size Y w') := Lib.hid (fun Y hY => by rw [← her]; exact next_any z ev cpu HU.out HF.out Y (HT.out.below hY))
  rw [her]
  clear her HU HF HT
  generalize nxW z ev cpu = nw at HNX ⊢
  clear ws
  go_enter Tryd.func40, Tryd.ntmps40
  go_wp2_with fail
  refine (at_yes _ n0 n1 l i hi).mono ?_
  rintro e' w2 ⟨rfl, hb2⟩
  have HB2 := Lib.hid (bOn HB.out hb2)
  have c0 := (HC.out _ HB2.out).1
  clear hb2 HB
  go_wp2_with fail
  refine (HNX.out w2 HB2.out).mono ?_
  rintro e' w3 ⟨rfl, hb3⟩
  have HB3 := Lib.hid (bOn HB2.out hb3)
  obtain ⟨c1, z1⟩ := HC.out _ HB3.out
  clear hb3 HB2 c0 HNX HC
  by_cases hn : er = 0
  · subst hn
    go_wp2_with fail
    refine (need_yes _ _).mono ?_
    rintro e' w' ⟨rfl, rfl⟩
    go_wp2
    go_end0
    exact ⟨rfl, w3, HB3.out, rfl⟩
  · have e1 : (er == 0) = false := by simp [hn]
    have HN := Lib.hid hn
    clear hn
    go_wp2_with fail
    refine (need_no _ _).mono ?_
    rintro e' w' ⟨rfl, rfl⟩
    go_wp2
    exact ⟨rfl, .inr ⟨HN.out, rfl, HB3.out⟩⟩
end Go.Proofs.YtjikabalpejmlaaDoor
