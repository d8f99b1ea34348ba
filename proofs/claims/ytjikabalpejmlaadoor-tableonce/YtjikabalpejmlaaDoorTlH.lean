/-
  Layer 14's Step and Exit, whole.
-/
import Derived.Test.YtjikabalpejmlaaDoorTlG
namespace Go.Proofs.YtjikabalpejmlaaDoor
open Go.RowKit Go.Deep Pk Lf
open Mk (V allM cpus fstI anyB)

/-- Things laid one behind the other. -/
def allocs (W : World) : List Obj → World
  | [] => W
  | o :: os => allocs (W.alloc o) os
theorem allocs_below (W : World) (os : List Obj) : Below W.heap.size W (allocs W os) := by
  induction os generalizing W with
  | nil => exact Below.refl _ _
  | cons o os ih => exact bOn ((Below.refl _ _).alloc (Nat.le_refl _) o) (ih (W.alloc o))
theorem allocs_at (os : List Obj) (W : World) (i : Nat) (o : Obj) (h : os[i]? = some o) : (allocs W os).heap[W.heap.size + i]? = some o := by
  induction os generalizing W i with
  | nil => simp at h
  | cons x os ih =>
    cases i with
    | zero =>
      simp only [List.getElem?_cons_zero, Option.some.injEq] at h
      subst h
      exact ((allocs_below (W.alloc x) os).block W.heap.size (by rw [sz_alloc]; omega)).trans (heap_alloc_new W x)
    | succ i =>
      have := ih (W.alloc x) i (by simpa using h)
      rw [sz_alloc] at this
      show (allocs (W.alloc x) os).heap[W.heap.size + (i + 1)]? = some o
      rw [show W.heap.size + (i + 1) = W.heap.size + 1 + i by omega]
      exact this

/-- What Step, and Exit, tell. -/
def Tells (W : World) (t' : Tl.T) (er : Int) (e : Ending) (w' : World) : Prop := (∃ v', e = .returned (.tuple #[v', .int .i64 er]) ∧ Tv w' v' t' ∧ Far W.heap.size v') ∧ Below W.heap.size W w'

theorem stT_ok {t : Tl.T} {s ev cpu : Int} {W : World} {v : Value} (hV : Tv W v t) (h : Tl.stE t s ev cpu = 0) :
    (Tl.stT t s ev cpu).ws.length = t.ws.length ∧ (Tl.stT t s ev cpu).ts.length = t.ws.length ∧ (∀ z ∈ (Tl.stT t s ev cpu).ws, (Lit.int .u64 z).wf = true) ∧ ∀ x ∈ (Tl.stT t s ev cpu).ts, encK.ok x := by
  obtain ⟨hr, hs, -⟩ := Tl.stE_inv h
  rw [Tl.st_yes h]
  obtain ⟨c0, c1, -, hI, hK⟩ := hV
  refine ⟨(Tl.put_len _ _ _ _).1, (Tl.put_len _ _ _ _).2.trans hr.2.1, wf_set hI.wf nx_wf, ?_⟩
  show ∀ x ∈ t.ts.set s.toNat (t.ts.getD s.toNat Tl.k0), encK.ok x
  rw [set_same]
  exact hK.oks
theorem exT_ok {t : Tl.T} {s g : Int} {W : World} {v : Value} (hV : Tv W v t) (h : Tl.exE t s g = 0) :
    (Tl.exT t s g).ws.length = t.ws.length ∧ (Tl.exT t s g).ts.length = t.ws.length ∧ (∀ z ∈ (Tl.exT t s g).ws, (Lit.int .u64 z).wf = true) ∧ ∀ x ∈ (Tl.exT t s g).ts, encK.ok x := by
  obtain ⟨hr, hs, -⟩ := Tl.exE_inv h
  rw [Tl.ex_yes h]
  obtain ⟨c0, c1, -, hI, hK⟩ := hV
  exact ⟨(Tl.put_len _ _ _ _).1, (Tl.put_len _ _ _ _).2.trans hr.2.1, wf_set hI.wf nx_wf, ok_set hK.oks ⟨by unfold Ni; decide, show (0 : Nat) < 18446744073709551616 by decide, by unfold Ni; decide⟩⟩

set_option maxHeartbeats 4000000 in
set_option maxRecDepth 100000 in
theorem step_any' (t : Tl.T) (s ev cpu : Int) (v : Value) (W : World) (hV : Tv W v t) (hT : Tab W) (hwf : (Lit.int .i64 ev).wf = true) :
    Calls Tryd.prog 19 #[v, .int .i64 s, .int .i64 ev, .int .i64 cpu] W (Tells W (Tl.stT t s ev cpu) (Tl.stE t s ev cpu)) := by
  have hmf : ∀ (fn : Fn) (first cap : Array Value) (w : World), (Instr.makeFunc fn first cap).run Tryd.prog w = .ok (.func fn first cap) w := fun _ _ _ _ => rfl
  have HV := Lib.hid hV
  obtain ⟨c0, c1, rfl, hI, hK⟩ := hV
  have HA := Lib.hid (allocs_at [.cells #[c0, c1] 25, .cells #[.int .i64 s] 3, .cells #[.int .i64 ev] 3, .cells #[.int .i64 cpu] 3, .cells #[.slice none 0 0, .slice none 0 0] 25] W)
  have HB := Lib.hid (allocs_below W [.cells #[c0, c1] 25, .cells #[.int .i64 s] 3, .cells #[.int .i64 ev] 3, .cells #[.int .i64 cpu] 3, .cells #[.slice none 0 0, .slice none 0 0] 25])
  simp only [allocs] at HA HB
  have HT := Lib.hid hT
  have HF := Lib.hid hwf
  clear hT hwf hI hK
  go_enter Tryd.func19, Tryd.ntmps19
  go_upto_region 1 with fail
  generalize ((((W.alloc _).alloc _).alloc _).alloc _).alloc _ = w1 at HA HB ⊢
  have h0 : Bt w1 W.heap.size c0 c1 := HA.out 0 _ rfl
  have h1 : Bi w1 (W.heap.size + 1) s := HA.out 1 _ rfl
  have h2 : Bi w1 (W.heap.size + 1 + 1) ev := HA.out 2 _ rfl
  have h3 : Bi w1 (W.heap.size + 1 + 1 + 1) cpu := HA.out 3 _ rfl
  have h4 : Bt w1 (W.heap.size + 1 + 1 + 1 + 1) (.slice none 0 0) (.slice none 0 0) := HA.out 4 _ rfl
  have HR4 := Lib.hid h4
  have HV1 := Lib.hid (HV.out.below HB.out)
  have HT1 := Lib.hid (HT.out.below HB.out)
  have HCH : Hid (Calls Tryd.prog 33 #[.agg #[c0, c1], .func (.func 44) #[] #[.pointer (some ⟨W.heap.size + 1 + 1, 0, none⟩), .pointer (some ⟨W.heap.size + 1, 0, none⟩), .pointer (some ⟨W.heap.size + 1 + 1 + 1, 0, none⟩)]] w1 (Tells w1 (Tl.stT t s ev cpu) (Tl.stE t s ev cpu))) := Lib.hid (by
    by_cases hr : Tl.right t
    · refine (change_do t (Tl.stT t s ev cpu) _ w1 HV1.out HT1.out hr 44 _ (Tl.stE t s ev cpu) (fun _ => False) (fun _ => True) (enters_of Tryd.func44 (by kernel_rfl) rfl) (fun i h => h.elim) (fun _ _ _ _ => trivial) (step_does t w1 HT1.out hr (fun i hi => HV1.out.U hi) _ _ _ s ev cpu HF.out h2 h1 h3) (fun h => stT_ok HV1.out h)).mono ?_
      rintro e w' ⟨hb, -, h | ⟨hn, rfl⟩⟩
      · obtain ⟨hz, v', rfl, hv, hf⟩ := h
        exact ⟨⟨v', by rw [hz], hv, hf⟩, hb.below (Nat.le_refl _) (fun i h => h.elim)⟩
      · exact ⟨⟨_, rfl, by rw [Tl.st_no hn]; exact Tv.zero _, Far.zero _⟩, hb.below (Nat.le_refl _) (fun i h => h.elim)⟩
    · refine (change_no t _ _ w1 HV1.out HT1.out hr).mono ?_
      rintro e w' ⟨rfl, hb⟩
      exact ⟨⟨_, by rw [Tl.stE_left hr], by rw [Tl.st_no (by rw [Tl.stE_left hr]; decide)]; exact Tv.zero _, Far.zero _⟩, hb⟩)
  obtain ⟨x0, x1⟩ := h0.cells
  clear h0 h1 h2 h3 h4 HA HV HT HF HT1 HV1
  go_wp2_with fail
  refine HCH.out.mono ?_
  rintro e w' ⟨⟨v', rfl, hv, hf⟩, hb⟩
  obtain ⟨a0, l0, p0, a1, l1, p1, rfl, -, -⟩ := id hf
  have hb2 := HB.out.trans (hb.mono HB.out.size)
  obtain ⟨y0, y1⟩ := (HR4.out.below hb).cells
  have f0 := (HR4.out.below hb).free 0
  have f1 := (HR4.out.below hb).free 1
  have HS := Lib.hid ((HR4.out.below hb).set (.slice a0 l0 p0) (.slice a1 l1 p1))
  have hlt := HR4.out.lt
  have HX : Hid (Tells W (Tl.stT t s ev cpu) (Tl.stE t s ev cpu) (.returned (.tuple #[.agg #[.slice a0 l0 p0, .slice a1 l1 p1], .int .i64 (Tl.stE t s ev cpu)])) ((w'.setCell ⟨W.heap.size + 1 + 1 + 1 + 1, 0, none⟩ (.slice a0 l0 p0)).setCell ⟨W.heap.size + 1 + 1 + 1 + 1, 1, none⟩ (.slice a1 l1 p1))) := Lib.hid
    ⟨⟨_, rfl, (hv.off hf (p := ⟨W.heap.size + 1 + 1 + 1 + 1, 0, none⟩) hlt _).off hf (p := ⟨W.heap.size + 1 + 1 + 1 + 1, 1, none⟩) hlt _, hf.mono HB.out.size⟩,
      (hb2.setCell (p := ⟨W.heap.size + 1 + 1 + 1 + 1, 0, none⟩) (show W.heap.size ≤ W.heap.size + 1 + 1 + 1 + 1 by omega) _).setCell (p := ⟨W.heap.size + 1 + 1 + 1 + 1, 1, none⟩) (show W.heap.size ≤ W.heap.size + 1 + 1 + 1 + 1 by omega) _⟩
  clear hb hb2 hv hf hlt HCH x0 x1
  go_wp2
  obtain ⟨q0, q1⟩ := HS.out.cells
  exact bodyPost_ret (v := .tuple #[.agg #[.slice a0 l0 p0, .slice a1 l1 p1], .int .i64 (Tl.stE t s ev cpu)]) (by simp [results, Tryd.results19, go_sem, q0, q1]) rfl HX.out
end Go.Proofs.YtjikabalpejmlaaDoor
