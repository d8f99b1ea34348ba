/-
  Contract of a work's hang: a node, or none, stands at a place.
-/
import Derived.Test.YtgjacmkedgbneaaTwA
import Derived.Deep.RegionHeld3
import Derived.StillTailTactics
import Derived.BigRegion
namespace Go.Proofs.Ytgjacmkedgbneaa
open Go.RowKit Go.Sort Wd Tn Ky Tr

/-- What is done to a tree at work: no other block has turned. -/
structure Ws (p : Wp) (w w' : World) : Prop where
  os : w'.os = w.os
  tape : w'.tape = w.tape
  output : w'.output = w.output
  size : w.heap.size ≤ w'.heap.size
  block : ∀ k, k < w.heap.size → k ≠ p.b → k ≠ p.nb → w'.heap[k]? = w.heap[k]?
section
variable {p : Wp} {w w' w'' : World}
theorem Ws.refl (p : Wp) (w : World) : Ws p w w := ⟨rfl, rfl, rfl, Nat.le_refl _, fun _ _ _ _ => rfl⟩
theorem Ws.trans (h : Ws p w w') (k : Ws p w' w'') : Ws p w w'' :=
  ⟨k.os.trans h.os, k.tape.trans h.tape, k.output.trans h.output, Nat.le_trans h.size k.size, fun i hi h1 h2 => (k.block i (Nat.lt_of_lt_of_le hi h.size) h1 h2).trans (h.block i hi h1 h2)⟩
theorem Ws.of_below (h : Below w.heap.size w w') : Ws p w w' := ⟨h.os, h.tape, h.output, h.size, fun i hi _ _ => h.block i hi⟩
theorem Ws.of_gr (h : Gr w w') : Ws p w w' := Ws.of_below h.below
theorem Ws.alloc (h : Ws p w w') (o : Obj) : Ws p w (w'.alloc o) := h.trans (Ws.of_gr (Gr.alloc _ _))
theorem Ws.drew (h : Ws p w w') : Ws p w w'.drew := ⟨h.os, h.tape, h.output, h.size, h.block⟩
theorem Ws.set (h : Ws p w w') {q : Addr} (hq : q.block = p.b ∨ q.block = p.nb ∨ w.heap.size ≤ q.block) (v : Value) : Ws p w (w'.setCell q v) :=
  ⟨h.os, h.tape, h.output, by simpa [World.setCell] using h.size, fun k hk h1 h2 => (Below.heap_setCell _ _ _ _ (by rcases hq with e | e | e <;> omega)).trans (h.block k hk h1 h2)⟩
theorem Ws.cell (h : Ws p w w') {q : Addr} {v : Value} (hc : w.cell? q = some v) (h1 : q.block ≠ p.b) (h2 : q.block ≠ p.nb) : w'.cell? q = some v := by
  have hb := h.block q.block (World.block_lt_of_cell? w q hc) h1 h2
  unfold World.cell? at hc ⊢
  rw [hb]
  exact hc
theorem Ws.below (h : Ws p w w') {t : T} (hk : Wk p w t) (hn : p.n0 ≤ w.heap.size) : Below p.n0 w w' :=
  ⟨h.os, h.tape, h.output, h.size, fun i hi => h.block i (by omega) (by have := hk.b0; omega) (by have := hk.nb0; omega)⟩
end

theorem setKid_nat (t : T) (k : Nat) (s : Bool) (y : Int) : t.setKid k s y = t.put k ((t.nd k).setKid s y) := by
  unfold T.setKid
  rw [if_neg (by omega)]
theorem setUp_nat (t : T) (k : Nat) (u : Int) : t.setUp k u = t.put k ((t.nd k).setUp u) := by
  unfold T.setUp
  rw [if_neg (by omega)]
theorem Wk.setL {p : Wp} {w : World} {t : T} (h : Wk p w t) {k : Nat} (hk : k < t.ns.length) (y : Int) : Wk p (w.setCell ⟨p.nb, k * 6 + 3, none⟩ (.int .i64 y)) (t.setKid k false y) := by
  rw [setKid_nat]
  exact h.setN hk ((t.nd k).setKid false y) 3 (by omega) _ rfl (h.u hk)
theorem Wk.setR {p : Wp} {w : World} {t : T} (h : Wk p w t) {k : Nat} (hk : k < t.ns.length) (y : Int) : Wk p (w.setCell ⟨p.nb, k * 6 + 4, none⟩ (.int .i64 y)) (t.setKid k true y) := by
  rw [setKid_nat]
  exact h.setN hk ((t.nd k).setKid true y) 4 (by omega) _ rfl (h.u hk)
theorem Wk.setUp {p : Wp} {w : World} {t : T} (h : Wk p w t) {k : Nat} (hk : k < t.ns.length) (u : Int) : Wk p (w.setCell ⟨p.nb, k * 6 + 5, none⟩ (.int .i64 u)) (t.setUp k u) := by
  rw [setUp_nat]
  exact h.setN hk ((t.nd k).setUp u) 5 (by omega) _ rfl (h.u hk)
theorem Wk.paint {p : Wp} {w : World} {t : T} (h : Wk p w t) {k : Nat} (hk : k < t.ns.length) (x : Bool) : Wk p (w.setCell ⟨p.nb, k * 6 + 1, none⟩ (.bool x)) (t.paint k x) :=
  h.setN hk ((t.nd k).setRed x) 1 (by omega) _ rfl (h.u hk)
theorem Wk.drew {p : Wp} {w : World} {t : T} (h : Wk p w t) : Wk p w.drew t := h.gr (Gr.drew _ 1)

theorem cell_new1 (w : World) (q : Addr) (v : Value) (vs : Array Value) (ty : TypeId) (i : Nat) : ((w.setCell q v).alloc (.cells vs ty)).drew.cell? ⟨w.heap.size, i, none⟩ = vs[i]? := by
  have e : ((w.setCell q v).alloc (.cells vs ty)).drew.heap[w.heap.size]? = some (.cells vs ty) := by
    have := heap_alloc_new (w.setCell q v) (.cells vs ty)
    rw [show (w.setCell q v).heap.size = w.heap.size by simp [World.setCell]] at this
    exact this
  unfold World.cell?
  rw [e]
  rfl
set_option maxHeartbeats 800000 in
theorem hang_at {p : Wp} {w : World} {t : T} (h : Wk p w t) {u y : Int} (hu : t.ok u) (hy : t.ok y) (s : Bool) :
    Calls Try.prog 66 #[.pointer (some ⟨p.b, 0, none⟩), .agg #[.int .i64 u, .int .i64 (sI s)], .int .i64 y] w fun e w' => e = .returned (.tuple #[]) ∧ Wk p w' (t.hang u s y) ∧ Ws p w w' := by
  generalize hs : sI s = si
  have hlt := h.lt
  have hq1 : w.heap.size ≠ p.b := by omega
  have hq2 : w.heap.size ≠ p.nb := by omega
  obtain ⟨c0, c1, c2, c3, f0⟩ := h.cells
  have cap1 := h.cap1
  have cap2 := h.cap2
  have hbn := h.ne
  rcases hu with rfl | hu
  · have h2 := h.setRoot y
    have HS2 := Lib.hid ((Ws.refl p w).set (q := ⟨p.b, 0, none⟩) (.inl rfl) (.int .i64 y))
    rcases hy with rfl | hy
    · have HW : Hid (Wk p _ (t.hang (-1) s (-1))) := Lib.hid h2
      clear h h2
      go_enter Try.func66, Try.ntmps66
      go_wp2
      go_end0
      exact ⟨rfl, HW.out.alloc _, HS2.out.alloc _⟩
    · obtain ⟨k, rfl, hk⟩ := has_nat hy
      have hn2 : ((k : Int) == -1) = false := by rw [beq_eq_false_iff_ne]; omega
      have HW : Hid (Wk p _ (t.hang (-1) s k)) := Lib.hid (h2.setUp (t := ⟨k, t.ns⟩) hk (-1))
      have HS3 := Lib.hid (HS2.out.set (q := ⟨p.nb, k * 6 + 5, none⟩) (.inr (.inl rfl)) (.int .i64 (-1)))
      have hz := (h.nc hk).2.2.2.2.2
      have hf := h.frozen (k * 6 + 5)
      unfold Wp.sl at c1
      generalize (t.nd k).u = z at hz
      clear h h2
      go_enter Try.func66, Try.ntmps66
      go_wp2
      go_region
      go_end0
      exact ⟨rfl, (HW.out.alloc _).drew, (HS3.out.alloc _).drew⟩
  · obtain ⟨j, rfl, hj⟩ := has_nat hu
    have hn1 : ((j : Int) == -1) = false := by rw [beq_eq_false_iff_ne]; omega
    have hn1' : ¬ (j : Int) = -1 := by omega
    have hfj3 := h.frozen (j * 6 + 3)
    have hfj4 := h.frozen (j * 6 + 4)
    have hj3 := (h.nc hj).2.2.2.1
    have hj4 := (h.nc hj).2.2.2.2.1
    generalize (t.nd j).l = zl at hj3
    generalize (t.nd j).r = zr at hj4
    cases s with
    | false =>
      obtain rfl : si = 0 := hs.symm
      have HL := Lib.hid (left_at (h.alloc (.cells #[.int .i64 j, .int .i64 0] 91)).drew.tp hj (nb := p.nb) (off := 0) (cap := p.cap) rfl)
      rw [Nat.zero_add] at HL
      have h2 := h.setL hj y
      have HS2 := Lib.hid ((Ws.refl p w).set (q := ⟨p.nb, j * 6 + 3, none⟩) (.inr (.inl rfl)) (.int .i64 y))
      rcases hy with rfl | hy
      · have HW : Hid (Wk p _ (t.hang j false (-1))) := Lib.hid h2
        have HK := Lib.hid (And.intro ((h2.alloc (.cells #[.int .i64 j, .int .i64 0] 91)).drew.cells.2.2.1) (And.intro (cell_new1 w ⟨p.nb, j * 6 + 3, none⟩ (.int .i64 (-1)) #[.int .i64 j, .int .i64 0] 91 0) (cell_new1 w ⟨p.nb, j * 6 + 3, none⟩ (.int .i64 (-1)) #[.int .i64 j, .int .i64 0] 91 1)))
        clear h h2
        go_enter Try.func66, Try.ntmps66
        go_wp2_with fail
        go_region_held3 (fun X => X.cell? ⟨p.b, 2, none⟩ = some (.func (.func 61) #[.pointer (some ⟨p.b, 0, none⟩)] #[]) ∧ X.cell? ⟨w.heap.size, 0, none⟩ = some (.int .i64 j) ∧ X.cell? ⟨w.heap.size, 1, none⟩ = some (.int .i64 0))
          (first | exact HK.out | go_keep)
          (first | (go_at_call 61; refine HL.out.mono ?_; rintro e' w' ⟨rfl, rfl⟩))
        go_wp2
        go_end0
        exact ⟨rfl, (HW.out.alloc _).drew, (HS2.out.alloc _).drew⟩
      · obtain ⟨k, rfl, hk⟩ := has_nat hy
        have hk2 : k < (t.setKid j false k).ns.length := by rw [setKid_len]; exact hk
        have hn2 : ((k : Int) == -1) = false := by rw [beq_eq_false_iff_ne]; omega
        have HW : Hid (Wk p _ (t.hang j false k)) := Lib.hid (h2.setUp hk2 j)
        have HS3 := Lib.hid (HS2.out.set (q := ⟨p.nb, k * 6 + 5, none⟩) (.inr (.inl rfl)) (.int .i64 j))
        have hz := (h.nc hk).2.2.2.2.2
        have hz2 := (h2.nc hk2).2.2.2.2.2
        have hf := h.frozen (k * 6 + 5)
        have hf2 := h2.frozen (k * 6 + 5)
        unfold Wp.sl at c1
        generalize (t.nd k).u = z at hz
        generalize (T.nd (t.setKid j false k) k).u = z2 at hz2
        have HK := Lib.hid (And.intro ((h2.alloc (.cells #[.int .i64 j, .int .i64 0] 91)).drew.cells.2.2.1) (And.intro (cell_new1 w ⟨p.nb, j * 6 + 3, none⟩ (.int .i64 k) #[.int .i64 j, .int .i64 0] 91 0) (cell_new1 w ⟨p.nb, j * 6 + 3, none⟩ (.int .i64 k) #[.int .i64 j, .int .i64 0] 91 1)))
        clear h h2 hk2
        go_enter Try.func66, Try.ntmps66
        go_wp2_with fail
        go_region_held3 (fun X => X.cell? ⟨p.b, 2, none⟩ = some (.func (.func 61) #[.pointer (some ⟨p.b, 0, none⟩)] #[]) ∧ X.cell? ⟨w.heap.size, 0, none⟩ = some (.int .i64 j) ∧ X.cell? ⟨w.heap.size, 1, none⟩ = some (.int .i64 0))
          (first | exact HK.out | go_keep)
          (first | (go_at_call 61; refine HL.out.mono ?_; rintro e' w' ⟨rfl, rfl⟩))
        go_wp2
        go_region
        go_end0
        exact ⟨rfl, (HW.out.alloc _).drew.drew, (HS3.out.alloc _).drew.drew⟩
    | true =>
      obtain rfl : si = 1 := hs.symm
      have HL := Lib.hid (right_at (h.alloc (.cells #[.int .i64 j, .int .i64 1] 91)).drew.tp hj (nb := p.nb) (off := 0) (cap := p.cap) rfl)
      rw [Nat.zero_add] at HL
      have h2 := h.setR hj y
      have HS2 := Lib.hid ((Ws.refl p w).set (q := ⟨p.nb, j * 6 + 4, none⟩) (.inr (.inl rfl)) (.int .i64 y))
      rcases hy with rfl | hy
      · have HW : Hid (Wk p _ (t.hang j true (-1))) := Lib.hid h2
        have HK := Lib.hid (And.intro ((h2.alloc (.cells #[.int .i64 j, .int .i64 1] 91)).drew.cells.2.2.2.1) (And.intro (cell_new1 w ⟨p.nb, j * 6 + 4, none⟩ (.int .i64 (-1)) #[.int .i64 j, .int .i64 1] 91 0) (cell_new1 w ⟨p.nb, j * 6 + 4, none⟩ (.int .i64 (-1)) #[.int .i64 j, .int .i64 1] 91 1)))
        clear h h2
        go_enter Try.func66, Try.ntmps66
        go_wp2_with fail
        go_region_held3 (fun X => X.cell? ⟨p.b, 3, none⟩ = some (.func (.func 62) #[.pointer (some ⟨p.b, 0, none⟩)] #[]) ∧ X.cell? ⟨w.heap.size, 0, none⟩ = some (.int .i64 j) ∧ X.cell? ⟨w.heap.size, 1, none⟩ = some (.int .i64 1))
          (first | exact HK.out | go_keep)
          (first | (go_at_call 62; refine HL.out.mono ?_; rintro e' w' ⟨rfl, rfl⟩))
        go_wp2
        go_end0
        exact ⟨rfl, (HW.out.alloc _).drew, (HS2.out.alloc _).drew⟩
      · obtain ⟨k, rfl, hk⟩ := has_nat hy
        have hk2 : k < (t.setKid j true k).ns.length := by rw [setKid_len]; exact hk
        have hn2 : ((k : Int) == -1) = false := by rw [beq_eq_false_iff_ne]; omega
        have HW : Hid (Wk p _ (t.hang j true k)) := Lib.hid (h2.setUp hk2 j)
        have HS3 := Lib.hid (HS2.out.set (q := ⟨p.nb, k * 6 + 5, none⟩) (.inr (.inl rfl)) (.int .i64 j))
        have hz := (h.nc hk).2.2.2.2.2
        have hz2 := (h2.nc hk2).2.2.2.2.2
        have hf := h.frozen (k * 6 + 5)
        have hf2 := h2.frozen (k * 6 + 5)
        unfold Wp.sl at c1
        generalize (t.nd k).u = z at hz
        generalize (T.nd (t.setKid j true k) k).u = z2 at hz2
        have HK := Lib.hid (And.intro ((h2.alloc (.cells #[.int .i64 j, .int .i64 1] 91)).drew.cells.2.2.2.1) (And.intro (cell_new1 w ⟨p.nb, j * 6 + 4, none⟩ (.int .i64 k) #[.int .i64 j, .int .i64 1] 91 0) (cell_new1 w ⟨p.nb, j * 6 + 4, none⟩ (.int .i64 k) #[.int .i64 j, .int .i64 1] 91 1)))
        clear h h2 hk2
        go_enter Try.func66, Try.ntmps66
        go_wp2_with fail
        go_region_held3 (fun X => X.cell? ⟨p.b, 3, none⟩ = some (.func (.func 62) #[.pointer (some ⟨p.b, 0, none⟩)] #[]) ∧ X.cell? ⟨w.heap.size, 0, none⟩ = some (.int .i64 j) ∧ X.cell? ⟨w.heap.size, 1, none⟩ = some (.int .i64 1))
          (first | exact HK.out | go_keep)
          (first | (go_at_call 62; refine HL.out.mono ?_; rintro e' w' ⟨rfl, rfl⟩))
        go_wp2
        go_region
        go_end0
        exact ⟨rfl, (HW.out.alloc _).drew.drew, (HS3.out.alloc _).drew.drew⟩
end Go.Proofs.Ytgjacmkedgbneaa
