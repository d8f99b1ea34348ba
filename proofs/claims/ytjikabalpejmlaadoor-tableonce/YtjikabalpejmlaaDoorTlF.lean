/-
  Layer 14's change: what is deferred (a fault that goes through it is caught), and change itself, whatever the closure that it is handed does.
-/
import Derived.Test.YtjikabalpejmlaaDoorTlE
import Derived.Defers
import Derived.Recover
import Derived.Shelf.Abstract
namespace Go.Proofs.YtjikabalpejmlaaDoor
open Go.RowKit Go.Deep Pk Lf
open Mk (V allM cpus fstI anyB)

theorem as_fault (v : Value) (w : World) : (Instr.typeAssert (.iface 86 v) 20 86 false).run Tryd.prog w = .ok v w := by kernel_rfl
theorem catch_fault (p : Addr) (x er : Int) (older : List PanicEntry) (w : World) (hc : w.cell? p = some (.int .i64 x)) (hz : w.frozen? p = false) :
    CallsD Tryd.prog 52 #[.pointer (some p)] (.panicking ({ v := .iface 86 (.int .i64 er), recovered := false } :: older)) w fun e u' w' =>
      e = .returned (.tuple #[]) ∧ u' = .panicking ({ v := .iface 86 (.int .i64 er), recovered := true } :: older) ∧ w' = w.setCell p (.int .i64 er) := by
  refine callsD_of_wpS Tryd.func52 rfl fun c₀ cs hu => ?_
  apply wpS_seq
  apply wpS_region
  simp [wpOpsS, go_sem, recoverD, hu, Tryd.ntmps52, Exit.thenS]
  apply wpS_seq
  apply wpS_region
  simp [wpOpsS, go_sem, Exit.thenS]
  refine wpS_cond (t := true) (by simp [Act.eval, Array.replicate]) ?_
  simp only [if_true]
  apply wpS_region
  simp [wpOpsS, go_sem, as_fault, hc, hz, bodyPostS, results, Tryd.results52]

theorem catch_idle (p : Addr) (w : World) :
    CallsD Tryd.prog 52 #[.pointer (some p)] .returning w fun e u' w' => e = .returned (.tuple #[]) ∧ u' = .returning ∧ w' = w := by
  refine callsD_of_wpS Tryd.func52 rfl fun c₀ cs hu => ?_
  apply wpS_seq
  apply wpS_region
  simp [wpOpsS, go_sem, recoverD, hu, Tryd.ntmps52, Exit.thenS]
  apply wpS_seq
  apply wpS_region
  simp [wpOpsS, go_sem, Exit.thenS]
  refine wpS_cond (t := false) (by simp [Act.eval, Array.replicate]) ?_
  simp only [Bool.false_eq_true, if_false]
  refine wpS_of_wp (wp_skip ?_)
  cases c₀
  simp_all [bodyPostS, results, Tryd.results52]

/-- All but what S holds is as it was. -/
structure But (S : Nat → Prop) (X Y : World) : Prop where
  os : Y.os = X.os
  tape : Y.tape = X.tape
  output : Y.output = X.output
  size : X.heap.size ≤ Y.heap.size
  block : ∀ i, i < X.heap.size → ¬ S i → Y.heap[i]? = X.heap[i]?
theorem But.of {S : Nat → Prop} {X Y : World} (h : Below X.heap.size X Y) : But S X Y := ⟨h.os, h.tape, h.output, h.size, fun i hi _ => h.block i hi⟩
theorem But.trans {S : Nat → Prop} {a b c : World} (h : But S a b) (k : But S b c) : But S a c :=
  ⟨k.os.trans h.os, k.tape.trans h.tape, k.output.trans h.output, Nat.le_trans h.size k.size, fun i hi hs => (k.block i (Nat.lt_of_lt_of_le hi h.size) hs).trans (h.block i hi hs)⟩
theorem But.set {S : Nat → Prop} {X Y : World} (h : But S X Y) {p : Addr} (hp : S p.block) (v : Value) : But S X (Y.setCell p v) :=
  ⟨h.os, h.tape, h.output, by simp [World.setCell]; exact h.size, fun i hi hs => (Below.heap_setCell _ _ _ _ (fun e => hs (by rw [e]; exact hp))).trans (h.block i hi hs)⟩
theorem But.below {S : Nat → Prop} {B : Nat} {X Y : World} (h : But S X Y) (hB : B ≤ X.heap.size) (hS : ∀ i, S i → B ≤ i) : Below B X Y :=
  ⟨h.os, h.tape, h.output, h.size, fun i hi => h.block i (Nat.lt_of_lt_of_le hi hB) (fun e => by have := hS i e; omega)⟩

/-- What the closure that change is handed may do. -/
def Does (K : FuncId) (caps : Array Value) (W : World) (t t' : Tl.T) (er : Int) (S : Nat → Prop) (R : World → Prop) : Prop :=
  ∀ X n0 n1, Below W.heap.size W X → n0 ≠ n1 → W.heap.size ≤ n0 → W.heap.size ≤ n1 → Wd X n0 t.ws → Td X n1 t.ts →
    Calls Tryd.prog K (#[.agg #[.slice (some ⟨n0, 0, none⟩) t.ws.length t.ws.length, .slice (some ⟨n1, 0, none⟩) t.ws.length t.ws.length]] ++ caps) X fun e Y =>
      But (fun i => i = n0 ∨ i = n1 ∨ S i) X Y ∧ R Y ∧ ((er = 0 ∧ e = .returned (.tuple #[]) ∧ Wd Y n0 t'.ws ∧ Td Y n1 t'.ts) ∨ (er ≠ 0 ∧ e = .panicked [{ v := .iface 86 (.int .i64 er), recovered := false }]))

/-- An error in a box. -/
def Be (w : World) (n : Nat) (x : Int) : Prop := w.heap[n]? = some (.cells #[.int .i64 x] 33)
section
variable {w w' : World} {n : Nat} {x : Int}
theorem Be.lt (h : Be w n x) : n < w.heap.size := (Array.getElem?_eq_some_iff.1 h).1
theorem Be.cell (h : Be w n x) : w.cell? ⟨n, 0, none⟩ = some (.int .i64 x) := by simp [World.cell?, show w.heap[n]? = _ from h]
theorem Be.free (h : Be w n x) : w.frozen? ⟨n, 0, none⟩ = false := by simp [World.frozen?, show w.heap[n]? = _ from h]
theorem Be.set (h : Be w n x) (y : Int) : Be (w.setCell ⟨n, 0, none⟩ (.int .i64 y)) n y := by
  have h0 := heap_setCell_same w n 0 _ _ (.int .i64 y) h
  unfold Be; rw [h0]; rfl
theorem Be.other (h : Be w n x) {p : Addr} {v : Value} (hne : n ≠ p.block) : Be (w.setCell p v) n x := (Below.heap_setCell _ _ _ _ hne).trans h
end
theorem Bt.other {w : World} {n : Nat} {c0 c1 : Value} (h : Bt w n c0 c1) {p : Addr} {v : Value} (hne : n ≠ p.block) : Bt (w.setCell p v) n c0 c1 := (Below.heap_setCell _ _ _ _ hne).trans h
theorem Bt.set {w : World} {n : Nat} {a b : Value} (h : Bt w n a b) (x y : Value) : Bt ((w.setCell ⟨n, 0, none⟩ x).setCell ⟨n, 1, none⟩ y) n x y := by
  have h0 := heap_setCell_same w n 0 _ _ x h
  have h1 := heap_setCell_same _ n 1 _ _ y h0
  unfold Bt
  rw [h1]; rfl
/-- The three boxes of change. -/
structure Cw (W w : World) (c0 c1 r0 r1 : Value) (er : Int) : Prop where
  bel : Below W.heap.size W w
  tb : Bt w W.heap.size c0 c1
  rb : Bt w (W.heap.size + 1) r0 r1
  eb : Be w (W.heap.size + 1 + 1) er
theorem Cw.start (W : World) (c0 c1 : Value) : Cw W (((W.alloc (.cells #[c0, c1] 25)).alloc (.cells #[.slice none 0 0, .slice none 0 0] 25)).alloc (.cells #[.int .i64 0] 33)) c0 c1 (.slice none 0 0) (.slice none 0 0) 0 := by
  have h0 := heap_alloc_new W (.cells #[c0, c1] 25)
  have h1 := heap_alloc_new (W.alloc (.cells #[c0, c1] 25)) (.cells #[.slice none 0 0, .slice none 0 0] 25)
  have h2 := heap_alloc_new ((W.alloc (.cells #[c0, c1] 25)).alloc (.cells #[.slice none 0 0, .slice none 0 0] 25)) (.cells #[.int .i64 0] 33)
  simp only [sz_alloc] at h1 h2
  refine ⟨(((Below.refl _ _).alloc (Nat.le_refl _) _).alloc (by simp) _).alloc (by simp; omega) _, ?_, ?_, h2⟩
  · unfold Bt
    rw [Below.heap_alloc _ _ _ (by simp only [sz_alloc]; omega), Below.heap_alloc _ _ _ (by simp only [sz_alloc]; omega)]
    exact h0
  · unfold Bt
    rw [Below.heap_alloc _ _ _ (by simp only [sz_alloc]; omega)]
    exact h1
theorem Cw.below {W w w' : World} {c0 c1 r0 r1 : Value} {er : Int} (h : Cw W w c0 c1 r0 r1 er) (hb : Below w.heap.size w w') : Cw W w' c0 c1 r0 r1 er :=
  ⟨h.bel.trans (hb.mono h.bel.size), h.tb.below hb, h.rb.below hb, (hb.block _ h.eb.lt).trans h.eb⟩

set_option maxHeartbeats 4000000 in
set_option maxRecDepth 100000 in
theorem change_no (t : Tl.T) (v fv : Value) (W : World) (hV : Tv W v t) (hT : Tab W) (hr : ¬ Tl.right t) :
    Calls Tryd.prog 33 #[v, fv] W fun e w' => e = .returned (.tuple #[.agg #[.slice none 0 0, .slice none 0 0], .int .i64 4]) ∧ Below W.heap.size W w' := by
  have HR : Hid (Tl.rightB t = false) := Lib.hid (decide_eq_false hr)
  have hmf : ∀ (fn : Fn) (first cap : Array Value) (w : World), (Instr.makeFunc fn first cap).run Tryd.prog w = .ok (.func fn first cap) w := fun _ _ _ _ => rfl
  have HV := Lib.hid hV
  have HT := Lib.hid hT
  obtain ⟨c0, c1, rfl, -, -⟩ := hV
  clear hT hr
  have HC := Lib.hid (Cw.start W c0 c1)
  go_enter_defers Tryd.func33, Tryd.ntmps33
  go_upto_region 2 with fail
  generalize ((W.alloc _).alloc _).alloc _ = w1 at HC ⊢
  obtain ⟨x0, x1⟩ := HC.out.tb.cells
  go_wp2_with fail
  refine (right_any t _ w1 (HV.out.below HC.out.bel) (HT.out.below HC.out.bel)).mono ?_
  rintro e' w2 ⟨rfl, hb2⟩
  rw [HR.out]
  have HC2 := Lib.hid (HC.out.below hb2)
  clear HC x0 x1 hb2
  go_wp2_with fail
  refine (need_no _ _).mono ?_
  rintro e' w' ⟨rfl, rfl⟩
  go_wp2
  refine leaves_cons (f := 52) (args := #[.pointer (some ⟨W.heap.size + 1 + 1, 0, none⟩)]) (by simp) (by simp [go_sem]) ?_
  refine (catch_fault ⟨W.heap.size + 1 + 1, 0, none⟩ 0 4 [] _ HC2.out.eb.cell HC2.out.eb.free).mono ?_
  rintro e u' w'' ⟨rfl, rfl, rfl⟩
  have hB := HC2.out.bel.setCell (p := ⟨W.heap.size + 1 + 1, 0, none⟩) (by show W.heap.size ≤ W.heap.size + 1 + 1; omega) (.int .i64 4)
  have c2 := (HC2.out.eb.set 4).cell
  obtain ⟨c3, c4⟩ := (HC2.out.rb.other (p := ⟨W.heap.size + 1 + 1, 0, none⟩) (v := .int .i64 4) (by show W.heap.size + 1 ≠ W.heap.size + 1 + 1; omega)).cells
  generalize w2.setCell _ _ = w3 at hB c2 c3 c4 ⊢
  simp [Leaves, settle, results, Tryd.results33, go_sem, c2, c3, c4]
  exact hB

/-- A table by value whose rows lie no lower than B. -/
def Far (B : Nat) (v : Value) : Prop := ∃ a0 l0 p0 a1 l1 p1, v = .agg #[.slice a0 l0 p0, .slice a1 l1 p1] ∧ (∀ q, a0 = some q → B ≤ q.block) ∧ (∀ q, a1 = some q → B ≤ q.block)
theorem Far.zero (B : Nat) : Far B (.agg #[.slice none 0 0, .slice none 0 0]) := ⟨_, _, _, _, _, _, rfl, (by intro q h; cases h), (by intro q h; cases h)⟩
theorem Far.mono {B B' : Nat} {v : Value} (h : Far B v) (hb : B' ≤ B) : Far B' v := by
  obtain ⟨a0, l0, p0, a1, l1, p1, e, h0, h1⟩ := h
  exact ⟨a0, l0, p0, a1, l1, p1, e, fun q hq => Nat.le_trans hb (h0 q hq), fun q hq => Nat.le_trans hb (h1 q hq)⟩
theorem cell_off {w : World} {p a : Addr} {v : Value} (h : a.block ≠ p.block) : (w.setCell p v).cell? a = w.cell? a := by simp only [World.cell?, Below.heap_setCell _ _ _ _ h]
/-- What is written lower leaves the table. -/
theorem Tv.off {w : World} {v : Value} {t : Tl.T} {B : Nat} (h : Tv w v t) (hf : Far B v) {p : Addr} (hp : p.block < B) (x : Value) : Tv (w.setCell p x) v t := by
  obtain ⟨a0, l0, p0, a1, l1, p1, rfl, h0, h1⟩ := hf
  obtain ⟨c0, c1, e, ⟨a, cap, e0, hm, hw, hc⟩, ⟨a', cap', e1, hm', hw', hc'⟩⟩ := h
  simp only [Value.agg.injEq, Array.mk.injEq, List.cons.injEq, and_true] at e
  obtain ⟨rfl, rfl⟩ := e
  cases e0
  cases e1
  refine ⟨_, _, rfl, ⟨_, _, rfl, hm, hw, fun hz => ?_⟩, ⟨_, _, rfl, hm', hw', fun hz => ?_⟩⟩
  · obtain ⟨b, off, rfl, hcc⟩ := hc hz
    have := h0 _ rfl
    exact ⟨b, off, rfl, fun i hi => by rw [cell_off (by show b ≠ p.block; have : B ≤ b := this; omega)]; exact hcc i hi⟩
  · obtain ⟨b, off, rfl, hcc⟩ := hc' hz
    have := h1 _ rfl
    exact ⟨b, off, rfl, fun i hi j hj => by rw [cell_off (by show b ≠ p.block; have : B ≤ b := this; omega)]; exact hcc i hi j hj⟩
/-- What is behind change, where t is right. -/
def Changed (W : World) (t' : Tl.T) (er : Int) (S : Nat → Prop) (R : World → Prop) (e : Ending) (w' : World) : Prop :=
  But S W w' ∧ R w' ∧ ((er = 0 ∧ ∃ v', e = .returned (.tuple #[v', .int .i64 0]) ∧ Tv w' v' t' ∧ Far W.heap.size v') ∨ (er ≠ 0 ∧ e = .returned (.tuple #[.agg #[.slice none 0 0, .slice none 0 0], .int .i64 er])))
set_option maxHeartbeats 8000000 in
set_option maxRecDepth 100000 in
theorem change_do (t t' : Tl.T) (v : Value) (W : World) (hV : Tv W v t) (hT : Tab W) (hr : Tl.right t) (K : FuncId) (caps : Array Value) (er : Int) (S : Nat → Prop) (R : World → Prop)
    (hen : ∀ (args : Array Value) (w : World), (callFunc K args).run Tryd.prog w = .ok (.enter K args) w) (hS : ∀ i, S i → i < W.heap.size) (hR : ∀ X Y : World, (∀ i, i < W.heap.size → Y.heap[i]? = X.heap[i]?) → R X → R Y) (hdo : Does K caps W t t' er S R)
    (hl : er = 0 → t'.ws.length = t.ws.length ∧ t'.ts.length = t.ws.length ∧ (∀ z ∈ t'.ws, (Lit.int .u64 z).wf = true) ∧ ∀ x ∈ t'.ts, encK.ok x) :
    Calls Tryd.prog 33 #[v, .func (.func K) #[] caps] W (Changed W t' er S R) := by
  have HR : Hid (Tl.rightB t = true) := Lib.hid (decide_eq_true hr)
  have HD := Lib.hid hdo
  have HL := Lib.hid hl
  have HSS := Lib.hid (And.intro hS hR)
  have hl64 : t.ws.length ≤ 64 := hr.1
  have HN := Lib.hid hr.2.1
  have hmf : ∀ (fn : Fn) (first cap : Array Value) (w : World), (Instr.makeFunc fn first cap).run Tryd.prog w = .ok (.func fn first cap) w := fun _ _ _ _ => rfl
  have HV := Lib.hid hV
  have HT := Lib.hid hT
  obtain ⟨c0, c1, rfl, hI, hK⟩ := hV
  have HIK := Lib.hid (And.intro hI hK)
  clear hT hr hdo hl hS hR hI hK
  have HC := Lib.hid (Cw.start W c0 c1)
  go_enter_defers Tryd.func33, Tryd.ntmps33
  go_upto_region 2 with fail
  generalize ((W.alloc _).alloc _).alloc _ = w1 at HC ⊢
  obtain ⟨x0, x1⟩ := HC.out.tb.cells
  go_wp2_with fail
  refine (right_any t _ w1 (HV.out.below HC.out.bel) (HT.out.below HC.out.bel)).mono ?_
  rintro e' w2 ⟨rfl, hb2⟩
  rw [HR.out]
  have HC2 := Lib.hid (HC.out.below hb2)
  clear HC x0 x1 hb2 HR
  go_wp2_with fail
  refine (need_yes _ _).mono ?_
  rintro e' w' ⟨rfl, rfl⟩
  obtain ⟨x0, x1⟩ := HC2.out.tb.cells
  go_wp2_with fail
  refine (copied_any t w2 c0 c1 (HIK.out.1.below HC2.out.bel) (HIK.out.2.below HC2.out.bel) hl64 HN.out).mono ?_
  rintro e' w3 ⟨n0, n1, rfl, h0, h1, hne, hg0, hg1, hb3⟩
  have HC3 := Lib.hid (HC2.out.below hb3)
  have HG : Hid (W.heap.size + 1 + 1 < n0 ∧ W.heap.size + 1 + 1 < n1 ∧ n0 ≠ n1 ∧ n0 < w3.heap.size ∧ n1 < w3.heap.size) := Lib.hid (by
    have := HC2.out.eb.lt
    exact ⟨by omega, by omega, hne, h0.lt, h1.lt⟩)
  have hal := (Below.refl w3.heap.size w3).alloc (Nat.le_refl _) (.cells #[.slice (some ⟨n0, 0, none⟩) t.ws.length t.ws.length, .slice (some ⟨n1, 0, none⟩) t.ws.length t.ws.length] 66)
  have HC4 := Lib.hid (HC3.out.below hal)
  have HB4 := Lib.hid (Br.new w3 (.slice (some ⟨n0, 0, none⟩) t.ws.length t.ws.length) (.slice (some ⟨n1, 0, none⟩) t.ws.length t.ws.length))
  have HW4 := Lib.hid (And.intro (h0.below hal) (h1.below hal))
  have HQ4 : Hid (w3.heap.size ≠ n0 ∧ w3.heap.size ≠ n1 ∧ W.heap.size + 1 + 1 < w3.heap.size) := Lib.hid (by have := h0.lt; have := h1.lt; have := HC3.out.eb.lt; omega)
  clear HC2 HC3 hb3 h0 h1 hne hg0 hg1 x0 x1 hal HIK HV
  go_upto_region 4 with fail
  generalize w3.heap.size = rb at HB4 HQ4 ⊢
  generalize w3.alloc _ = w4 at HC4 HB4 HW4 ⊢
  obtain ⟨y0, y1⟩ := HB4.out.cells
  go_wp2_with fail
  refine (HD.out w4 n0 n1 HC4.out.bel HG.out.2.2.1 (by have := HG.out.1; omega) (by have := HG.out.2.1; omega) HW4.out.1 HW4.out.2).mono ?_
  rintro e Y ⟨hbut, hRY, h⟩
  have HRY := Lib.hid hRY
  have HBY := Lib.hid hbut
  have hsz : W.heap.size + 1 + 1 < w4.heap.size := HC4.out.eb.lt
  have hk : ∀ i, W.heap.size ≤ i → i < w4.heap.size → i ≠ n0 → i ≠ n1 → Y.heap[i]? = w4.heap[i]? := fun i h1 h2 h3 h4 => hbut.block i h2 (fun h => by
    rcases h with h | h | h
    · exact h3 h
    · exact h4 h
    · have := HSS.out.1 i h; omega)
  have HE : Hid (Be Y (W.heap.size + 1 + 1) 0) := Lib.hid ((hk _ (by omega) HC4.out.eb.lt (by have := HG.out.1; omega) (by have := HG.out.2.1; omega)).trans HC4.out.eb)
  have HRB : Hid (Bt Y (W.heap.size + 1) (.slice none 0 0) (.slice none 0 0)) := Lib.hid ((hk _ (by omega) HC4.out.rb.lt (by have := HG.out.1; omega) (by have := HG.out.2.1; omega)).trans HC4.out.rb)
  have HBR : Hid (Br Y rb (.slice (some ⟨n0, 0, none⟩) t.ws.length t.ws.length) (.slice (some ⟨n1, 0, none⟩) t.ws.length t.ws.length)) := Lib.hid ((hk _ (by have := HQ4.out.2.2; omega) HB4.out.lt HQ4.out.1 HQ4.out.2.1).trans HB4.out)
  have HBUT : Hid (∀ Z : World, Z.os = Y.os → Z.tape = Y.tape → Z.output = Y.output → Y.heap.size ≤ Z.heap.size → (∀ i, i < W.heap.size → Z.heap[i]? = Y.heap[i]?) → But S W Z ∧ R Z) := Lib.hid (fun Z z1 z2 z3 z4 z5 => by
    refine ⟨⟨z1.trans (HBY.out.os.trans HC4.out.bel.os), z2.trans (HBY.out.tape.trans HC4.out.bel.tape), z3.trans (HBY.out.output.trans HC4.out.bel.output), Nat.le_trans (Nat.le_trans HC4.out.bel.size HBY.out.size) z4, fun i hi hs => ?_⟩, HSS.out.2 Y Z z5 HRY.out⟩
    rw [z5 i hi, HBY.out.block i (Nat.lt_of_lt_of_le hi HC4.out.bel.size) (fun h => by
      rcases h with h | h | h
      · have := HG.out.1; omega
      · have := HG.out.2.1; omega
      · exact hs h)]
    exact HC4.out.bel.block i hi)
  clear hk hbut hRY HC4 HB4 y0 y1 HW4 HD HT hsz HQ4 HBY HRY HSS
  rcases h with ⟨hz, rfl, h0, h1⟩ | ⟨hnz, rfl⟩
  · obtain ⟨y0, y1⟩ := HBR.out.cells
    obtain ⟨r0, r1⟩ := HRB.out.cells
    have rf0 := HRB.out.free 0
    have rf1 := HRB.out.free 1
    have e0 := HE.out.cell
    have ef := HE.out.free
    have HT2 := Lib.hid (HRB.out.set (.slice (some ⟨n0, 0, none⟩) t.ws.length t.ws.length) (.slice (some ⟨n1, 0, none⟩) t.ws.length t.ws.length))
    have HE2 : Hid (Be ((Y.setCell ⟨W.heap.size + 1, 0, none⟩ (.slice (some ⟨n0, 0, none⟩) t.ws.length t.ws.length)).setCell ⟨W.heap.size + 1, 1, none⟩ (.slice (some ⟨n1, 0, none⟩) t.ws.length t.ws.length)) (W.heap.size + 1 + 1) 0) := Lib.hid ((HE.out.other (p := ⟨W.heap.size + 1, 0, none⟩) (by show W.heap.size + 1 + 1 ≠ W.heap.size + 1; omega)).other (p := ⟨W.heap.size + 1, 1, none⟩) (by show W.heap.size + 1 + 1 ≠ W.heap.size + 1; omega))
    have HZ : Hid (∀ i, i ≠ W.heap.size + 1 → i ≠ W.heap.size + 1 + 1 → (((Y.setCell ⟨W.heap.size + 1, 0, none⟩ (.slice (some ⟨n0, 0, none⟩) t.ws.length t.ws.length)).setCell ⟨W.heap.size + 1, 1, none⟩ (.slice (some ⟨n1, 0, none⟩) t.ws.length t.ws.length)).setCell ⟨W.heap.size + 1 + 1, 0, none⟩ (.int .i64 0)).heap[i]? = Y.heap[i]?) := Lib.hid (fun i h1 h2 => by
      rw [Below.heap_setCell _ _ _ _ (show i ≠ (⟨W.heap.size + 1 + 1, 0, none⟩ : Addr).block from h2), Below.heap_setCell _ _ _ _ (show i ≠ (⟨W.heap.size + 1, 1, none⟩ : Addr).block from h1), Below.heap_setCell _ _ _ _ (show i ≠ (⟨W.heap.size + 1, 0, none⟩ : Addr).block from h1)])
    have HF := Lib.hid (HBUT.out (((Y.setCell ⟨W.heap.size + 1, 0, none⟩ (.slice (some ⟨n0, 0, none⟩) t.ws.length t.ws.length)).setCell ⟨W.heap.size + 1, 1, none⟩ (.slice (some ⟨n1, 0, none⟩) t.ws.length t.ws.length)).setCell ⟨W.heap.size + 1 + 1, 0, none⟩ (.int .i64 0)) rfl rfl rfl (by simp [World.setCell]) (fun i hi => HZ.out i (by omega) (by omega)))
    have HW9 := Lib.hid (And.intro ((HZ.out n0 (by have := HG.out.1; omega) (by have := HG.out.1; omega)).trans h0) ((HZ.out n1 (by have := HG.out.2.1; omega) (by have := HG.out.2.1; omega)).trans h1))
    have HL2 := Lib.hid (HL.out hz)
    have HZZ := Lib.hid hz
    clear HBUT HBR HRB HE h0 h1 hz HL HZ
    go_wp2
    refine leaves_cons (f := 52) (args := #[.pointer (some ⟨W.heap.size + 1 + 1, 0, none⟩)]) (by simp) (by simp [go_sem]) ?_
    refine (catch_idle ⟨W.heap.size + 1 + 1, 0, none⟩ _).mono ?_
    rintro e u' w'' ⟨rfl, rfl, rfl⟩
    have c2 := (HE2.out.set 0).cell
    obtain ⟨c3, c4⟩ := (HT2.out.other (p := ⟨W.heap.size + 1 + 1, 0, none⟩) (v := .int .i64 0) (by show W.heap.size + 1 ≠ W.heap.size + 1 + 1; omega)).cells
    generalize ((Y.setCell _ _).setCell _ _).setCell _ _ = w9 at HF HW9 c2 c3 c4 ⊢
    simp [Leaves, settle, results, Tryd.results33, go_sem, c2, c3, c4]
    obtain ⟨l0, l1, k0, k1⟩ := HL2.out
    exact ⟨HF.out.1, HF.out.2, .inl ⟨HZZ.out, _, rfl, ⟨_, _, rfl, Wd.ints HW9.out.1 k0 (by rw [l0]; exact hl64) l0.symm, Td.els HW9.out.2 k1 (by rw [l1]; exact hl64) l1.symm⟩, ⟨_, _, _, _, _, _, rfl, (by intro q hq; cases hq; show W.heap.size ≤ n0; have := HG.out.1; omega), (by intro q hq; cases hq; show W.heap.size ≤ n1; have := HG.out.2.1; omega)⟩⟩⟩
  · have HF := Lib.hid (HBUT.out (Y.setCell ⟨W.heap.size + 1 + 1, 0, none⟩ (.int .i64 er)) rfl rfl rfl (by simp [World.setCell]) (fun i hi => Below.heap_setCell _ _ _ _ (show i ≠ W.heap.size + 1 + 1 by omega)))
    have HN2 := Lib.hid hnz
    clear hnz HBUT HBR
    go_wp2
    refine leaves_cons (f := 52) (args := #[.pointer (some ⟨W.heap.size + 1 + 1, 0, none⟩)]) (by simp) (by simp [go_sem]) ?_
    refine (catch_fault ⟨W.heap.size + 1 + 1, 0, none⟩ 0 er [] _ HE.out.cell HE.out.free).mono ?_
    rintro e u' w'' ⟨rfl, rfl, rfl⟩
    have c2 := (HE.out.set er).cell
    obtain ⟨c3, c4⟩ := (HRB.out.other (p := ⟨W.heap.size + 1 + 1, 0, none⟩) (v := .int .i64 er) (by show W.heap.size + 1 ≠ W.heap.size + 1 + 1; omega)).cells
    generalize Y.setCell _ _ = w9 at HF c2 c3 c4 ⊢
    simp [Leaves, settle, results, Tryd.results33, go_sem, c2, c3, c4]
    exact ⟨HF.out.1, HF.out.2, .inr ⟨HN2.out, rfl⟩⟩
end Go.Proofs.YtjikabalpejmlaaDoor
