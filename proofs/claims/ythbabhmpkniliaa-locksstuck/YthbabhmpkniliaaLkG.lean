/-
  A game in memory: where its locks, its jobs and what was done lie, and what stays while it is written into. No condition.
-/
import Derived.Test.YthbabhmpkniliaaLkP
namespace Go.Proofs.Ythbabhmpkniliaa
open Go.RowKit Go.ChangeAt Go.ChangeShapes Go.WideShapes Go.Sort Go.Deep Lk

/-- The game's lists of the call's own: the locks, what was done, what each job has. -/
def rowL (s : St) : Nat → List Int
  | 0 => s.b
  | 1 => s.D
  | i + 2 => s.h i
/-- Where each one's value lies. -/
def rowA (G Jb : Nat) : Nat → Addr
  | 0 => ⟨G, 0, none⟩
  | 1 => ⟨G, 2, none⟩
  | i + 2 => ⟨Jb, i * 2 + 1, none⟩
def upd (R : Nat → Value) (i : Nat) (v : Value) : Nat → Value := fun j => if j = i then v else R j
theorem upd_same (R : Nat → Value) (i : Nat) (v : Value) : upd R i v i = v := if_pos rfl
theorem upd_ne (R : Nat → Value) {i j : Nat} (v : Value) (h : j ≠ i) : upd R i v j = R j := if_neg h

/-- The cells of the game and of its jobs. -/
structure Cl (G Jb n : Nat) (o : Bool) (w : World) (vl R : Nat → Value) : Prop where
  hG : G < w.heap.size
  hJ : Jb < w.heap.size
  ne : G ≠ Jb
  r : ∀ i, i < n + 2 → w.cell? (rowA G Jb i) = some (R i)
  g1 : w.cell? ⟨G, 1, none⟩ = some (.slice (some ⟨Jb, 0, none⟩) n n)
  g3 : w.cell? ⟨G, 3, none⟩ = some (.bool o)
  l : ∀ i, i < n → w.cell? ⟨Jb, i * 2, none⟩ = some (vl i)
  fG : ∀ p, w.frozen? ⟨G, p, none⟩ = false
  fJ : ∀ p, w.frozen? ⟨Jb, p, none⟩ = false
/-- The lists of the call's own, each in a block of its own. -/
structure Rw (B G Jb n : Nat) (w : World) (X : Nat → List Int) (R : Nat → Value) : Prop where
  own : ∀ i, i < n + 2 → Own .i64 w B 3 (R i) (X i)
  away : ∀ i, i < n + 2 → (R i).ownBlock ≠ some G ∧ (R i).ownBlock ≠ some Jb
  apart : ∀ i j, i < n + 2 → j < n + 2 → i ≠ j → (R i).ownBlock = none ∨ (R i).ownBlock ≠ (R j).ownBlock

theorem Cl.grown {G Jb n : Nat} {o : Bool} {w w' : World} {vl R : Nat → Value} (h : Cl G Jb n o w vl R) {row : Option Nat} (hg : w.grownBy w' row) (h1 : row ≠ some G) (h2 : row ≠ some Jb) : Cl G Jb n o w' vl R := by
  have hsz := hg.size
  have eG : w'.heap[G]? = w.heap[G]? := hg.block G h.hG (fun e => h1 e.symm)
  have eJ : w'.heap[Jb]? = w.heap[Jb]? := hg.block Jb h.hJ (fun e => h2 e.symm)
  have cG : ∀ p, w'.cell? ⟨G, p, none⟩ = w.cell? ⟨G, p, none⟩ := fun p => World.cell?_of_block (w := w) eG
  have cJ : ∀ p, w'.cell? ⟨Jb, p, none⟩ = w.cell? ⟨Jb, p, none⟩ := fun p => World.cell?_of_block (w := w) eJ
  refine ⟨by have := h.hG; omega, by have := h.hJ; omega, h.ne, fun i hi => ?_, by rw [cG]; exact h.g1, by rw [cG]; exact h.g3, fun i hi => by rw [cJ]; exact h.l i hi, fun p => by rw [World.frozen?_of_block (w := w) eG]; exact h.fG p, fun p => by rw [World.frozen?_of_block (w := w) eJ]; exact h.fJ p⟩
  rw [← h.r i hi]
  match i with
  | 0 => exact cG 0
  | 1 => exact cG 2
  | i + 2 => exact cJ _
theorem rowA_block (G Jb i : Nat) : (rowA G Jb i).block = G ∨ (rowA G Jb i).block = Jb := by
  match i with
  | 0 => exact .inl rfl
  | 1 => exact .inl rfl
  | i + 2 => exact .inr rfl
theorem rowA_ne {G Jb : Nat} (ne : G ≠ Jb) {i j : Nat} (h : j ≠ i) : rowA G Jb j ≠ rowA G Jb i := by
  match i, j with
  | 0, 0 => exact absurd rfl h
  | 0, 1 => intro e; cases e
  | 0, j + 2 => intro e; exact ne (congrArg Addr.block e).symm
  | 1, 0 => intro e; cases e
  | 1, 1 => exact absurd rfl h
  | 1, j + 2 => intro e; exact ne (congrArg Addr.block e).symm
  | i + 2, 0 => intro e; exact ne (congrArg Addr.block e)
  | i + 2, 1 => intro e; exact ne (congrArg Addr.block e)
  | i + 2, j + 2 => intro e; have : j * 2 + 1 = i * 2 + 1 := congrArg Addr.off e; omega
theorem frozen_set (w : World) (a : Addr) (v : Value) (q : Addr) : (w.setCell a v).frozen? q = w.frozen? q := World.frozen?_setCell _ _ _ _
theorem Cl.put {G Jb n : Nat} {o : Bool} {w : World} {vl R : Nat → Value} (h : Cl G Jb n o w vl R) {i : Nat} (hi : i < n + 2) (v : Value) : Cl G Jb n o (w.setCell (rowA G Jb i) v) vl (upd R i v) := by
  have hne : ∀ a : Addr, a ≠ rowA G Jb i → (w.setCell (rowA G Jb i) v).cell? a = w.cell? a := fun a ha => World.cell?_setCell_other _ _ _ _ (fun e => ha e.symm)
  refine ⟨by simp [World.setCell]; exact h.hG, by simp [World.setCell]; exact h.hJ, h.ne, fun j hj => ?_, ?_, ?_, fun j hj => ?_, fun p => by rw [frozen_set]; exact h.fG p, fun p => by rw [frozen_set]; exact h.fJ p⟩
  · by_cases e : j = i
    · subst e
      rw [upd_same, World.cell?_setCell_same' _ _ _ (by rw [h.r j hj]; rfl)]
    · rw [upd_ne _ _ e, hne _ (rowA_ne h.ne e)]
      exact h.r j hj
  · rw [hne _ (by match i with
      | 0 => intro e; cases e
      | 1 => intro e; cases e
      | i + 2 => intro e; exact h.ne (congrArg Addr.block e))]
    exact h.g1
  · rw [hne _ (by match i with
      | 0 => intro e; cases e
      | 1 => intro e; cases e
      | i + 2 => intro e; exact h.ne (congrArg Addr.block e))]
    exact h.g3
  · rw [hne _ (by match i with
      | 0 => intro e; exact h.ne (congrArg Addr.block e).symm
      | 1 => intro e; exact h.ne (congrArg Addr.block e).symm
      | i + 2 => intro e; have : j * 2 = i * 2 + 1 := congrArg Addr.off e; omega)]
    exact h.l j hj
theorem Cl.putL {G Jb n : Nat} {o : Bool} {w : World} {vl R : Nat → Value} (h : Cl G Jb n o w vl R) {k : Nat} (hk : k < n) (v : Value) : Cl G Jb n o (w.setCell ⟨Jb, k * 2, none⟩ v) (upd vl k v) R := by
  have hne : ∀ a : Addr, a ≠ ⟨Jb, k * 2, none⟩ → (w.setCell ⟨Jb, k * 2, none⟩ v).cell? a = w.cell? a := fun a ha => World.cell?_setCell_other _ _ _ _ (fun e => ha e.symm)
  refine ⟨by simp [World.setCell]; exact h.hG, by simp [World.setCell]; exact h.hJ, h.ne, fun j hj => ?_, ?_, ?_, fun j hj => ?_, fun p => by rw [frozen_set]; exact h.fG p, fun p => by rw [frozen_set]; exact h.fJ p⟩
  · rw [hne _ (by match j with
      | 0 => intro e; exact h.ne (congrArg Addr.block e)
      | 1 => intro e; exact h.ne (congrArg Addr.block e)
      | j + 2 => intro e; have : j * 2 + 1 = k * 2 := congrArg Addr.off e; omega)]
    exact h.r j hj
  · rw [hne _ (by intro e; exact h.ne (congrArg Addr.block e))]; exact h.g1
  · rw [hne _ (by intro e; exact h.ne (congrArg Addr.block e))]; exact h.g3
  · by_cases e : j = k
    · subst e
      rw [upd_same, World.cell?_setCell_same' _ _ _ (by rw [h.l j hj]; rfl)]
    · rw [upd_ne _ _ e, hne _ (by intro e2; have : j * 2 = k * 2 := congrArg Addr.off e2; omega)]
      exact h.l j hj

theorem Rw.grown {B G Jb n : Nat} {w w' : World} {X : Nat → List Int} {R : Nat → Value} (h : Rw B G Jb n w X R) (hg : w.grownBy w' none) : Rw B G Jb n w' X R :=
  ⟨fun i hi => World.ownsRow.kept (row := none) (h.own i hi) hg (by cases (R i).ownBlock <;> simp), h.away, h.apart⟩
/-- A cell of the game, or of a job, is set: the lists stay. -/
theorem Rw.setc {B G Jb n : Nat} {w : World} {X : Nat → List Int} {R : Nat → Value} (h : Rw B G Jb n w X R) {a : Addr} (ha : a.block = G ∨ a.block = Jb) (v : Value) : Rw B G Jb n (w.setCell a v) X R :=
  ⟨fun i hi => (h.own i hi).other (by rcases ha with e | e <;> rw [e]; exact (h.away i hi).1; exact (h.away i hi).2), h.away, h.apart⟩
/-- One list is another one now: in its block, or in a new one. -/
theorem Rw.put {B G Jb n : Nat} {w w' : World} {X X' : Nat → List Int} {R : Nat → Value} (h : Rw B G Jb n w X R) {i : Nat} (hi : i < n + 2) {row : Option Nat} (hg : w.grownBy w' row) (hrow : row = none ∨ row = (R i).ownBlock)
    (v : Value) (hO : Own .i64 w' B 3 v (X' i)) (hX : ∀ j, j ≠ i → X' j = X j) (hG : G < w.heap.size) (hJ : Jb < w.heap.size)
    (hloc : v.ownBlock = none ∨ v.ownBlock = (R i).ownBlock ∨ ∃ r, v.ownBlock = some r ∧ w.heap.size ≤ r) : Rw B G Jb n w' X' (upd R i v) := by
  have hlt : ∀ j, j < n + 2 → ∀ r, (R j).ownBlock = some r → r < w.heap.size := fun j hj r hr => (World.ownsRow.lt (h.own j hj) r hr).2
  refine ⟨fun j hj => ?_, fun j hj => ?_, fun j k hj hk hne => ?_⟩
  · by_cases e : j = i
    · subst e; rw [upd_same]; exact hO
    · rw [upd_ne _ _ e, hX j e]
      refine World.ownsRow.kept (row := row) (h.own j hj) hg ?_
      rcases hrow with rfl | rfl
      · cases (R j).ownBlock <;> simp
      · exact h.apart j i hj hi e
  · by_cases e : j = i
    · subst e
      rw [upd_same]
      rcases hloc with e1 | e1 | ⟨r, e1, e2⟩
      · rw [e1]; simp
      · rw [e1]; exact h.away j hj
      · rw [e1]; simp; omega
    · rw [upd_ne _ _ e]; exact h.away j hj
  · by_cases ej : j = i
    · subst ej
      rw [upd_same, upd_ne _ _ (Ne.symm hne)]
      rcases hloc with e1 | e1 | ⟨r, e1, e2⟩
      · exact .inl e1
      · rw [e1]; exact h.apart j k hj hk hne
      · right; rw [e1]; intro e3; have := hlt k hk r e3.symm; omega
    · rw [upd_ne _ _ ej]
      by_cases ek : k = i
      · subst ek
        rw [upd_same]
        rcases hloc with e1 | e1 | ⟨r, e1, e2⟩
        · rw [e1]; cases (R j).ownBlock <;> simp
        · rw [e1]; exact h.apart j k hj hk hne
        · right; rw [e1]; intro e3; have := hlt j hj r e3; omega
      · rw [upd_ne _ _ ek]; exact h.apart j k hj hk hne

/-- A game: begun in the world W, with n jobs, at G and Jb. -/
structure Gm (W : World) (G Jb n : Nat) (o : Bool) (w : World) (s : St) (vl R : Nat → Value) : Prop where
  c : Cl G Jb n o w vl R
  r : Rw W.heap.size G Jb n w (rowL s) R
  l : ∀ i, i < n → Ps W (vl i) (s.l i)
  bel : Below W.heap.size W w
  hB : W.heap.size ≤ G ∧ W.heap.size ≤ Jb
  n64 : n ≤ 64
  good : Lk.Good n s
theorem grown_of_below {w w' : World} (h : Below w.heap.size w w') : w.grownBy w' none := ⟨h.os, h.tape, h.output, h.size, fun i hi _ => h.block i hi⟩
theorem Gm.grow {W : World} {G Jb n : Nat} {o : Bool} {w w' : World} {s : St} {vl R : Nat → Value} (h : Gm W G Jb n o w s vl R) (hb : Below w.heap.size w w') : Gm W G Jb n o w' s vl R :=
  ⟨h.c.grown (grown_of_below hb) (by simp) (by simp), h.r.grown (grown_of_below hb), h.l, h.bel.trans (hb.mono h.bel.size), h.hB, h.n64, h.good⟩
/-- What each row holds. -/
theorem Gm.rowI {W : World} {G Jb n : Nat} {o : Bool} {w : World} {s : St} {vl R : Nat → Value} (h : Gm W G Jb n o w s vl R) (i : Nat) : ∀ z ∈ rowL s i, I z := by
  match i with
  | 0 => exact h.good.b.2
  | 1 => exact h.good.d
  | i + 2 => exact (h.good.h i).1
theorem Gm.ints {W : World} {G Jb n : Nat} {o : Bool} {w : World} {s : St} {vl R : Nat → Value} (h : Gm W G Jb n o w s vl R) {i : Nat} (hi : i < n + 2) : Ints .i64 w (R i) (rowL s i) :=
  (h.r.own i hi).ints (fun z hz => i64_wf (h.rowI i z hz))
theorem Gm.ps {W : World} {G Jb n : Nat} {o : Bool} {w : World} {s : St} {vl R : Nat → Value} (h : Gm W G Jb n o w s vl R) {i : Nat} (hi : i < n) : Ps w (vl i) (s.l i) := (h.l i hi).below h.bel
end Go.Proofs.Ythbabhmpkniliaa
