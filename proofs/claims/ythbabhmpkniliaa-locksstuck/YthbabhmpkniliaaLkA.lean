/-
  Contracts of locks.isLock, slices.Clone at ints, locks.with, Take, Give, New, Pair.
-/
import Derived.Test.YthbabhmpkniliaaLkM
import Derived.Laws.OwnMore
import Derived.Deep.AppendLies
import Derived.Deep.QuietTactic
import Derived.BigQuiet
import Derived.WalkSmall
import Derived.Lib.Hide
import Derived.Handy
namespace Go.Proofs.Ythbabhmpkniliaa
open Go.RowKit Go.ChangeAt Go.ChangeShapes Go.WideShapes Lk

theorem ints_info : (Try.prog.info? 3).map (fun i => (i.zero, i.size, i.bytes)) = some (some (.int .i64 0), 1, 8) := by kernel_rfl
/-- A number that an int holds. -/
def J (z : Int) : Prop := -9223372036854775808 ≤ z ∧ z ≤ 9223372036854775807
theorem J.wf {z : Int} (h : J z) : (Lit.int .i64 z).wf = true := i64_wf h

theorem isLock_any {W : World} {v : Value} {l : List Int} (h : Ints .i64 W v l) (lock : Int) :
    Calls Try.prog 28 #[.agg #[v], .int .i64 lock] W fun e w' => e = .returned (.bool (isL l lock)) ∧ Below W.heap.size W w' := by
  obtain ⟨a, cap, rfl, hm, -, -⟩ := h
  by_cases h0 : 0 ≤ lock
  · obtain ⟨k, rfl⟩ : ∃ k : Nat, lock = k := ⟨lock.toNat, by omega⟩
    by_cases hk : k < l.length
    · have HI := Lib.hid (isL_mk hk)
      rw [HI.out]
      go_enter Try.func28, Try.ntmps28
      go_wp2
      go_ret
      exact ⟨rfl, (Below.refl _ _).alloc (Nat.le_refl _) _⟩
    · have HI := Lib.hid (isL_ge (l := l) (k := k) (by omega))
      rw [HI.out]
      go_enter Try.func28, Try.ntmps28
      go_wp2
      go_ret
      exact ⟨rfl, (Below.refl _ _).alloc (Nat.le_refl _) _⟩
  · have HI := Lib.hid (isL_neg (l := l) (lock := lock) (by omega))
    rw [HI.out]
    go_enter Try.func28, Try.ntmps28
    go_wp2
    go_ret
    exact ⟨rfl, (Below.refl _ _).alloc (Nat.le_refl _) _⟩

/-- slices.Clone at ints. -/
theorem clone_any {W : World} {v : Value} {l : List Int} (h : Ints .i64 W v l) (hl : l.length ≤ 1000) :
    Calls Try.prog 39 #[v] W fun e w' => (∃ v', e = .returned v' ∧ Own .i64 w' W.heap.size 3 v' l) ∧ Below W.heap.size W w' := by
  have HN := Lib.hid h
  obtain ⟨a, cap, rfl, hc1, hw, hc2⟩ := h
  cases a with
  | none =>
    have h0 : l = [] := by
      by_cases h : l = []
      · exact h
      · obtain ⟨b, off, e, -⟩ := hc2 h; cases e
    subst h0
    have hbe : ∀ w, (binOp BinOp.eql 22 (.slice none 0 cap) (.slice none 0 0)).run Try.prog w = .ok (.bool true) w := by intro w; rfl
    clear hc2 hw
    go_enter Try.func39, Try.ntmps39
    go_wp2
    go_ret
    exact ⟨⟨_, rfl, Own.nil _ _ _ _⟩, Below.refl _ _⟩
  | some A =>
    have hbe : ∀ w, (binOp BinOp.eql 22 (.slice (some A) l.length cap) (.slice none 0 0)).run Try.prog w = .ok (.bool false) w := by intro w; rfl
    clear hc2 hw
    go_enter Try.func39, Try.ntmps39
    go_wp2_with (refine wpList_append_ints (k := .i64) (bytes := 8) rfl (.tmp 5) (.tmp 6) 22 rfl W.heap.size 3 Try.underlying22 ints_info (by decide) [] l (by simp [Act.eval]; exact World.ownsRow_made W #[] 0 (Nat.le_refl _) (Nat.zero_le _) rfl) (by simp [Act.eval]; exact (HN.out.below ((Below.refl _ _).alloc (Nat.le_refl _) _))) (by simp only [List.length_nil]; omega) (by simp) ?_; intro v' w2 hO2 hb2)
    have HF := Lib.hid (And.intro hO2 ((((Below.refl W.heap.size W).alloc (Nat.le_refl _) (.cells #[] 3))).trans hb2))
    clear hO2 hb2
    go_wp2_with fail
    go_ret
    exact ⟨⟨v', rfl, by simpa using HF.out.1⟩, HF.out.2⟩

theorem Own.mono {k : IntKind} {w : World} {B B' : Nat} {e : TypeId} {v : Value} {zs : List Int} (h : Own k w B e v zs) (hb : B' ≤ B) : Own k w B' e v zs := by
  obtain ⟨hl, hr⟩ := h
  refine ⟨hl, hr.imp id ?_⟩
  rintro ⟨g, cap, cur, e1, h1, h2⟩
  exact ⟨g, cap, cur, e1, Nat.le_trans hb h1, h2⟩
/-- One number of a slice of the call's own is set. -/
theorem Own.set {w : World} {B : Nat} {e : TypeId} {g cap : Nat} {zs : List Int} (h : Own .i64 w B e (.slice (some ⟨g, 0, none⟩) zs.length cap) zs) (j : Nat) (z : Int) :
    Own .i64 (w.setCell ⟨g, j, none⟩ (.int .i64 z)) B e (.slice (some ⟨g, 0, none⟩) zs.length cap) (zs.set j z) := by
  have := (World.ownsRow.stored h j (.int .i64 z)).1
  unfold Own
  rw [List.length_set, List.map_set]
  exact this

theorem cell_far {w : World} {p a : Addr} {v : Value} (h : a.block ≠ p.block) : (w.setCell p v).cell? a = w.cell? a := by simp only [World.cell?, Below.heap_setCell _ _ _ _ h]
/-- A cell of a block that is kept. -/
theorem cell_kept {B : Nat} {w w' : World} {p : Addr} {x : Value} (hb : Below B w w') (hp : p.block < B) (hc : w.cell? p = some x) (hf : w.frozen? p = false) : w'.cell? p = some x ∧ w'.frozen? p = false :=
  ⟨(hb.cell hp).trans hc, (hb.frozen hp).trans hf⟩
theorem at_new (w : World) (x : Value) (t : TypeId) : (w.alloc (.cells #[x] t)).cell? ⟨w.heap.size, 0, none⟩ = some x ∧ (w.alloc (.cells #[x] t)).frozen? ⟨w.heap.size, 0, none⟩ = false := by
  have hh : (w.alloc (.cells #[x] t)).heap[w.heap.size]? = some (.cells #[x] t) := heap_alloc_new w _
  constructor
  · simp only [World.cell?, hh]; rfl
  · simp only [World.frozen?, hh]; rfl
theorem res_kept {W w1 : World} {o : Obj} {x : Value} {t : TypeId} (hb : Below ((W.alloc o).alloc (.cells #[x] t)).heap.size ((W.alloc o).alloc (.cells #[x] t)) w1) :
    w1.cell? ⟨W.heap.size + 1, 0, none⟩ = some x ∧ w1.frozen? ⟨W.heap.size + 1, 0, none⟩ = false := by
  have h := at_new (W.alloc o) x t
  simp only [show (W.alloc o).heap.size = W.heap.size + 1 by simp] at h
  exact cell_kept hb (by simp) h.1 h.2

theorem Own.other {k : IntKind} {w : World} {B : Nat} {e : TypeId} {v : Value} {zs : List Int} (h : Own k w B e v zs) {a : Addr} {u : Value} (hne : v.ownBlock ≠ some a.block) : Own k (w.setCell a u) B e v zs :=
  World.ownsRow.kept (row := some a.block) h ⟨rfl, rfl, rfl, by simp [World.setCell], fun j _ hj => Below.heap_setCell _ _ _ _ (fun e => hj (by rw [e]))⟩ (.inr hne)

set_option maxRecDepth 100000 in
theorem with_any {W : World} {v : Value} {l : List Int} (h : Ints .i64 W v l) (hl : l.length ≤ 1000) {k : Nat} (hk : k < l.length) (who : Int) :
    Calls Try.prog 29 #[.agg #[v], .int .i64 k, .int .i64 who] W fun e w' => (∃ v', e = .returned (.agg #[v']) ∧ Own .i64 w' W.heap.size 3 v' (l.set k who)) ∧ Below W.heap.size W w' := by
  have HN := Lib.hid h
  clear h
  go_enter Try.func29, Try.ntmps29
  go_wp2_with fail
  refine (clone_any (HN.out.below (((Below.refl _ _).alloc (Nat.le_refl _) _).alloc (by simp) _)) hl).mono ?_
  rintro e w1 ⟨⟨v', rfl, hO⟩, hb⟩
  obtain ⟨g, cap, rfl, hg1, hg2⟩ := World.ownsRow.form hO (by omega)
  have hcell : w1.cell? ⟨g, k, none⟩ = some (.int .i64 (l.getD k 0)) := by
    have := World.ownsRow.cellAt hO k (by omega)
    rw [this]; simp [List.getD, hk]
  have hfr : w1.frozen? ⟨g, k, none⟩ = false := World.ownsRow.frozenAt hO k
  have HO := Lib.hid hO
  have HB : Hid (Below W.heap.size W w1) := Lib.hid (bOn (((Below.refl W.heap.size W).alloc (Nat.le_refl _) _).alloc (by simp) _) hb)
  have HG : Hid (W.heap.size ≤ g) := Lib.hid (by simp at hg1; omega)
  have HG2 : Hid (W.heap.size + 1 < w1.heap.size) := Lib.hid (by have := hb.size; simp at this; omega)
  have hne : ¬ g = W.heap.size + 1 := by simp at hg1; omega
  obtain ⟨hr1, hr2⟩ := res_kept hb
  clear hO hb hg1 hg2
  have hs := World.cell?_setCell_same' (w1.setCell ⟨g, k, none⟩ (.int .i64 who)) ⟨W.heap.size + 1, 0, none⟩ (.slice (some ⟨g, 0, none⟩) l.length cap) (by rw [cell_far (fun e => hne e.symm), hr1]; rfl)
  have HS := Lib.hid hs
  clear hs
  go_wp2
  refine bodyPost_ret (v := .agg #[.slice (some ⟨g, 0, none⟩) l.length cap]) (by simp [results, Try.results29, go_sem, HS.out]) rfl ⟨⟨_, rfl, ?_⟩, ?_⟩
  · exact ((HO.out.set k who).mono (by have := HG.out; simp; omega)).other (by intro e; have := HG.out; simp [Value.ownBlock] at e; omega)
  · exact (HB.out.setCell (by exact HG.out) _).setCell (by show W.heap.size ≤ W.heap.size + 1; omega) _

/-- Taking. -/
def Took (W : World) (E : Int) (l : List Int) (e : Ending) (w' : World) : Prop :=
  (∃ v', e = .returned (.tuple #[.agg #[v'], .int .i64 E]) ∧ Own .i64 w' W.heap.size 3 v' l) ∧ Below W.heap.size W w'
end Go.Proofs.Ythbabhmpkniliaa
