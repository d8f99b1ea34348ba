/-
  A slice of sections, a slice of jobs and a slice of waiters as lists; contract of a job's wants. No condition.
-/
import Derived.Test.YthbabhmpkniliaaLkN
import Derived.Test.YthbabhmpkniliaaLkT
import Derived.Test.YthbabhmpkniliaaSlP
import Derived.Sort.Grow
import Derived.Shelf.SlSortCmp.QuietGrown
namespace Go.Proofs.Ythbabhmpkniliaa
open Go.RowKit Go.ChangeAt Go.ChangeShapes Go.WideShapes Go.Sort Go.Deep Lk

/-- Draws were made and blocks laid, nothing else. -/
def Gr (W w' : World) : Prop := ∃ q os, w' = grow (W.drewN q) os
theorem Gr.refl (W : World) : Gr W W := ⟨0, #[], by rw [grow_empty]; rfl⟩
theorem Gr.drew (W : World) (q : Nat) : Gr W (W.drewN q) := ⟨q, #[], by rw [grow_empty]⟩
theorem Gr.alloc (W : World) (o : Obj) : Gr W (W.alloc o) := ⟨0, #[o], alloc_eq_grow W o⟩
theorem Gr.trans {a b c : World} (h : Gr a b) (k : Gr b c) : Gr a c := by
  obtain ⟨q, os, rfl⟩ := h
  obtain ⟨q', os', rfl⟩ := k
  refine ⟨q + q', os ++ os', ?_⟩
  show grow (grow ((a.drewN q).drewN q') os) os' = _
  rw [grow_grow, World.drewN_drewN]
theorem Gr.below {W w' : World} (h : Gr W w') : Below W.heap.size W w' := by
  obtain ⟨q, os, rfl⟩ := h
  refine ⟨rfl, rfl, rfl, by simp [grow], fun i hi => ?_⟩
  show ((W.drewN q).heap ++ os)[i]? = _
  rw [Array.getElem?_append_left (by show i < W.heap.size; omega)]
  rfl
theorem Gr.cell {W w' : World} (h : Gr W w') {p : Addr} {v : Value} (hp : W.cell? p = some v) : w'.cell? p = some v := (h.below.cell (World.block_lt_of_cell? W p hp)).trans hp

/-- The value v is a slice whose elements are the sections l. -/
def Ps (w : World) (v : Value) (l : List Pr) : Prop :=
  ∃ a cap, v = .slice a l.length cap ∧ (l.length ≤ cap ∧ cap ≤ maxLen) ∧ (∀ x ∈ l, I x.1 ∧ I x.2) ∧
    (l ≠ [] → ∃ b off, a = some ⟨b, off, none⟩ ∧ ∀ i, i < l.length → w.cell? ⟨b, off + i * 2, none⟩ = some (.int .i64 (l.getD i (0, 0)).1) ∧ w.cell? ⟨b, off + i * 2 + 1, none⟩ = some (.int .i64 (l.getD i (0, 0)).2))
theorem Ps.below {w w' : World} {v : Value} {l : List Pr} (h : Ps w v l) (hb : Below w.heap.size w w') : Ps w' v l := by
  obtain ⟨a, cap, rfl, hm, hw, hc⟩ := h
  refine ⟨a, cap, rfl, hm, hw, fun hz => ?_⟩
  obtain ⟨b, off, rfl, hc2⟩ := hc hz
  refine ⟨b, off, rfl, fun i hi => ?_⟩
  rw [hb.cell (p := ⟨b, off + i * 2, none⟩) (World.block_lt_of_cell? w ⟨b, off + i * 2, none⟩ (hc2 i hi).1), hb.cell (p := ⟨b, off + i * 2 + 1, none⟩) (World.block_lt_of_cell? w ⟨b, off + i * 2 + 1, none⟩ (hc2 i hi).2)]
  exact hc2 i hi
theorem Ps.I {w : World} {v : Value} {l : List Pr} (h : Ps w v l) : ∀ x ∈ l, I x.1 ∧ I x.2 := by
  obtain ⟨a, cap, rfl, hm, hw, hc⟩ := h
  exact hw
theorem Ps.parts {w : World} {v : Value} {l : List Pr} (h : Ps w v l) :
    (l = [] ∧ ∃ a cap, v = .slice a 0 cap) ∨ (0 < l.length ∧ ∃ b off cap, v = .slice (some ⟨b, off, none⟩) l.length cap ∧ (l.length ≤ cap ∧ cap ≤ maxLen) ∧ b < w.heap.size ∧ ∀ i, i < l.length → w.cell? ⟨b, off + i * 2, none⟩ = some (.int .i64 (l.getD i (0, 0)).1) ∧ w.cell? ⟨b, off + i * 2 + 1, none⟩ = some (.int .i64 (l.getD i (0, 0)).2)) := by
  obtain ⟨a, cap, rfl, hm, -, hc⟩ := h
  by_cases hz : l = []
  · subst hz; exact .inl ⟨rfl, a, cap, rfl⟩
  · obtain ⟨b, off, rfl, hc2⟩ := hc hz
    have hp : 0 < l.length := List.length_pos_iff.2 hz
    exact .inr ⟨hp, b, off, cap, rfl, hm, World.block_lt_of_cell? w ⟨b, off + 0 * 2, none⟩ (hc2 0 hp).1, hc2⟩

theorem ints_shape {w : World} {v : Value} {l : List Int} (h : Ints .i64 w v l) : ∃ a cap, v = .slice a l.length cap := by
  obtain ⟨a, cap, rfl, -⟩ := h; exact ⟨a, cap, rfl⟩

set_option maxHeartbeats 1000000 in
set_option maxRecDepth 100000 in
theorem wants_gr {W : World} {vl vh : Value} {l : List Pr} {h : List Int} (hl : Ps W vl l) (hh : Ints .i64 W vh h) (o : Bool) :
    Calls Try.prog 41 #[.agg #[vl, vh], .bool o] W fun e w' => e = .returned (.int .i64 (wantsF o l h)) ∧ Gr W w' := by
  obtain ⟨a2, cap2, rfl⟩ := ints_shape hh
  rcases hl.parts with ⟨rfl, a, cap, rfl⟩ | ⟨hp, b, off, cap, rfl, hm, hbl, hc⟩
  · have HE : wantsF o [] h = -1 := rfl
    rw [HE]
    clear hl hh HE
    go_enter Try.func41, Try.ntmps41
    go_wp2
    go_ret
    exact ⟨rfl, Gr.alloc _ _⟩
  · cases l with
    | nil => simp at hp
    | cons p t =>
      obtain ⟨c0, c1⟩ := hc 0 hp
      rw [Nat.zero_mul, Nat.add_zero] at c0 c1
      replace c0 : W.cell? ⟨b, off, none⟩ = some (.int .i64 p.1) := c0
      replace c1 : W.cell? ⟨b, off + 1, none⟩ = some (.int .i64 p.2) := c1
      have d0 : (W.alloc (.cells #[.slice (some ⟨b, off, none⟩) (p :: t).length cap, .slice a2 h.length cap2] 70)).cell? ⟨b, off, none⟩ = some (.int .i64 p.1) := (Gr.alloc W _).cell c0
      have d1 : (W.alloc (.cells #[.slice (some ⟨b, off, none⟩) (p :: t).length cap, .slice a2 h.length cap2] 70)).cell? ⟨b, off + 1, none⟩ = some (.int .i64 p.2) := (Gr.alloc W _).cell c1
      obtain ⟨nl, hnl⟩ : ∃ nl, (p :: t).length = nl := ⟨_, rfl⟩
      obtain ⟨nh, hnh⟩ : ∃ nh, h.length = nh := ⟨_, rfl⟩
      obtain ⟨x, hx⟩ : ∃ x, p.1 = x := ⟨_, rfl⟩
      obtain ⟨y, hy⟩ : ∃ y, p.2 = y := ⟨_, rfl⟩
      obtain ⟨r, hr⟩ : ∃ r, wantsF o (p :: t) h = r := ⟨_, rfl⟩
      have HR := Lib.hid (hr.symm.trans (show wantsF o (p :: t) h = if nh = 0 then lo o p else if nh = 1 ∧ lo o p ≠ hi o p then hi o p else -1 by rw [← hnh]; rfl))
      rw [hr]
      have hp0 : 0 < nl := hnl ▸ hp
      have hd0 : ((nl : Int) == 0) = false := by simp; omega
      rw [hx] at c0 d0
      rw [hy] at c1 d1
      rw [hnl, hnh] at d0 d1 ⊢
      have HX := Lib.hid hx
      have HY := Lib.hid hy
      clear hl hh hc hr hx hy hnl hnh hp hm hbl
      cases o with
      | false =>
        have HL : Hid (lo false p = x) := Lib.hid HX.out
        have HH : Hid (hi false p = y) := Lib.hid HY.out
        rw [HL.out, HH.out] at HR
        go_enter Try.func41, Try.ntmps41
        go_upto_region 3 with fail
        go_quiet (fail)
        by_cases h0 : nh = 0
        · subst h0
          go_wp2
          go_ret
          exact ⟨by rw [HR.out]; rfl, (Gr.alloc _ _).trans (Gr.drew _ _)⟩
        · have hd1 : ((nh : Int) == 0) = false := by simp; omega
          by_cases h1 : nh = 1
          · subst h1
            by_cases h2 : x = y
            · have hd3 : (x == y) = true := by simp [h2]
              have hd4 : (y == x) = true := by simp [h2]
              have HF := Lib.hid h2
              clear h2
              go_wp2
              go_ret
              exact ⟨by rw [HR.out]; simp [HF.out], (Gr.alloc _ _).trans (Gr.drew _ _)⟩
            · have hd3 : (x == y) = false := by simp [h2]
              have hd4 : (y == x) = false := by simp; exact fun e => h2 e.symm
              have HF := Lib.hid h2
              go_wp2
              go_ret
              exact ⟨by rw [HR.out]; simp [HF.out], (Gr.alloc _ _).trans (Gr.drew _ _)⟩
          · have hd2 : ((nh : Int) == 1) = false := by simp; omega
            go_wp2
            go_ret
            exact ⟨by rw [HR.out, if_neg h0, if_neg (fun h => h1 h.1)]; rfl, (Gr.alloc _ _).trans (Gr.drew _ _)⟩
      | true =>
        have HL : Hid (lo true p = min x y) := Lib.hid (by rw [← HX.out, ← HY.out]; rfl)
        have HH : Hid (hi true p = max x y) := Lib.hid (by rw [← HX.out, ← HY.out]; rfl)
        rw [HL.out, HH.out] at HR
        go_enter Try.func41, Try.ntmps41
        go_upto_region 3 with fail
        go_quiet (fail)
        go_wp2_with fail
        refine (pair_any x y _).mono ?_
        rintro e w1 ⟨rfl, rfl⟩
        generalize min x y = fx at HR ⊢
        generalize max x y = fy at HR ⊢
        by_cases h0 : nh = 0
        · subst h0
          go_wp2
          go_ret
          exact ⟨by rw [HR.out]; rfl, (Gr.alloc _ _).trans (Gr.drew _ _)⟩
        · have hd1 : ((nh : Int) == 0) = false := by simp; omega
          by_cases h1 : nh = 1
          · subst h1
            by_cases h2 : fx = fy
            · have hd3 : (fx == fy) = true := by simp [h2]
              have hd4 : (fy == fx) = true := by simp [h2]
              have HF := Lib.hid h2
              clear h2
              go_wp2
              go_ret
              exact ⟨by rw [HR.out]; simp [HF.out], (Gr.alloc _ _).trans (Gr.drew _ _)⟩
            · have hd3 : (fx == fy) = false := by simp [h2]
              have hd4 : (fy == fx) = false := by simp; exact fun e => h2 e.symm
              have HF := Lib.hid h2
              go_wp2
              go_ret
              exact ⟨by rw [HR.out]; simp [HF.out], (Gr.alloc _ _).trans (Gr.drew _ _)⟩
          · have hd2 : ((nh : Int) == 1) = false := by simp; omega
            go_wp2
            go_ret
            exact ⟨by rw [HR.out, if_neg h0, if_neg (fun h => h1 h.1)]; rfl, (Gr.alloc _ _).trans (Gr.drew _ _)⟩
end Go.Proofs.Ythbabhmpkniliaa
