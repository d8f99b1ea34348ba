/-
  A slice of waiters as a list; contract of a game's waiters.
-/
import Derived.Test.YthbabhmpkniliaaLkJ
import Derived.Test.YthbabhmpkniliaaLkH
import Derived.Test.YthbabhmpkniliaaLkQ
import Derived.Deep.RegionHeld3
namespace Go.Proofs.Ythbabhmpkniliaa
open Go.RowKit Go.ChangeAt Go.ChangeShapes Go.WideShapes Go.Sort Go.Deep Lk

/-- The value v is a slice whose elements are the waiters ws. -/
def Wts (w : World) (v : Value) (ws : List Wt) : Prop :=
  ∃ a cap, v = .slice a ws.length cap ∧ (ws.length ≤ cap ∧ cap ≤ maxLen) ∧ (∀ x ∈ ws, I x.2) ∧
    (ws ≠ [] → ∃ b off, a = some ⟨b, off, none⟩ ∧ ∀ i, i < ws.length → ∃ u, w.cell? ⟨b, off + i * 2, none⟩ = some u ∧ Ints .i64 w u (ws.getD i wE).1 ∧ w.cell? ⟨b, off + i * 2 + 1, none⟩ = some (.int .i64 (ws.getD i wE).2))
theorem Wts.below {w w' : World} {v : Value} {ws : List Wt} (h : Wts w v ws) (hb : Below w.heap.size w w') : Wts w' v ws := by
  obtain ⟨a, cap, rfl, hm, hw, hc⟩ := h
  refine ⟨a, cap, rfl, hm, hw, fun hz => ?_⟩
  obtain ⟨b, off, rfl, hc2⟩ := hc hz
  refine ⟨b, off, rfl, fun i hi => ?_⟩
  obtain ⟨u, h1, h2, h3⟩ := hc2 i hi
  exact ⟨u, by rw [hb.cell (p := ⟨b, off + i * 2, none⟩) (World.block_lt_of_cell? w _ h1)]; exact h1, h2.below hb, by rw [hb.cell (p := ⟨b, off + i * 2 + 1, none⟩) (World.block_lt_of_cell? w _ h3)]; exact h3⟩
theorem Wts.parts {w : World} {v : Value} {ws : List Wt} (h : Wts w v ws) :
    ∃ a cap, v = .slice a ws.length cap ∧ ((ws = []) ∨ ∃ b off, a = some ⟨b, off, none⟩ ∧ b < w.heap.size ∧ ∀ i, i < ws.length → ∃ u, w.cell? ⟨b, off + i * 2, none⟩ = some u ∧ Ints .i64 w u (ws.getD i wE).1 ∧ w.cell? ⟨b, off + i * 2 + 1, none⟩ = some (.int .i64 (ws.getD i wE).2)) := by
  obtain ⟨a, cap, rfl, hm, hw, hc⟩ := h
  refine ⟨a, cap, rfl, ?_⟩
  by_cases hz : ws = []
  · exact .inl hz
  · obtain ⟨b, off, rfl, hc2⟩ := hc hz
    obtain ⟨u, h1, -⟩ := hc2 0 (List.length_pos_iff.2 hz)
    exact .inr ⟨b, off, rfl, World.block_lt_of_cell? w _ h1, hc2⟩

/-- The block of waiters, of which k are laid. -/
structure Wf (w : World) (Wb n k : Nat) (R : Nat → Value) (X : Nat → Int) : Prop where
  is : ∀ p, p < n * 2 → ∃ x, w.cell? ⟨Wb, p, none⟩ = some x
  fr : ∀ p, w.frozen? ⟨Wb, p, none⟩ = false
  at' : ∀ i, i < k → w.cell? ⟨Wb, i * 2, none⟩ = some (R (i + 2)) ∧ w.cell? ⟨Wb, i * 2 + 1, none⟩ = some (.int .i64 (X i))
  lt : Wb < w.heap.size
theorem Wf.grow {w w' : World} {Wb n k : Nat} {R : Nat → Value} {X : Nat → Int} (h : Wf w Wb n k R X) (hb : Below w.heap.size w w') : Wf w' Wb n k R X := by
  have c : ∀ p, w'.cell? ⟨Wb, p, none⟩ = w.cell? ⟨Wb, p, none⟩ := fun p => hb.cell (p := ⟨Wb, p, none⟩) h.lt
  exact ⟨fun p hp => by rw [c]; exact h.is p hp, fun p => by rw [hb.frozen (p := ⟨Wb, p, none⟩) h.lt]; exact h.fr p, fun i hi => by rw [c, c]; exact h.at' i hi, Nat.lt_of_lt_of_le h.lt hb.size⟩
theorem Wf.put {w : World} {Wb n k : Nat} {R : Nat → Value} {X : Nat → Int} (h : Wf w Wb n k R X) (hk : k < n) : Wf ((w.setCell ⟨Wb, k * 2, none⟩ (R (k + 2))).setCell ⟨Wb, k * 2 + 1, none⟩ (.int .i64 (X k))) Wb n (k + 1) R X := by
  obtain ⟨x0, h0⟩ := h.is (k * 2) (by omega)
  obtain ⟨x1, h1⟩ := h.is (k * 2 + 1) (by omega)
  have o : ∀ (w : World) (p q : Nat) (v : Value), p ≠ q → (w.setCell ⟨Wb, q, none⟩ v).cell? ⟨Wb, p, none⟩ = w.cell? ⟨Wb, p, none⟩ := fun w p q v hpq => World.cell?_setCell_other _ _ _ _ (fun e => hpq (congrArg Addr.off e).symm)
  have s0 : (w.setCell ⟨Wb, k * 2, none⟩ (R (k + 2))).cell? ⟨Wb, k * 2, none⟩ = some (R (k + 2)) := World.cell?_setCell_same' _ _ _ (by rw [h0]; rfl)
  have s1 : ((w.setCell ⟨Wb, k * 2, none⟩ (R (k + 2))).setCell ⟨Wb, k * 2 + 1, none⟩ (.int .i64 (X k))).cell? ⟨Wb, k * 2 + 1, none⟩ = some (.int .i64 (X k)) := World.cell?_setCell_same' _ _ _ (by rw [o _ _ _ _ (by omega), h1]; rfl)
  refine ⟨fun p hp => ?_, fun p => by rw [frozen_set, frozen_set]; exact h.fr p, fun i hi => ?_, by simp [World.setCell]; exact h.lt⟩
  · by_cases e1 : p = k * 2 + 1
    · subst e1; exact ⟨_, s1⟩
    · rw [o _ _ _ _ e1]
      by_cases e0 : p = k * 2
      · subst e0; exact ⟨_, s0⟩
      · rw [o _ _ _ _ e0]; exact h.is p hp
  · by_cases e : i = k
    · subst e
      exact ⟨by rw [o _ _ _ _ (by omega)]; exact s0, s1⟩
    · rw [o _ _ _ _ (by omega), o _ _ _ _ (by omega), o _ _ _ _ (by omega), o _ _ _ _ (by omega)]
      exact h.at' i (by omega)
theorem ps_shape {w : World} {v : Value} {l : List Pr} (h : Ps w v l) : ∃ a n cap, v = .slice a n cap := by
  obtain ⟨a, cap, rfl, -⟩ := h; exact ⟨a, _, cap, rfl⟩
/-- From block B on the world Y is as w is. -/
def Ab (B : Nat) (w Y : World) : Prop := ∀ k, B ≤ k → k < w.heap.size → Y.heap[k]? = w.heap[k]?
theorem Ab.refl (B : Nat) (w : World) : Ab B w w := fun _ _ _ => rfl
theorem Ab.set (B : Nat) (w : World) {a : Addr} (h : a.block < B) (v : Value) : Ab B w (w.setCell a v) := fun k hk _ => Below.heap_setCell _ _ _ _ (by omega)
theorem Own.ab {k : IntKind} {w Y : World} {B : Nat} {e : TypeId} {v : Value} {zs : List Int} (h : Own k w B e v zs) (hY : Ab B w Y) : Own k Y B e v zs := by
  obtain ⟨hl, hr⟩ := h
  refine ⟨hl, hr.imp id ?_⟩
  rintro ⟨g, cap, cur, e1, h1, h2, h3⟩
  exact ⟨g, cap, cur, e1, h1, (hY g h1 (Array.getElem?_eq_some_iff.1 h2).1).trans h2, h3⟩
theorem info_waiter : (Try.prog.info? 52).map (fun i => (i.zero, i.size, i.bytes)) = some (some (.agg #[.slice none 0 0, .int .i64 0]), 2, 32) := by kernel_rfl

set_option maxHeartbeats 2000000 in
set_option maxRecDepth 100000 in
theorem waiters_any {W w : World} {G Jb n : Nat} {o : Bool} {s : St} {vl R : Nat → Value} (h : Gm W G Jb n o w s vl R) :
    Calls Try.prog 37 #[.pointer (some ⟨G, 0, none⟩)] w fun e w' => (∃ v', e = .returned v' ∧ ∀ Y, Ab W.heap.size w' Y → Wts Y v' (waitF o s)) ∧ Below w.heap.size w w' := by
  have HG := Lib.hid h
  have g1 := h.c.g1
  have hn := h.n64
  obtain ⟨i, hi, hz, hs1, hs2⟩ := info_parts info_waiter
  have hmk : ∀ w : World, (Instr.makeSlice 34 (.int .i64 n) (.int .i64 n)).run Try.prog w = .ok (.slice (some ⟨w.heap.size, 0, none⟩) n n) (w.alloc (.cells (madeCells #[.slice none 0 0, .int .i64 0] (n * 2)) 52)) := fun w => by
    have := run_make w 34 52 i _ Try.underlying34 hi hz .i64 .i64 n n (by omega) (by omega) (by rw [hs2]; omega) (by omega)
    rw [hs1, Int.toNat_natCast] at this
    exact this
  have HW0 : Hid (Wf (w.alloc (.cells (madeCells #[.slice none 0 0, .int .i64 0] (n * 2)) 52)) w.heap.size n 0 R (fun k => wantsF o (s.l k) (s.h k))) := Lib.hid (by
    have hh : (w.alloc (.cells (madeCells #[.slice none 0 0, .int .i64 0] (n * 2)) 52)).heap[w.heap.size]? = some (.cells (madeCells #[.slice none 0 0, .int .i64 0] (n * 2)) 52) := heap_alloc_new w _
    refine ⟨fun p hp => ⟨(madeCells #[.slice none 0 0, .int .i64 0] (n * 2))[p]'(by rw [size_madeCells]; exact hp), ?_⟩, fun p => ?_, fun i hi => absurd hi (Nat.not_lt_zero _), by simp⟩
    · simp only [World.cell?, hh]; simp [hp, size_madeCells]
    · simp only [World.frozen?, hh]; simp)
  have HB0 : Hid (Below w.heap.size w (w.alloc (.cells (madeCells #[.slice none 0 0, .int .i64 0] (n * 2)) 52))) := Lib.hid ((Below.refl _ _).alloc (Nat.le_refl _) _)
  have g1' := (Gr.alloc w (.cells (madeCells #[.slice none 0 0, .int .i64 0] (n * 2)) 52)).cell g1
  clear h hi hz hs1 hs2 i
  go_enter Try.func37, Try.ntmps37
  go_wp2
  generalize w.alloc (.cells (madeCells #[.slice none 0 0, .int .i64 0] (n * 2)) 52) = w2 at HW0 HB0 g1' ⊢
  clear hmk g1
  go_loopw [17] (fun u wr => ∃ k : Nat, k ≤ n ∧ u = .int .i64 k ∧ Hid (Wf wr w.heap.size n k R (fun k => wantsF o (s.l k) (s.h k)) ∧ Below w.heap.size w wr)) (fun u _ => n - (intOf u).toNat)
  case atStart => exact ⟨0, by omega, rfl, Lib.hid ⟨HW0.out, HB0.out⟩⟩
  case round =>
    obtain ⟨k, hk, rfl, HR⟩ := hrel
    clear HW0 HB0 g1'
    by_cases hlt : k < n
    · have HGk := Lib.hid (HG.out.grow HR.out.2)
      have l0 := HGk.out.c.l k hlt
      have l1 : wr.cell? ⟨Jb, k * 2 + 1, none⟩ = some (R (k + 2)) := HGk.out.c.r (k + 2) (by omega)
      have g3 := HGk.out.c.g3
      have HP : Hid (Ps wr (vl k) (s.l k)) := Lib.hid (HGk.out.ps hlt)
      have HI : Hid (Ints .i64 wr (R (k + 2)) (s.h k)) := Lib.hid (HGk.out.ints (i := k + 2) (by omega))
      obtain ⟨a1, n1, c1, e1⟩ := ps_shape HP.out
      obtain ⟨a2, c2, e2⟩ := ints_shape HI.out
      obtain ⟨n2, hn2⟩ : ∃ n2, (s.h k).length = n2 := ⟨_, rfl⟩
      rw [hn2] at e2
      rw [e1] at l0 HP
      rw [e2] at l1 HI
      have HE2 := Lib.hid e2
      clear e1 e2 hn2
      obtain ⟨w5, hw5⟩ : ∃ w5, wr.alloc (.cells #[.slice a1 n1 c1, .slice a2 n2 c2] 70) = w5 := ⟨_, rfl⟩
      have hb5 : Below wr.heap.size wr w5 := by rw [← hw5]; exact (Below.refl _ _).alloc (Nat.le_refl _) _
      have HB5 := Lib.hid hb5
      have HPX : Hid (∀ X, Below w5.heap.size w5 X → Ps X (.slice a1 n1 c1) (s.l k)) := Lib.hid (fun X hX => (HP.out.below hb5).below hX)
      have HIX : Hid (∀ X, Below w5.heap.size w5 X → Ints .i64 X (.slice a2 n2 c2) (s.h k)) := Lib.hid (fun X hX => (HI.out.below hb5).below hX)
      have q0 : w5.cell? ⟨wr.heap.size, 0, none⟩ = some (.slice a1 n1 c1) := by rw [← hw5, World.cell?_alloc_at _ _ _ _ rfl]; rfl
      have q1 : w5.cell? ⟨wr.heap.size, 1, none⟩ = some (.slice a2 n2 c2) := by rw [← hw5, World.cell?_alloc_at _ _ _ _ rfl]; rfl
      have q3 : w5.cell? ⟨G, 3, none⟩ = some (.bool o) := (hb5.cell (World.block_lt_of_cell? wr _ g3)).trans g3
      have HQ := Lib.hid (And.intro q0 (And.intro q1 q3))
      have HWX : Hid (∀ X, Below w5.heap.size w5 X → Wf X w.heap.size n k R (fun k => wantsF o (s.l k) (s.h k))) := Lib.hid (fun X hX => (HR.out.1.grow hb5).grow hX)
      have HSX : Hid (∀ X, Below w5.heap.size w5 X → (X.cell? ⟨wr.heap.size, 0, none⟩ = some (.slice a1 n1 c1) ∧ X.cell? ⟨wr.heap.size, 1, none⟩ = some (.slice a2 n2 c2) ∧ X.cell? ⟨G, 3, none⟩ = some (.bool o))) := Lib.hid (fun X hX =>
        ⟨(hX.cell (World.block_lt_of_cell? w5 _ HQ.out.1)).trans HQ.out.1, (hX.cell (World.block_lt_of_cell? w5 _ HQ.out.2.1)).trans HQ.out.2.1, (hX.cell (World.block_lt_of_cell? w5 _ HQ.out.2.2)).trans HQ.out.2.2⟩)
      have HSZ : Hid (w.heap.size < wr.heap.size ∧ G < w.heap.size) := Lib.hid ⟨HR.out.1.lt, HG.out.c.hG⟩
      have HST : Hid (∀ X x y, Below w5.heap.size w5 X → (((X.setCell ⟨w.heap.size, k * 2, none⟩ x).setCell ⟨w.heap.size, k * 2 + 1, none⟩ y).cell? ⟨wr.heap.size, 0, none⟩ = some (.slice a1 n1 c1) ∧ ((X.setCell ⟨w.heap.size, k * 2, none⟩ x).setCell ⟨w.heap.size, k * 2 + 1, none⟩ y).cell? ⟨wr.heap.size, 1, none⟩ = some (.slice a2 n2 c2) ∧ ((X.setCell ⟨w.heap.size, k * 2, none⟩ x).setCell ⟨w.heap.size, k * 2 + 1, none⟩ y).cell? ⟨G, 3, none⟩ = some (.bool o))) := Lib.hid (fun X x y hX => by
        have h1 := HSX.out X hX
        have h2 := HSZ.out
        rw [cell_far (by show wr.heap.size ≠ w.heap.size; omega), cell_far (by show wr.heap.size ≠ w.heap.size; omega), cell_far (by show wr.heap.size ≠ w.heap.size; omega), cell_far (by show wr.heap.size ≠ w.heap.size; omega), cell_far (by show G ≠ w.heap.size; omega), cell_far (by show G ≠ w.heap.size; omega)]
        exact h1)
      have HBD : Hid (Below w5.heap.size w5 w5.drew) := Lib.hid (Below.refl _ _).drew
      have HBZ : Hid (Below w5.heap.size w5 w5) := Lib.hid (Below.refl _ _)
      have HBW : Hid (Below w.heap.size w w5) := Lib.hid (HR.out.2.trans (hb5.mono HR.out.2.size))
      clear hb5 q0 q1 q3
      go_wp2_with fail
      clear hw5
      go_region_held3 (fun X => X.cell? ⟨wr.heap.size, 0, none⟩ = some (.slice a1 n1 c1) ∧ X.cell? ⟨wr.heap.size, 1, none⟩ = some (.slice a2 n2 c2) ∧ X.cell? ⟨G, 3, none⟩ = some (.bool o))
        (first
          | exact HSX.out _ HBZ.out
          | exact HSX.out _ HBD.out
          | exact HSX.out _ HB6.out
          | exact HST.out _ _ _ HB6.out
          | go_keep)
        (first
          | (go_at_call 41; refine (wants_gr (HPX.out _ HBD.out) (HIX.out _ HBD.out) o).mono ?_; rintro e' w6 ⟨rfl, hg6⟩; have HB6 := Lib.hid (HBD.out.trans hg6.below); have hW6 := HWX.out w6 HB6.out; obtain ⟨y0, z0⟩ := hW6.is (k * 2) (by omega); obtain ⟨y1, z1⟩ := hW6.is (k * 2 + 1) (by omega); have z2 := hW6.fr (k * 2); have z3 := hW6.fr (k * 2 + 1)))
      have HF : Hid (Wf ((w6.setCell ⟨w.heap.size, k * 2, none⟩ (.slice a2 n2 c2)).setCell ⟨w.heap.size, k * 2 + 1, none⟩ (.int .i64 (wantsF o (s.l k) (s.h k)))) w.heap.size n (k + 1) R (fun k => wantsF o (s.l k) (s.h k)) ∧
          Below w.heap.size w ((w6.setCell ⟨w.heap.size, k * 2, none⟩ (.slice a2 n2 c2)).setCell ⟨w.heap.size, k * 2 + 1, none⟩ (.int .i64 (wantsF o (s.l k) (s.h k))))) := Lib.hid (by
        have h1 := (HWX.out w6 HB6.out).put hlt
        rw [HE2.out] at h1
        exact ⟨h1, ((HBW.out.trans (HB6.out.mono HBW.out.size)).setCell (p := ⟨w.heap.size, k * 2, none⟩) (Nat.le_refl _) _).setCell (p := ⟨w.heap.size, k * 2 + 1, none⟩) (Nat.le_refl _) _⟩)
      clear z0 z1 z2 z3 y0 y1 hg6 hW6
      go_wp2
      exact ⟨⟨k + 1, by omega, by go_num, HF⟩, by simp [intOf]; omega⟩
    · obtain rfl : k = n := by omega
      go_wp2
      go_ret
      have hl : (waitF o s).length = k := by unfold waitF; rw [List.length_map, List.length_range, HG.out.good.lenL]
      refine ⟨⟨_, rfl, fun Y hY => ⟨some ⟨w.heap.size, 0, none⟩, k, by rw [hl]; rfl, ⟨by rw [hl]; exact Nat.le_refl _, by unfold maxLen; omega⟩, fun x hx => ?_, fun _ => ⟨w.heap.size, 0, rfl, fun i hi => ?_⟩⟩⟩, HR.out.2⟩
      · unfold waitF at hx
        obtain ⟨j, -, rfl⟩ := List.mem_map.1 hx
        exact wantsF_I (HG.out.good.l j)
      · rw [hl] at hi
        have hGk := HG.out.grow HR.out.2
        have e : (waitF o s).getD i wE = (s.h i, wantsF o (s.l i) (s.h i)) := by
          unfold waitF
          simp [List.getD, HG.out.good.lenL, hi]
        rw [e, Nat.zero_add]
        obtain ⟨h1, h2⟩ := HR.out.1.at' i hi
        have hY2 : ∀ p, Y.cell? ⟨w.heap.size, p, none⟩ = wr.cell? ⟨w.heap.size, p, none⟩ := fun p => World.cell?_of_block (w := wr) (hY w.heap.size HG.out.bel.size HR.out.1.lt)
        exact ⟨R (i + 2), (hY2 _).trans h1, ((hGk.r.own (i + 2) (by omega)).ab hY).ints (fun z hz => i64_wf (hGk.rowI (i + 2) z hz)), (hY2 _).trans h2⟩
end Go.Proofs.Ythbabhmpkniliaa
