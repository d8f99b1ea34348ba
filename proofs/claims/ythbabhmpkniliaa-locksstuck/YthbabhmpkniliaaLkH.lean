/-
  A slice of jobs as a list; contract of mayPlay.
-/
import Derived.Test.YthbabhmpkniliaaLkP
namespace Go.Proofs.Ythbabhmpkniliaa
open Go.RowKit Go.ChangeAt Go.ChangeShapes Go.WideShapes Go.Sort Go.Deep Lk

/-- The value v is a slice whose elements are the jobs js. -/
def Jbs (w : World) (v : Value) (js : List (List Pr)) : Prop :=
  ∃ a cap, v = .slice a js.length cap ∧ (js.length ≤ cap ∧ cap ≤ maxLen) ∧
    (js ≠ [] → ∃ b off, a = some ⟨b, off, none⟩ ∧ ∀ i, i < js.length → ∃ u, w.cell? ⟨b, off + i, none⟩ = some u ∧ Ps w u (js.getD i []))
theorem Jbs.below {w w' : World} {v : Value} {js : List (List Pr)} (h : Jbs w v js) (hb : Below w.heap.size w w') : Jbs w' v js := by
  obtain ⟨a, cap, rfl, hm, hc⟩ := h
  refine ⟨a, cap, rfl, hm, fun hz => ?_⟩
  obtain ⟨b, off, rfl, hc2⟩ := hc hz
  refine ⟨b, off, rfl, fun i hi => ?_⟩
  obtain ⟨u, h1, h2⟩ := hc2 i hi
  exact ⟨u, by rw [hb.cell (p := ⟨b, off + i, none⟩) (World.block_lt_of_cell? w ⟨b, off + i, none⟩ h1)]; exact h1, h2.below hb⟩
theorem Jbs.parts {w : World} {v : Value} {js : List (List Pr)} (h : Jbs w v js) :
    ∃ a cap, v = .slice a js.length cap ∧ ((js = []) ∨ ∃ b off, a = some ⟨b, off, none⟩ ∧ b < w.heap.size ∧ ∀ i, i < js.length → ∃ u, w.cell? ⟨b, off + i, none⟩ = some u ∧ Ps w u (js.getD i [])) := by
  obtain ⟨a, cap, rfl, hm, hc⟩ := h
  refine ⟨a, cap, rfl, ?_⟩
  by_cases hz : js = []
  · exact .inl hz
  · obtain ⟨b, off, rfl, hc2⟩ := hc hz
    obtain ⟨u, h1, -⟩ := hc2 0 (List.length_pos_iff.2 hz)
    exact .inr ⟨b, off, rfl, World.block_lt_of_cell? w ⟨b, off + 0, none⟩ h1, hc2⟩

/-- May a job be? -/
def okJ (l : List Int) (j : List Pr) : Bool := j.all (fun p => isL l p.1 && isL l p.2)
theorem mayF_eq (l : List Int) (js : List (List Pr)) : mayF l js = if 64 < js.length then 2 else if js.all (okJ l) then 0 else 1 := rfl
theorem all_bad {α : Type} {f : α → Bool} {l : List α} {k : Nat} {d : α} (hk : k < l.length) (h : f (l.getD k d) = false) : l.all f = false := by
  rw [List.all_eq_false]
  exact ⟨l.getD k d, by simp [List.getD, hk], by rw [h]; decide⟩
theorem all_more {α : Type} {f : α → Bool} {l : List α} {k : Nat} {d : α} (hk : k < l.length) (h : (l.take k).all f = true) (h2 : f (l.getD k d) = true) : (l.take (k + 1)).all f = true := by
  rw [List.take_add_one, List.getElem?_eq_getElem hk]
  simp only [List.all_append, h, Bool.true_and, Option.toList_some, List.all_cons, List.all_nil, Bool.and_true]
  simpa [List.getD, hk] using h2

set_option maxHeartbeats 2000000 in
set_option maxRecDepth 100000 in
theorem mayPlay_any {W : World} {vb vj vp : Value} {l ps : List Int} {js : List (List Pr)} (hb : Ints .i64 W vb l) (hj : Jbs W vj js) (hp : Ints .i64 W vp ps) (hps : ps.length ≤ 20000) :
    Calls Try.prog 35 #[.agg #[vb], vj, vp] W fun e w' => e = .returned (.int .i64 (mayF l js)) ∧ Below W.heap.size W w' := by
  obtain ⟨ap, capp, rfl⟩ := ints_shape hp
  obtain ⟨a, cap, rfl, hc⟩ := hj.parts
  have HN := Lib.hid hb
  rw [mayF_eq]
  by_cases h64 : 64 < js.length
  · rw [if_pos h64]
    have hd : decide ((js.length : Int) > 64) = true := decide_eq_true (by omega)
    clear hp hj hc hb
    go_enter Try.func35, Try.ntmps35
    go_wp2
    go_ret
    exact ⟨rfl, (Below.refl _ _).alloc (Nat.le_refl _) _⟩
  · rw [if_neg h64]
    have hd : decide ((js.length : Int) > 64) = false := decide_eq_false (by omega)
    obtain ⟨r, hr⟩ : ∃ r : Int, (if js.all (okJ l) = true then 0 else 1) = r := ⟨_, rfl⟩
    have HF := Lib.hid hr
    rw [hr]
    clear hr
    have hd2 : decide ((ps.length : Int) > 20000) = false := decide_eq_false (by omega)
    have HC := Lib.hid hc
    clear hp hj hc hb
    go_enter Try.func35, Try.ntmps35
    go_wp2
    have HB0 := Lib.hid (at_new W vb 24)
    have HW : Hid (Below W.heap.size W (W.alloc (.cells #[vb] 24))) := Lib.hid ((Below.refl _ _).alloc (Nat.le_refl _) _)
    have HS : Hid (W.heap.size < (W.alloc (.cells #[vb] 24)).heap.size) := Lib.hid (by simp)
    generalize W.alloc (.cells #[vb] 24) = W1 at HB0 HW HS ⊢
    go_loopw [21] (fun i wr => ∃ k : Nat, k ≤ js.length ∧ i = .int .i64 k ∧ Hid ((js.take k).all (okJ l) = true ∧ Below W1.heap.size W1 wr)) (fun i _ => js.length - (intOf i).toNat)
    case atStart => exact ⟨0, by omega, rfl, Lib.hid ⟨by simp, Below.refl _ _⟩⟩
    case round =>
      obtain ⟨k, hk, rfl, HR⟩ := hrel
      by_cases hlt : k < js.length
      · obtain ⟨b, off, rfl, hbl, hcs⟩ : ∃ b off, a = some ⟨b, off, none⟩ ∧ b < W.heap.size ∧ ∀ i, i < js.length → ∃ u, W.cell? ⟨b, off + i, none⟩ = some u ∧ Ps W u (js.getD i []) := by
          rcases HC.out with h | h
          · rw [h] at hlt; simp at hlt
          · exact h
        obtain ⟨u, hu, hps2⟩ := hcs k hlt
        have HBk := Lib.hid (bOn HW.out (HR.out.2))
        have hu1 : wr.cell? ⟨b, off + k, none⟩ = some u := (HBk.out.cell (p := ⟨b, off + k, none⟩) hbl).trans hu
        obtain ⟨j, hj⟩ : ∃ j, js.getD k [] = j := ⟨_, rfl⟩
        rw [hj] at hps2
        have HJ := Lib.hid hj
        have HPS := Lib.hid hps2
        obtain ⟨au, capu, rfl, hcu, -⟩ := hps2
        have hjm : j.length ≤ 9223372036854775807 := by unfold maxLen at hcu; omega
        clear hcu
        clear hcs hu hj
        go_wp2
        go_loopw [27] (fun i wq => ∃ q : Nat, q ≤ j.length ∧ i = .int .i64 q ∧ Hid (okJ l (j.take q) = true ∧ Below W1.heap.size W1 wq)) (fun i _ => j.length - (intOf i).toNat)
        case atStart => exact ⟨0, by omega, rfl, Lib.hid ⟨by simp [okJ], HR.out.2⟩⟩
        case round =>
          obtain ⟨q, hq, rfl, HQ⟩ := hrel
          by_cases hlq : q < j.length
          · rcases HPS.out.parts with ⟨h0, -⟩ | ⟨-, bq, oq, cq, he, hcq, hbq, hcell⟩
            · rw [h0] at hlq; simp at hlq
            obtain ⟨rfl⟩ : au = some ⟨bq, oq, none⟩ := by simp only [Value.slice.injEq] at he; exact he.1
            have HBq := Lib.hid (bOn HW.out HQ.out.2)
            obtain ⟨x, hx⟩ : ∃ x, j.getD q (0, 0) = x := ⟨_, rfl⟩
            have c := hcell q hlq
            rw [hx] at c
            have HX := Lib.hid hx
            have c0 : wr.cell? ⟨bq, oq + q * 2, none⟩ = some (.int .i64 x.1) := (HBq.out.cell (p := ⟨bq, oq + q * 2, none⟩) hbq).trans c.1
            have c1 : wr.cell? ⟨bq, oq + q * 2 + 1, none⟩ = some (.int .i64 x.2) := (HBq.out.cell (p := ⟨bq, oq + q * 2 + 1, none⟩) hbq).trans c.2
            have HBox := Lib.hid (cell_kept HQ.out.2 HS.out HB0.out.1 HB0.out.2).1
            have box := (Gr.alloc wr (.cells #[.int .i64 x.1, .int .i64 x.2] 55)).cell HBox.out
            have HB2 : Hid (Below wr.heap.size wr (wr.alloc (.cells #[.int .i64 x.1, .int .i64 x.2] 55))) := Lib.hid ((Below.refl _ _).alloc (Nat.le_refl _) _)
            have HNq := Lib.hid ((HN.out.below HBq.out).below HB2.out)
            have e0 : (wr.alloc (.cells #[.int .i64 x.1, .int .i64 x.2] 55)).cell? ⟨wr.heap.size, 0, none⟩ = some (.int .i64 x.1) := by rw [World.cell?_alloc_at _ _ _ _ rfl]; rfl
            have e1 : (wr.alloc (.cells #[.int .i64 x.1, .int .i64 x.2] 55)).cell? ⟨wr.heap.size, 1, none⟩ = some (.int .i64 x.2) := by rw [World.cell?_alloc_at _ _ _ _ rfl]; rfl
            have HSq : Hid (W1.heap.size ≤ wr.heap.size) := Lib.hid HQ.out.2.size
            have HBr : Hid (Below W1.heap.size W1 (wr.alloc (.cells #[.int .i64 x.1, .int .i64 x.2] 55))) := Lib.hid (HQ.out.2.alloc HSq.out _)
            have HE0 := Lib.hid (And.intro e0 e1)
            have HBX := Lib.hid box
            clear c hcell he hx
            have HLT : Hid (wr.heap.size < (wr.alloc (.cells #[.int .i64 x.1, .int .i64 x.2] 55)).heap.size) := Lib.hid (by simp)
            go_wp2_with fail
            generalize wr.alloc (.cells #[.int .i64 x.1, .int .i64 x.2] 55) = w5 at HNq HBr HE0 HBX HLT HB2 e0 e1 box ⊢
            cases h1 : isL l x.1 with
            | false =>
              have H1 := Lib.hid h1
              clear h1
              refine (isLock_any HNq.out x.1).mono ?_
              rintro e w6 ⟨rfl, hb6⟩
              rw [H1.out]
              have HB6 : Hid (Below W1.heap.size W1 w6) := Lib.hid (HBr.out.trans (hb6.mono (by have := HLT.out; have := HSq.out; omega)))
              clear hb6
              go_wp2
              go_ret
              have hbad : okJ l j = false := all_bad (d := (0, 0)) hlq (by rw [HX.out, H1.out]; rfl)
              have hf := HF.out
              rw [if_neg (by rw [all_bad (f := okJ l) (d := []) hlt (by rw [HJ.out]; exact hbad)]; decide)] at hf
              subst hf
              exact ⟨rfl, bOn HW.out HB6.out⟩
            | true =>
              have H1 := Lib.hid h1
              clear h1
              refine (isLock_any HNq.out x.1).mono ?_
              rintro e w6 ⟨rfl, hb6⟩
              rw [H1.out]
              have HB6 : Hid (Below W1.heap.size W1 w6) := Lib.hid (HBr.out.trans (hb6.mono (by have := HLT.out; have := HSq.out; omega)))
              have f1 : w6.cell? ⟨wr.heap.size, 1, none⟩ = some (.int .i64 x.2) := (hb6.cell (p := ⟨wr.heap.size, 1, none⟩) HLT.out).trans HE0.out.2
              have fb : w6.cell? ⟨W.heap.size, 0, none⟩ = some vb := (hb6.cell (p := ⟨W.heap.size, 0, none⟩) (by have := HLT.out; have := HSq.out; have := HS.out; show W.heap.size < w5.heap.size; omega)).trans HBX.out
              have HN6 := Lib.hid (HNq.out.below hb6)
              clear hb6 e0 e1 box
              go_wp2_with fail
              cases h2 : isL l x.2 with
              | false =>
                have H2 := Lib.hid h2
                clear h2
                refine (isLock_any HN6.out x.2).mono ?_
                rintro e w7 ⟨rfl, hb7⟩
                rw [H2.out]
                have HB7 : Hid (Below W1.heap.size W1 w7) := Lib.hid (HB6.out.trans (hb7.mono HB6.out.size))
                clear hb7
                go_wp2
                go_ret
                have hbad : okJ l j = false := all_bad (d := (0, 0)) hlq (by rw [HX.out, H1.out, H2.out]; rfl)
                have hf := HF.out
                rw [if_neg (by rw [all_bad (f := okJ l) (d := []) hlt (by rw [HJ.out]; exact hbad)]; decide)] at hf
                subst hf
                exact ⟨rfl, bOn HW.out HB7.out⟩
              | true =>
                have H2 := Lib.hid h2
                clear h2
                refine (isLock_any HN6.out x.2).mono ?_
                rintro e w7 ⟨rfl, hb7⟩
                rw [H2.out]
                have HB7 : Hid (Below W1.heap.size W1 w7) := Lib.hid (HB6.out.trans (hb7.mono HB6.out.size))
                clear hb7
                go_wp2
                refine ⟨⟨q + 1, by omega, by go_num, Lib.hid ⟨?_, HB7.out⟩⟩, by simp [intOf]; omega⟩
                exact all_more (d := (0, 0)) hlq HQ.out.1 (by rw [HX.out, H1.out, H2.out]; rfl)
          · obtain rfl : q = j.length := by omega
            have HA := Lib.hid HQ.out.1
            rw [List.take_length] at HA
            go_wp2
            exact ⟨⟨k + 1, by omega, by go_num, Lib.hid ⟨all_more (d := []) hlt HR.out.1 (by rw [HJ.out]; exact HA.out), HQ.out.2⟩⟩, by simp [intOf]; omega⟩
      · obtain rfl : k = js.length := by omega
        have HA := Lib.hid HR.out.1
        rw [List.take_length] at HA
        go_wp2
        go_ret
        have hf := HF.out
        rw [if_pos HA.out] at hf
        subst hf
        exact ⟨rfl, bOn HW.out HR.out.2⟩
end Go.Proofs.Ythbabhmpkniliaa
