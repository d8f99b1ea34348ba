/-
  Contracts of layer 14: vacant, Right, Check, Live.
-/
import Derived.Test.YtjikabalpejmlaaDoorTlA
namespace Go.Proofs.YtjikabalpejmlaaDoor
open Go.RowKit Go.Deep Pk Lf
open Mk (V allM cpus fstI anyB)

/-- A table in a box of its own. -/
def Bt (w : World) (n : Nat) (c0 c1 : Value) : Prop := w.heap[n]? = some (.cells #[c0, c1] 25)
theorem Bt.new (w : World) (c0 c1 : Value) : Bt (w.alloc (.cells #[c0, c1] 25)) w.heap.size c0 c1 := heap_alloc_new w _
theorem Bt.below {w w' : World} {n : Nat} {c0 c1 : Value} (h : Bt w n c0 c1) (hb : Below w.heap.size w w') : Bt w' n c0 c1 := (hb.block n (Array.getElem?_eq_some_iff.1 h).1).trans h
theorem Bt.lt {w : World} {n : Nat} {c0 c1 : Value} (h : Bt w n c0 c1) : n < w.heap.size := (Array.getElem?_eq_some_iff.1 h).1
theorem Bt.cells {w : World} {n : Nat} {c0 c1 : Value} (h : Bt w n c0 c1) : w.cell? ⟨n, 0, none⟩ = some c0 ∧ w.cell? ⟨n, 1, none⟩ = some c1 := by
  refine ⟨?_, ?_⟩ <;> simp [World.cell?, show w.heap[n]? = _ from h]
theorem Bt.free {w : World} {n : Nat} {c0 c1 : Value} (h : Bt w n c0 c1) (i : Nat) : w.frozen? ⟨n, i, none⟩ = false := by
  simp [World.frozen?, show w.heap[n]? = _ from h]
/-- A handle in a box of its own. -/
def Bh (w : World) (n : Nat) (x : Tl.Hd) : Prop := w.heap[n]? = some (.cells #[.int .i64 x.slot, .int .i64 x.gen] 27)
theorem Bh.new (w : World) (x : Tl.Hd) : Bh (w.alloc (.cells #[.int .i64 x.slot, .int .i64 x.gen] 27)) w.heap.size x := heap_alloc_new w _
theorem Bh.below {w w' : World} {n : Nat} {x : Tl.Hd} (h : Bh w n x) (hb : Below w.heap.size w w') : Bh w' n x := (hb.block n (Array.getElem?_eq_some_iff.1 h).1).trans h
theorem Bh.lt {w : World} {n : Nat} {x : Tl.Hd} (h : Bh w n x) : n < w.heap.size := (Array.getElem?_eq_some_iff.1 h).1
theorem Bh.cells {w : World} {n : Nat} {x : Tl.Hd} (h : Bh w n x) : w.cell? ⟨n, 0, none⟩ = some (.int .i64 x.slot) ∧ w.cell? ⟨n, 1, none⟩ = some (.int .i64 x.gen) := by
  refine ⟨?_, ?_⟩ <;> simp [World.cell?, show w.heap[n]? = _ from h]
theorem Bh.free {w : World} {n : Nat} {x : Tl.Hd} (h : Bh w n x) (i : Nat) : w.frozen? ⟨n, i, none⟩ = false := by
  simp [World.frozen?, show w.heap[n]? = _ from h]

/-! ### vacant -/
set_option maxHeartbeats 1000000 in
theorem vac1_any (n : Int) (hn : U n) (W : World) (hT : Tab W) :
    Calls Tryd.prog 56 #[.int .u64 n] W fun e w' => e = .returned (.bool (Tl.fr n)) ∧ Below W.heap.size W w' := by
  have HU := Lib.hid hn
  have HT := Lib.hid hT
  by_cases hk : K n = 0
  · have HF : Hid (Tl.fr n = decide (G n < 4294967295)) := Lib.hid (by unfold Tl.fr; rw [decide_eq_true hk]; rfl)
    have HK := Lib.hid hk
    clear hn hT hk
    go_enter Tryd.func56, Tryd.ntmps56
    go_wp2_with fail
    refine (kind_any n HU.out _ HT.out).mono ?_
    rintro e' w_h1 ⟨rfl, h1⟩
    rw [HK.out]
    have H1 := Lib.hid h1
    clear h1
    go_wp2_with fail
    refine (gen_any n HU.out _ (HT.out.below H1.out)).mono ?_
    rintro e' w_h2 ⟨rfl, h2⟩
    have H2 := Lib.hid (bOn H1.out h2)
    clear h2
    go_wp2
    go_ret
    exact ⟨by rw [HF.out]; rfl, H2.out⟩
  · have HF : Hid (Tl.fr n = false) := Lib.hid (by unfold Tl.fr; rw [decide_eq_false hk]; rfl)
    have hkd : (K n == 0) = false := by simp [hk]
    clear hn hT hk
    go_enter Tryd.func56, Tryd.ntmps56
    go_wp2_with fail
    refine (kind_any n HU.out _ HT.out).mono ?_
    rintro e' w_h1 ⟨rfl, h1⟩
    have H1 := Lib.hid h1
    clear h1
    go_wp2
    go_ret
    exact ⟨by rw [HF.out]; rfl, H1.out⟩

set_option maxHeartbeats 1000000 in
theorem indexFr_any (ws : List Int) (v : Value) (W : World) (hI : Ints .u64 W v ws) (hT : Tab W) :
    Calls Tryd.prog 55 #[v, .func (.func 56) #[] #[]] W fun e w' => e = .returned (.int .i64 (Tl.vacI ws)) ∧ Below W.heap.size W w' := by
  have HI := Lib.hid hI
  have HT := Lib.hid hT
  obtain ⟨a, cap, rfl, hm, -, -⟩ := hI
  obtain ⟨n, hn⟩ : ∃ n, ws.length = n := ⟨_, rfl⟩
  have hl : n ≤ 9223372036854775807 := by rw [← hn]; unfold maxLen at hm; omega
  have HN := Lib.hid hn
  rw [hn]
  clear hn hm hT
  go_enter Tryd.func55, Tryd.ntmps55
  go_wp2
  go_loopw [8] (fun i wr => ∃ k : Nat, k ≤ n ∧ i = .int .i64 k ∧ Hid ((∀ j, j < k → Tl.fr (ws.getD j 0) = false) ∧ Below W.heap.size W wr)) (fun i _ => n - (intOf i).toNat)
  case atStart => exact ⟨0, by omega, rfl, Lib.hid ⟨fun j hj => absurd hj (Nat.not_lt_zero _), Below.refl _ _⟩⟩
  case round =>
    obtain ⟨k, hk, rfl, HJ⟩ := hrel
    by_cases hlt : k < n
    · rcases HI.out.parts with ⟨h, -⟩ | ⟨-, -, b, off, cap', hv, hb, hc⟩
      · have := HN.out; rw [h] at this; simp at this; omega
      simp only [Value.slice.injEq] at hv
      obtain ⟨rfl, -, rfl⟩ := hv
      have c0 := (HJ.out.2.cell (p := ⟨b, off + k, none⟩) hb).trans (hc k (by rw [HN.out]; exact hlt))
      have HU : Hid (U (ws.getD k 0)) := Lib.hid (pkU_of_wf (HI.out.wf _ (by rw [List.getD_eq_getElem?_getD, List.getElem?_eq_getElem (by rw [HN.out]; exact hlt)]; exact List.getElem_mem _)))
      clear hc hb
      obtain ⟨z, hz⟩ : ∃ z, ws.getD k 0 = z := ⟨_, rfl⟩
      rw [hz] at c0 HU
      have HZ := Lib.hid hz
      clear hz
      go_wp2_with fail
      refine (vac1_any z HU.out wr (HT.out.below HJ.out.2)).mono ?_
      rintro e' w2 ⟨rfl, hb2⟩
      have HB2 := Lib.hid (HJ.out.2.trans (hb2.mono HJ.out.2.size))
      clear hb2 c0
      cases hf : Tl.fr z with
      | true =>
        have HR : Hid (Tl.vacI ws = (k : Int)) := Lib.hid (by
          have := Tl.vac_at (ws := ws) (i := k) (by rw [HN.out]; exact hlt) (by rw [HZ.out]; exact hf) HJ.out.1
          unfold Tl.vacI; rw [this, if_pos (by rw [HN.out]; exact hlt)])
        clear hf HJ
        go_wp2
        go_ret
        exact ⟨by rw [HR.out]; rfl, HB2.out⟩
      | false =>
        have HS : Hid (∀ j, j < k + 1 → Tl.fr (ws.getD j 0) = false) := Lib.hid (fun j hj => by
          by_cases e : j = k
          · subst e; rw [HZ.out]; exact hf
          · exact HJ.out.1 j (by omega))
        clear hf HJ
        go_wp2
        exact ⟨⟨k + 1, by omega, by go_num, Lib.hid ⟨HS.out, HB2.out⟩⟩, by simp [intOf]; omega⟩
    · obtain rfl : k = n := by omega
      have HR : Hid (Tl.vacI ws = -1) := Lib.hid (by
        have := Tl.vac_none (ws := ws) (fun j hj => HJ.out.1 j (by rw [← HN.out]; exact hj))
        unfold Tl.vacI; rw [this, if_neg (by omega)])
      go_wp2
      go_ret
      exact ⟨by rw [HR.out]; rfl, HJ.out.2⟩
theorem vacant_any (ws : List Int) (v : Value) (W : World) (hI : Ints .u64 W v ws) (hT : Tab W) :
    Calls Tryd.prog 39 #[v] W fun e w' => e = .returned (.int .i64 (Tl.vacI ws)) ∧ Below W.heap.size W w' := by
  have HI := Lib.hid hI
  have HT := Lib.hid hT
  obtain ⟨a, cap, rfl, hm, -, -⟩ := hI
  clear hT hm
  go_enter Tryd.func39, Tryd.ntmps39
  go_wp2_with fail
  refine (indexFr_any ws _ _ HI.out HT.out).mono ?_
  rintro e' w_h1 ⟨rfl, h1⟩
  have H1 := Lib.hid h1
  clear h1
  go_wp2
  go_ret
  exact ⟨rfl, H1.out⟩

/-! ### Right -/
set_option maxHeartbeats 4000000 in
theorem right_any (t : Tl.T) (v : Value) (W : World) (hV : Tv W v t) (hT : Tab W) :
    Calls Tryd.prog 21 #[v] W fun e w' => e = .returned (.bool (Tl.rightB t)) ∧ Below W.heap.size W w' := by
  obtain ⟨c0, c1, rfl, hI, hK⟩ := hV
  have HB1 := Lib.hid ((Below.refl W.heap.size W).alloc (Nat.le_refl _) (.cells #[c0, c1] 25))
  have HX1 := Lib.hid (Bt.new W c0 c1)
  have HI1 := Lib.hid (hI.below HB1.out)
  have HK1 := Lib.hid (hK.below HB1.out)
  have HT1 := Lib.hid (hT.below HB1.out)
  obtain ⟨a0, p0, rfl, hm0, -, -⟩ := hI
  obtain ⟨a1, p1, rfl, hm1, -, -⟩ := hK
  obtain ⟨n0, hn0⟩ : ∃ n, t.ws.length = n := ⟨_, rfl⟩
  obtain ⟨n1, hn1⟩ : ∃ n, t.ts.length = n := ⟨_, rfl⟩
  have HN0 := Lib.hid hn0
  have HN1 := Lib.hid hn1
  rw [hn0] at HB1 HX1 HI1 HK1 HT1 hm0 ⊢
  rw [hn1] at HB1 HX1 HI1 HK1 HT1 hm1 ⊢
  clear hn0 hn1 hT
  unfold maxLen at hm0
  have hq1 : n1 ≤ 9223372036854775807 := by have := hm1; unfold maxLen at this; omega
  clear hm1
  go_enter Tryd.func21, Tryd.ntmps21
  go_upto_region 1 with fail
  generalize W.alloc _ = w1 at HX1 HB1 HI1 HK1 HT1 ⊢
  obtain ⟨x0, x1⟩ := HX1.out.cells
  by_cases hlen : n0 ≤ 64
  · by_cases heq : n1 = n0
    · subst heq
      have hd : decide ((n1 : Int) > 64) = false := decide_eq_false (by omega)
      go_wp2
      go_loopw [21] (fun i wr => ∃ k : Nat, k ≤ n1 ∧ i = .int .i64 k ∧ Hid ((∀ j, j < k → Tl.fits (Tl.W t j) (Tl.X t j)) ∧ Below w1.heap.size w1 wr)) (fun i _ => n1 - (intOf i).toNat)
      case atStart => exact ⟨0, by omega, rfl, Lib.hid ⟨fun j hj => absurd hj (Nat.not_lt_zero _), Below.refl _ _⟩⟩
      case round =>
        obtain ⟨k, hk, rfl, HJ⟩ := hrel
        by_cases hlt : k < n1
        · rcases HI1.out.parts with ⟨h, -⟩ | ⟨-, -, b, off, cap', hv, hb, hc⟩
          · have := HN0.out; rw [h] at this; simp at this; omega
          simp only [Value.slice.injEq] at hv
          obtain ⟨rfl, -, rfl⟩ := hv
          rcases Ks.parts HK1.out with ⟨h, -⟩ | ⟨-, b', off', cap'', hv, -, hb', hc'⟩
          · have := HN1.out; rw [h] at this; simp at this; omega
          simp only [Value.slice.injEq] at hv
          obtain ⟨rfl, -, rfl⟩ := hv
          have d0 := (HJ.out.2.cell (p := ⟨b, off + k, none⟩) hb).trans (hc k (by rw [HN0.out]; exact hlt))
          obtain ⟨e0, e1, e2⟩ := hc' k (by rw [HN1.out]; exact hlt)
          have d1 := (HJ.out.2.cell (p := ⟨b', off' + k * 3, none⟩) hb').trans e0
          have d2 := (HJ.out.2.cell (p := ⟨b', off' + k * 3 + 1, none⟩) hb').trans e1
          have d3 := (HJ.out.2.cell (p := ⟨b', off' + k * 3 + 2, none⟩) hb').trans e2
          have y0 := (HJ.out.2.cell (p := ⟨W.heap.size, 0, none⟩) HX1.out.lt).trans x0
          have y1 := (HJ.out.2.cell (p := ⟨W.heap.size, 1, none⟩) HX1.out.lt).trans x1
          have HU : Hid (U (Tl.W t k)) := Lib.hid (pkU_of_wf (HI1.out.wf _ (by unfold Tl.W; rw [List.getD_eq_getElem?_getD, List.getElem?_eq_getElem (by rw [HN0.out]; exact hlt)]; exact List.getElem_mem _)))
          clear hc hb hc' hb' e0 e1 e2
          obtain ⟨z, hz⟩ : ∃ z, Tl.W t k = z := ⟨_, rfl⟩
          obtain ⟨x, hx⟩ : ∃ x, Tl.X t k = x := ⟨_, rfl⟩
          change wr.cell? _ = some (.int .u64 (Tl.W t k)) at d0
          change wr.cell? _ = some (.int .i64 (Tl.X t k).nice) at d1
          change wr.cell? _ = some (.int .u64 ((Tl.X t k).mask : Int)) at d2
          change wr.cell? _ = some (.int .i64 (Tl.X t k).lag) at d3
          rw [hz] at d0 HU
          rw [hx] at d1 d2 d3
          have HZ := Lib.hid (And.intro hz hx)
          clear hz hx x0 x1
          go_wp2_with fail
          refine (fits_any z HU.out x wr (HT1.out.below HJ.out.2)).mono ?_
          rintro e' w2 ⟨rfl, hb2⟩
          have HB2 := Lib.hid (HJ.out.2.trans (hb2.mono HJ.out.2.size))
          clear hb2 d0 d1 d2 d3 y0 y1
          cases hf : Tl.fitsB z x with
          | false =>
            have HR : Hid (Tl.rightB t = false) := Lib.hid (decide_eq_false fun e => by
              have := e.2.2 k (by rw [HN0.out]; exact hlt)
              rw [HZ.out.1, HZ.out.2] at this
              exact (of_decide_eq_false hf) this)
            clear hf HJ
            go_wp2
            go_ret
            exact ⟨by rw [HR.out]; rfl, HB1.out.trans (HB2.out.mono HB1.out.size)⟩
          | true =>
            have HS : Hid (∀ j, j < k + 1 → Tl.fits (Tl.W t j) (Tl.X t j)) := Lib.hid (fun j hj => by
              by_cases e : j = k
              · subst e; rw [HZ.out.1, HZ.out.2]; exact of_decide_eq_true hf
              · exact HJ.out.1 j (by omega))
            clear hf HJ
            go_wp2
            exact ⟨⟨k + 1, by omega, by go_num, Lib.hid ⟨HS.out, HB2.out⟩⟩, by simp [intOf]; omega⟩
        · obtain rfl : k = n1 := by omega
          have HR : Hid (Tl.rightB t = true) := Lib.hid (decide_eq_true ⟨by rw [HN0.out]; exact hlen, by rw [HN0.out, HN1.out], fun i hi => HJ.out.1 i (by rw [← HN0.out]; exact hi)⟩)
          go_wp2
          go_ret
          exact ⟨by rw [HR.out]; rfl, HB1.out.trans (HJ.out.2.mono HB1.out.size)⟩
    · have HR : Hid (Tl.rightB t = false) := Lib.hid (decide_eq_false fun e => heq (by rw [← HN0.out, ← HN1.out]; exact e.2.1))
      have hd : decide ((n0 : Int) > 64) = false := decide_eq_false (by omega)
      have hd2 : ((n1 : Int) != (n0 : Int)) = true := by simp; omega
      clear heq
      go_wp2
      go_ret
      exact ⟨by rw [HR.out]; rfl, HB1.out⟩
  · have HR : Hid (Tl.rightB t = false) := Lib.hid (decide_eq_false fun e => hlen (by rw [← HN0.out]; exact e.1))
    have hd : decide ((n0 : Int) > 64) = true := decide_eq_true (by omega)
    go_wp2
    go_ret
    exact ⟨by rw [HR.out]; rfl, HB1.out⟩
end Go.Proofs.YtjikabalpejmlaaDoor
