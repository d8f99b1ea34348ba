/-
  The document's own answers of layer 14: Right, Check, Live.
-/
import Derived.Test.YtjikabalpejmlaaDoorTlR
namespace Go.Proofs.YtjikabalpejmlaaDoor
open Go.RowKit Go.Deep Pk Lf
open Mk (V allM cpus fstI anyB)

theorem neK0 (x : Tl.Tk) (w : World) : (binOp BinOp.neq 52 (.agg #[.int .i64 x.nice, .int .u64 (x.mask : Int), .int .i64 x.lag]) (.agg #[.int .i64 0, .int .u64 0, .int .i64 0])).run Tryd.prog w = .ok (.bool (!decide (x = Tl.k0))) w := by
  obtain ⟨a, b, c⟩ := x
  have u0 := Tryd.underlying3
  have u1 := Tryd.underlying28
  have hS : Tryd.prog.underlying 52 = some (.struct (Tryd.prog.fieldsOf 52)) := by kernel_rfl
  have hp : Tryd.prog.stoodInHeld 52 = false := by kernel_rfl
  have e : decide ((⟨a, b, c⟩ : Tl.Tk) = Tl.k0) = (a == 0 && ((b : Int) == 0 && c == 0)) := by
    rw [Bool.eq_iff_iff]
    unfold Tl.k0
    simp only [decide_eq_true_eq, Tl.Tk.mk.injEq, Bool.and_eq_true, beq_iff_eq]
    omega
  rw [e, run_neq_struct, show (10000 : Nat) = 9999 + 1 from rfl, run_equalIn_agg w 9999 52 _ _ hS hp]
  simp only [Program.fieldsOf, Tryd.underlying52]
  go_simp
  by_cases h1 : a = 0 <;> by_cases h2 : b = 0 <;> by_cases h3 : c = 0 <;> simp [h1, h2, h3]
/-- A task in a box. -/
def Bk (w : World) (n : Nat) (x : Tl.Tk) : Prop := w.heap[n]? = some (.cells #[.int .i64 x.nice, .int .u64 (x.mask : Int), .int .i64 x.lag] 52)
theorem Bk.new (w : World) (x : Tl.Tk) : Bk (w.alloc (.cells #[.int .i64 x.nice, .int .u64 (x.mask : Int), .int .i64 x.lag] 52)) w.heap.size x := heap_alloc_new w _
theorem Bk.lt {w : World} {n : Nat} {x : Tl.Tk} (h : Bk w n x) : n < w.heap.size := (Array.getElem?_eq_some_iff.1 h).1
theorem Bk.below {w w' : World} {n : Nat} {x : Tl.Tk} (h : Bk w n x) (hb : Below w.heap.size w w') : Bk w' n x := (hb.block n h.lt).trans h
theorem Bk.cells {w : World} {n : Nat} {x : Tl.Tk} (h : Bk w n x) : w.cell? ⟨n, 0, none⟩ = some (.int .i64 x.nice) ∧ w.cell? ⟨n, 1, none⟩ = some (.int .u64 (x.mask : Int)) ∧ w.cell? ⟨n, 2, none⟩ = some (.int .i64 x.lag) := by
  refine ⟨?_, ?_, ?_⟩ <;> simp [World.cell?, show w.heap[n]? = _ from h]

set_option maxHeartbeats 16000000 in
set_option maxRecDepth 100000 in
theorem rright_any (t : Tl.T) (v : Value) (W : World) (hV : Tv W v t) :
    Calls Tryd.prog 20 #[v] W fun e w' => e = .returned (.bool (Tl.rightB t)) ∧ Below W.heap.size W w' := by
  obtain ⟨c0, c1, rfl, hI, hK⟩ := hV
  have HB1 := Lib.hid ((Below.refl W.heap.size W).alloc (Nat.le_refl _) (.cells #[c0, c1] 25))
  have HX1 := Lib.hid (Bt.new W c0 c1)
  have HI1 := Lib.hid (hI.below HB1.out)
  have HK1 := Lib.hid (hK.below HB1.out)
  obtain ⟨a0, p0, rfl, hm0, -, -⟩ := hI
  obtain ⟨a1, p1, rfl, hm1, -, -⟩ := hK
  obtain ⟨n0, hn0⟩ : ∃ n, t.ws.length = n := ⟨_, rfl⟩
  obtain ⟨n1, hn1⟩ : ∃ n, t.ts.length = n := ⟨_, rfl⟩
  have HN0 := Lib.hid hn0
  have HN1 := Lib.hid hn1
  rw [hn0] at HB1 HX1 HI1 HK1 hm0 ⊢
  rw [hn1] at HB1 HX1 HI1 HK1 hm1 ⊢
  clear hn0 hn1
  unfold maxLen at hm0
  have hq1 : n1 ≤ 9223372036854775807 := by have := hm1; unfold maxLen at this; omega
  clear hm1
  go_enter Tryd.func20, Tryd.ntmps20
  go_upto_region 1 with fail
  generalize W.alloc _ = w1 at HX1 HB1 HI1 HK1 ⊢
  obtain ⟨x0, x1⟩ := HX1.out.cells
  by_cases hlen : n0 ≤ 64
  case neg =>
    have HR : Hid (Tl.rightB t = false) := Lib.hid (decide_eq_false fun e => hlen (by rw [← HN0.out]; exact e.1))
    have hd : decide ((n0 : Int) > 64) = true := decide_eq_true (by omega)
    go_wp2
    go_ret
    exact ⟨by rw [HR.out]; rfl, HB1.out⟩
  by_cases heq : n0 = n1
  case neg =>
    have HR : Hid (Tl.rightB t = false) := Lib.hid (decide_eq_false fun e => heq (by rw [← HN0.out, ← HN1.out]; exact e.2.1.symm))
    have hd : decide ((n0 : Int) > 64) = false := decide_eq_false (by omega)
    have hd2 : ((n0 : Int) != (n1 : Int)) = true := by simp; omega
    clear heq
    go_wp2
    go_ret
    exact ⟨by rw [HR.out]; rfl, HB1.out⟩
  subst heq
  have hd : decide ((n0 : Int) > 64) = false := decide_eq_false (by omega)
  go_wp2
  go_loopw [3] (fun i wr => ∃ k : Nat, k ≤ n0 ∧ i = .int .i64 k ∧ Hid ((∀ j, j < k → Tl.fits (Tl.W t j) (Tl.X t j)) ∧ Below w1.heap.size w1 wr)) (fun i _ => n0 - (intOf i).toNat)
  case atStart => exact ⟨0, by omega, rfl, Lib.hid ⟨fun j hj => absurd hj (Nat.not_lt_zero _), Below.refl _ _⟩⟩
  case round =>
    obtain ⟨k, hk, rfl, HJ⟩ := hrel
    have y0 := (HJ.out.2.cell (p := ⟨W.heap.size, 0, none⟩) HX1.out.lt).trans x0
    have y1 := (HJ.out.2.cell (p := ⟨W.heap.size, 1, none⟩) HX1.out.lt).trans x1
    clear x0 x1
    by_cases hlt : k < n0
    case neg =>
      obtain rfl : k = n0 := by omega
      have HR : Hid (Tl.rightB t = true) := Lib.hid (decide_eq_true ⟨by rw [HN0.out]; exact hlen, by rw [HN0.out, HN1.out], fun i hi => HJ.out.1 i (by rw [← HN0.out]; exact hi)⟩)
      go_wp2
      go_ret
      exact ⟨by rw [HR.out]; rfl, HB1.out.trans (HJ.out.2.mono HB1.out.size)⟩
    rcases HI1.out.parts with ⟨h, -⟩ | ⟨-, -, b, off, cap', hv, hb, hc⟩
    · have := HN0.out; rw [h] at this; simp at this; omega
    simp only [Value.slice.injEq] at hv
    obtain ⟨rfl, -, rfl⟩ := hv
    rcases Ks.parts HK1.out with ⟨h, -⟩ | ⟨-, b', off', cap'', hv, -, hb', hc'⟩
    · have := HN1.out; rw [h] at this; simp at this; omega
    simp only [Value.slice.injEq] at hv
    obtain ⟨rfl, -, rfl⟩ := hv
    have d0 := (HJ.out.2.cell (p := ⟨b, off + k, none⟩) hb).trans (hc k (by rw [HN0.out]; exact hlt))
    have HTC : Hid (∀ Y, Below w1.heap.size w1 Y → Y.cell? ⟨b', off' + k * 3, none⟩ = some (.int .i64 (Tl.X t k).nice) ∧ Y.cell? ⟨b', off' + k * 3 + 1, none⟩ = some (.int .u64 ((Tl.X t k).mask : Int)) ∧ Y.cell? ⟨b', off' + k * 3 + 2, none⟩ = some (.int .i64 (Tl.X t k).lag)) := Lib.hid (fun Y hY => by
      obtain ⟨e0, e1, e2⟩ := hc' k (by rw [HN1.out]; exact hlt)
      exact ⟨(hY.cell (p := ⟨b', off' + k * 3, none⟩) hb').trans e0, (hY.cell (p := ⟨b', off' + k * 3 + 1, none⟩) hb').trans e1, (hY.cell (p := ⟨b', off' + k * 3 + 2, none⟩) hb').trans e2⟩)
    have HU : Hid (U (Tl.W t k)) := Lib.hid (pkU_of_wf (HI1.out.wf _ (by unfold Tl.W; rw [List.getD_eq_getElem?_getD, List.getElem?_eq_getElem (by rw [HN0.out]; exact hlt)]; exact List.getElem_mem _)))
    clear hc hb hc' hb'
    obtain ⟨z, hz⟩ : ∃ z, Tl.W t k = z := ⟨_, rfl⟩
    obtain ⟨x, hx⟩ : ∃ x, Tl.X t k = x := ⟨_, rfl⟩
    change wr.cell? _ = some (.int .u64 (Tl.W t k)) at d0
    rw [hz] at d0 HU
    rw [hx] at HTC
    have HBAD : Hid (Tl.fitsB z x = false → Tl.rightB t = false) := Lib.hid (fun hf => decide_eq_false fun e => by
      have := e.2.2 k (by rw [HN0.out]; exact hlt)
      rw [hz, hx] at this
      exact (of_decide_eq_false hf) this)
    have HGOOD : Hid (Tl.fitsB z x = true → ∀ j, j < k + 1 → Tl.fits (Tl.W t j) (Tl.X t j)) := Lib.hid (fun hf j hj => by
      by_cases e : j = k
      · subst e; rw [hz, hx]; exact of_decide_eq_true hf
      · exact HJ.out.1 j (by omega))
    have HJB := Lib.hid HJ.out.2
    clear hz hx HJ
    go_wp2_with fail
    refine (runpack_any z HU.out wr).mono ?_
    rintro e' w2 ⟨rfl, hb2⟩
    have hb3 := bOn hb2 ((Below.refl w2.heap.size w2).alloc (Nat.le_refl _) (.cells #[.int .i64 (uK z), .int .i64 (uC z), .bool (uB z), .int .i64 (uS z), .int .i64 (uG z)] 79))
    have HS3 := Lib.hid (St.new w2 (uK z) (uC z) (uB z) (uS z) (uG z))
    have HB3 := Lib.hid (HJB.out.trans (hb3.mono HJB.out.size))
    have y0' := (HB3.out.cell (p := ⟨W.heap.size, 0, none⟩) HX1.out.lt).trans HX1.out.cells.1
    have y1' := (HB3.out.cell (p := ⟨W.heap.size, 1, none⟩) HX1.out.lt).trans HX1.out.cells.2
    obtain ⟨t0, t1, t2⟩ := HTC.out _ HB3.out
    clear hb2 hb3 d0 y0 y1
    go_upto_region 7 with fail
    generalize w2.heap.size = sb at HS3 ⊢
    generalize w2.alloc _ = w3 at HS3 HB3 y0' y1' t0 t1 t2 ⊢
    have HA4 := Lib.hid ((Below.refl w3.heap.size w3).alloc (Nat.le_refl _) (.cells #[.int .i64 x.nice, .int .u64 (x.mask : Int), .int .i64 x.lag] 52))
    have HK4 := Lib.hid (Bk.new w3 x)
    have HS4 := Lib.hid (HS3.out.below HA4.out HS3.out.lt)
    have HB4 := Lib.hid (HB3.out.trans (HA4.out.mono HB3.out.size))
    go_upto_region 8 with fail
    clear y0' y1' t0 t1 t2 HA4 HS3
    generalize w3.heap.size = kb at HK4 ⊢
    generalize w3.alloc _ = w4 at HS4 HB4 HK4 ⊢
    obtain ⟨k0, k1, k2⟩ := HK4.out.cells
    obtain ⟨⟨s0, -⟩, -⟩ := HS4.out.all
    have hq := neK0 x
    by_cases hw : isW z
    case neg =>
      obtain ⟨-, -, -, -, -, he⟩ := un_no hw
      rw [he]
      have HR := Lib.hid (HBAD.out (fits_bad hw))
      clear he hw
      go_wp2
      go_ret
      exact ⟨by rw [HR.out]; rfl, HB1.out.trans (HB4.out.mono HB1.out.size)⟩
    obtain ⟨hk, -, -, -, -, he⟩ := un_yes hw
    rw [he]
    rw [hk] at s0
    clear he hk
    by_cases hz : K z = 0
    · have HF := Lib.hid (fits_free (x := x) hw hz)
      rw [hz] at s0
      clear hw hz
      by_cases hx : x = Tl.k0
      · have HG := Lib.hid (HGOOD.out (by rw [HF.out]; exact decide_eq_true hx))
        have e1 : (!decide (x = Tl.k0)) = false := by simp [hx]
        rw [e1] at hq
        clear hx e1
        go_wp2
        exact ⟨⟨k + 1, by omega, by go_num, Lib.hid ⟨HG.out, HB4.out⟩⟩, by simp [intOf]; omega⟩
      · have HR := Lib.hid (HBAD.out (by rw [HF.out]; exact decide_eq_false hx))
        have e1 : (!decide (x = Tl.k0)) = true := by simp [hx]
        rw [e1] at hq
        clear hx e1
        go_wp2
        go_ret
        exact ⟨by rw [HR.out]; rfl, HB1.out.trans (HB4.out.mono HB1.out.size)⟩
    · have HF := Lib.hid (fits_task (x := x) hw hz)
      have ez : (K z == 0) = false := by simp [hz]
      have ez2 : (K z != 0) = true := by simp [hz]
      have HNO : Hid (¬ Tl.mayK x → Tl.rightB t = false) := Lib.hid (fun h => HBAD.out (by rw [HF.out]; exact decide_eq_false h))
      clear hw hz hq HBAD
      by_cases h1 : x.nice < -20
      · have HR := Lib.hid (HNO.out (fun e => by have := e.1.1; omega))
        go_wp2
        go_ret
        exact ⟨by rw [HR.out]; rfl, HB1.out.trans (HB4.out.mono HB1.out.size)⟩
      by_cases h2 : x.nice > 19
      · have HR := Lib.hid (HNO.out (fun e => by have := e.1.2; omega))
        go_wp2
        go_ret
        exact ⟨by rw [HR.out]; rfl, HB1.out.trans (HB4.out.mono HB1.out.size)⟩
      by_cases h3 : x.mask = 0
      · have HR := Lib.hid (HNO.out (fun e => e.2.1 h3))
        rw [h3] at k1
        clear h3
        go_wp2
        go_ret
        exact ⟨by rw [HR.out]; rfl, HB1.out.trans (HB4.out.mono HB1.out.size)⟩
      have e3 : (((x.mask : Nat) : Int) == 0) = false := by simp; exact h3
      have H3 := Lib.hid h3
      clear h3
      by_cases h4 : x.lag < -1125899906842624
      · have HR := Lib.hid (HNO.out (fun e => by have := e.2.2.1; omega))
        go_wp2
        go_ret
        exact ⟨by rw [HR.out]; rfl, HB1.out.trans (HB4.out.mono HB1.out.size)⟩
      by_cases h5 : x.lag > 1125899906842624
      · have HR := Lib.hid (HNO.out (fun e => by have := e.2.2.2; omega))
        go_wp2
        go_ret
        exact ⟨by rw [HR.out]; rfl, HB1.out.trans (HB4.out.mono HB1.out.size)⟩
      have HG := Lib.hid (HGOOD.out (by rw [HF.out]; exact decide_eq_true ⟨⟨by omega, by omega⟩, H3.out, by omega, by omega⟩))
      go_wp2
      exact ⟨⟨k + 1, by omega, by go_num, Lib.hid ⟨HG.out, HB4.out⟩⟩, by simp [intOf]; omega⟩
end Go.Proofs.YtjikabalpejmlaaDoor
