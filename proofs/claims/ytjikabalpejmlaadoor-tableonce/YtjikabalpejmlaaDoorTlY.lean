/-
  The document's own answers of layer 14: Exit.
-/
import Derived.Test.YtjikabalpejmlaaDoorTlV
namespace Go.Proofs.YtjikabalpejmlaaDoor
open Go.RowKit Go.Deep Pk Lf
open Mk (V allM cpus fstI anyB)

set_option maxHeartbeats 8000000 in
set_option maxRecDepth 100000 in
theorem rexit_any (t : Tl.T) (s g : Int) (v : Value) (W : World) (hV : Tv W v t) :
    Calls Tryd.prog 28 #[v, .agg #[.int .i64 s, .int .i64 g]] W (Gives W (Tl.exT t s g) (Tl.exE t s g)) := by
  have HV := Lib.hid hV
  obtain ⟨c0, c1, rfl, hI, hK⟩ := hV
  have HA := Lib.hid (allocs_at [.cells #[c0, c1] 25, .cells #[.int .i64 s, .int .i64 g] 27, .cells #[.slice none 0 0, .slice none 0 0] 25] W)
  have HB := Lib.hid (allocs_below W [.cells #[c0, c1] 25, .cells #[.int .i64 s, .int .i64 g] 27, .cells #[.slice none 0 0, .slice none 0 0] 25])
  simp only [allocs] at HA HB
  have HI := Lib.hid hI
  have HK := Lib.hid hK
  obtain ⟨a0, p0, rfl, hm0, -, -⟩ := hI
  obtain ⟨a1, p1, rfl, hm1, -, -⟩ := hK
  obtain ⟨n, hn⟩ : ∃ n, t.ws.length = n := ⟨_, rfl⟩
  have HN := Lib.hid hn
  rw [hn] at HV HA HB HI hm0 ⊢
  clear hn hm1
  unfold maxLen at hm0
  go_enter Tryd.func28, Tryd.ntmps28
  go_upto_region 1 with fail
  generalize ((W.alloc _).alloc _).alloc _ = w1 at HA HB ⊢
  have h0 : Bt w1 W.heap.size _ _ := HA.out 0 _ rfl
  have h1 : Bh w1 (W.heap.size + 1) ⟨s, g⟩ := HA.out 1 _ rfl
  have h2 : Bt w1 (W.heap.size + 1 + 1) (.slice none 0 0) (.slice none 0 0) := HA.out 2 _ rfl
  have H0 := Lib.hid h0
  have H1 := Lib.hid h1
  have H2 := Lib.hid h2
  have HV1 := Lib.hid (HV.out.below HB.out)
  obtain ⟨x0, x1⟩ := h0.cells
  clear h0 h1 h2 HA
  go_wp2_with fail
  refine (rright_any t _ w1 HV1.out).mono ?_
  rintro e' w2 ⟨rfl, hb2⟩
  have HB2 := Lib.hid (HB.out.trans (hb2.mono HB.out.size))
  have HT2 := Lib.hid (H0.out.below hb2)
  have HH2 := Lib.hid (H1.out.below hb2)
  have HR2 := Lib.hid (H2.out.below hb2)
  have HV2 := Lib.hid (HV1.out.below hb2)
  clear hb2 x0 x1 H0 H1 H2 HV1 HB
  have HZ : Hid (∀ Y, Below W.heap.size W Y → ∀ er, Tl.exT t s g = Tl.t0 → Tl.exE t s g = er → Gives W (Tl.exT t s g) (Tl.exE t s g) (.returned (.tuple #[.agg #[.slice none 0 0, .slice none 0 0], .int .i64 er])) ((Y.setCell ⟨W.heap.size + 1 + 1, 0, none⟩ (.slice none 0 0)).setCell ⟨W.heap.size + 1 + 1, 1, none⟩ (.slice none 0 0))) := Lib.hid (by
    intro Y hY er h1 h2
    rw [h1, h2]
    exact ⟨⟨_, _, _, _, _, _, rfl, Tv.zero _⟩, (hY.setCell (p := ⟨W.heap.size + 1 + 1, 0, none⟩) (show W.heap.size ≤ W.heap.size + 1 + 1 by omega) _).setCell (p := ⟨W.heap.size + 1 + 1, 1, none⟩) (show W.heap.size ≤ W.heap.size + 1 + 1 by omega) _⟩)
  obtain ⟨r0, r1⟩ := HR2.out.cells
  have rf0 := HR2.out.free 0
  have rf1 := HR2.out.free 1
  by_cases hr : Tl.right t
  case neg =>
    have hrb : Tl.rightB t = false := decide_eq_false hr
    rw [hrb]
    have hE : Tl.exE t s g = 4 := Tl.exE_left hr
    have HF := Lib.hid (HZ.out w2 HB2.out 4 (Tl.ex_no (by rw [hE]; decide)) hE)
    have HS := Lib.hid (HR2.out.set (.slice none 0 0) (.slice none 0 0))
    clear hr hrb hE HZ
    go_wp2
    obtain ⟨q0, q1⟩ := HS.out.cells
    exact bodyPost_ret (v := .tuple #[.agg #[.slice none 0 0, .slice none 0 0], .int .i64 4]) (by simp [results, Tryd.results28, go_sem, q0, q1]) rfl HF.out
  have hrb : Tl.rightB t = true := decide_eq_true hr
  rw [hrb]
  have HRT := Lib.hid hr
  obtain ⟨x0, x1⟩ := HT2.out.cells
  obtain ⟨y0, y1⟩ := HH2.out.cells
  obtain ⟨ec, hec⟩ : ∃ ec, Tl.chk t s g = ec := ⟨_, rfl⟩
  have HCK := Lib.hid (rcheck_any t s g _ w2 HV2.out)
  rw [hec] at HCK
  have HEC := Lib.hid hec
  clear hec hrb hr
  go_wp2_with fail
  refine HCK.out.mono ?_
  rintro e' w3 ⟨rfl, hb3⟩
  have HB3 := Lib.hid (HB2.out.trans (hb3.mono HB2.out.size))
  have HT3 := Lib.hid (HT2.out.below hb3)
  have HH3 := Lib.hid (HH2.out.below hb3)
  have HR3 := Lib.hid (HR2.out.below hb3)
  have HV3 := Lib.hid (HV2.out.below hb3)
  clear hb3 x0 x1 y0 y1 r0 r1 rf0 rf1 HT2 HH2 HR2 HV2 HCK
  obtain ⟨r0, r1⟩ := HR3.out.cells
  have rf0 := HR3.out.free 0
  have rf1 := HR3.out.free 1
  by_cases hz : ec = 0
  case neg =>
    have e1 : (ec != 0) = true := by simp [hz]
    have hE : Tl.exE t s g = ec := by rw [Tl.exE_chk HRT.out (by rw [HEC.out]; exact hz), HEC.out]
    have HF := Lib.hid (HZ.out w3 HB3.out ec (Tl.ex_no (by rw [hE]; exact hz)) hE)
    have HS := Lib.hid (HR3.out.set (.slice none 0 0) (.slice none 0 0))
    clear hz hE HZ
    go_wp2
    obtain ⟨q0, q1⟩ := HS.out.cells
    exact bodyPost_ret (v := .tuple #[.agg #[.slice none 0 0, .slice none 0 0], .int .i64 ec]) (by simp [results, Tryd.results28, go_sem, q0, q1]) rfl HF.out
  subst hz
  obtain ⟨i, rfl, hi, -, -⟩ := Tl.chk_zero HEC.out
  have HE0 := Lib.hid (Tl.exE_nx HRT.out HEC.out)
  rw [Int.toNat_natCast] at HE0
  have HY := Lib.hid (fun h => Tl.ex_yes (t := t) (s := (i : Int)) (g := g) h)
  rw [Int.toNat_natCast] at HY
  have HU : Hid (U (Tl.W t i)) := Lib.hid (HV3.out.U hi)
  rw [HN.out] at hi
  rcases HI.out.parts with ⟨h, -⟩ | ⟨-, -, b, off, cap', hv, hb, hc⟩
  · have := HN.out; rw [h] at this; simp at this; omega
  simp only [Value.slice.injEq] at hv
  obtain ⟨rfl, -, rfl⟩ := hv
  have k0 : w3.cell? ⟨b, off + i, none⟩ = some (.int .u64 (Tl.W t i)) := (HB3.out.cell (p := ⟨b, off + i, none⟩) hb).trans (hc i (by rw [HN.out]; exact hi))
  clear hc hb HEC
  obtain ⟨x0, x1⟩ := HT3.out.cells
  obtain ⟨y0, y1⟩ := HH3.out.cells
  generalize Tl.W t i = z at HU HE0 HY k0
  go_wp2_with fail
  refine (rnext_any z 1 0 HU.out w3).mono ?_
  rintro e' w4 ⟨rfl, hb4⟩
  have HB4 := Lib.hid (HB3.out.trans (hb4.mono HB3.out.size))
  have HT4 := Lib.hid (HT3.out.below hb4)
  have HH4 := Lib.hid (HH3.out.below hb4)
  have HR4 := Lib.hid (HR3.out.below hb4)
  have HV4 := Lib.hid (HV3.out.below hb4)
  clear hb4 x0 x1 y0 y1 r0 r1 rf0 rf1 k0 HT3 HH3 HR3 HV3
  obtain ⟨r0, r1⟩ := HR4.out.cells
  have rf0 := HR4.out.free 0
  have rf1 := HR4.out.free 1
  obtain ⟨er, her⟩ : ∃ er, nxE z 1 0 = er := ⟨_, rfl⟩
  rw [her]
  rw [her] at HE0
  by_cases hz : er = 0
  case neg =>
    have e1 : (er != 0) = true := by simp [hz]
    have HF := Lib.hid (HZ.out w4 HB4.out er (Tl.ex_no (by rw [HE0.out]; exact hz)) HE0.out)
    have HS := Lib.hid (HR4.out.set (.slice none 0 0) (.slice none 0 0))
    clear hz her HZ HY
    go_wp2
    obtain ⟨q0, q1⟩ := HS.out.cells
    exact bodyPost_ret (v := .tuple #[.agg #[.slice none 0 0, .slice none 0 0], .int .i64 er]) (by simp [results, Tryd.results28, go_sem, q0, q1]) rfl HF.out
  subst hz
  have HY2 := Lib.hid (HY.out HE0.out)
  clear HY HZ her
  obtain ⟨x0, x1⟩ := HT4.out.cells
  obtain ⟨y0, y1⟩ := HH4.out.cells
  go_wp2_with fail
  refine (rwith_any t i (nxW z 1 0) Tl.k0 _ w4 HV4.out (by rw [HN.out]; exact hi) HRT.out.1 HRT.out.2.1 nx_wf ⟨by unfold Ni; decide, show (0 : Nat) < 18446744073709551616 by decide, by unfold Ni; decide⟩).mono ?_
  rintro e' w6 ⟨⟨a2, l2, p2, a3, l3, p3, rfl, hv6⟩, hb6⟩
  have hbt := HR4.out.below hb6
  have HS := Lib.hid (hbt.set (.slice a2 l2 p2) (.slice a3 l3 p3))
  have HF : Hid (Gives W (Tl.exT t (i : Int) g) (Tl.exE t (i : Int) g) (.returned (.tuple #[.agg #[.slice a2 l2 p2, .slice a3 l3 p3], .int .i64 0])) ((w6.setCell ⟨W.heap.size + 1 + 1, 0, none⟩ (.slice a2 l2 p2)).setCell ⟨W.heap.size + 1 + 1, 1, none⟩ (.slice a3 l3 p3))) := Lib.hid (by
    rw [HY2.out, HE0.out]
    exact ⟨⟨_, _, _, _, _, _, rfl, gives_set hv6 hbt rfl rfl⟩, (((HB4.out.trans (hb6.mono HB4.out.size)).setCell (p := ⟨W.heap.size + 1 + 1, 0, none⟩) (show W.heap.size ≤ W.heap.size + 1 + 1 by omega) _).setCell (p := ⟨W.heap.size + 1 + 1, 1, none⟩) (show W.heap.size ≤ W.heap.size + 1 + 1 by omega) _)⟩)
  clear r0 r1 rf0 rf1
  obtain ⟨r0, r1⟩ := hbt.cells
  have rf0 := hbt.free 0
  have rf1 := hbt.free 1
  clear hb6 hbt hv6 HR4 x0 x1 y0 y1
  go_wp2
  obtain ⟨q0, q1⟩ := HS.out.cells
  exact bodyPost_ret (v := .tuple #[.agg #[.slice a2 l2 p2, .slice a3 l3 p3], .int .i64 0]) (by simp [results, Tryd.results28, go_sem, q0, q1]) rfl HF.out
end Go.Proofs.YtjikabalpejmlaaDoor
