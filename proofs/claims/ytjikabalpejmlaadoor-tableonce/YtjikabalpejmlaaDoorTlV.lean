/-
  The document's own answers of layer 14: Step.
-/
import Derived.Test.YtjikabalpejmlaaDoorTlU
import Derived.Test.YtjikabalpejmlaaDoorTlW
import Derived.Deep.RegionWith
namespace Go.Proofs.YtjikabalpejmlaaDoor
open Go.RowKit Go.Deep Pk Lf
open Mk (V allM cpus fstI anyB)

theorem Tv.drew {w : World} {v : Value} {t : Tl.T} (h : Tv w v t) : Tv w.drew v t := h
theorem gives_set {w' : World} {t : Tl.T} {n : Nat} {a0 : Option Addr} {l0 p0 : Nat} {a1 : Option Addr} {l1 p1 : Nat} (hv : Tv w' (.agg #[.slice a0 l0 p0, .slice a1 l1 p1]) t) {x y : Value} (hb : Bt w' n x y) {i j : Option Addr} {li pi lj pj : Nat} (hx : x = .slice i li pi) (hy : y = .slice j lj pj) :
    Tv ((w'.setCell ⟨n, 0, none⟩ (.slice a0 l0 p0)).setCell ⟨n, 1, none⟩ (.slice a1 l1 p1)) (.agg #[.slice a0 l0 p0, .slice a1 l1 p1]) t := by
  subst hx hy
  have step : ∀ (X : World) (p : Addr) (u : Value) (c d : Value), p.block = n → (∃ a l q, c = .slice a l q) → (∃ a l q, d = .slice a l q) → Bt X n c d → Tv X (.agg #[.slice a0 l0 p0, .slice a1 l1 p1]) t → Tv (X.setCell p u) (.agg #[.slice a0 l0 p0, .slice a1 l1 p1]) t := by
    rintro X p u c d hp ⟨ca, cl, cq, rfl⟩ ⟨da, dl, dq, rfl⟩ hB ⟨q0, q1, e, ⟨a, cap, e0, hm, hw, hc⟩, ⟨a', cap', e1, hm', hw', hc'⟩⟩
    have notint : ∀ off, ∀ k z, X.cell? ⟨n, off, none⟩ ≠ some (.int k z) := by
      intro off k z h
      simp only [World.cell?, show X.heap[n]? = _ from hB] at h
      rcases (show off = 0 ∨ off = 1 ∨ 2 ≤ off by omega) with rfl | rfl | h2
      · simp at h
      · simp at h
      · have : (#[Value.slice ca cl cq, Value.slice da dl dq])[off]? = none := by simp; omega
        simp only [Option.isSome_none, Bool.false_eq_true, if_false, this] at h
        cases h
    simp only [Value.agg.injEq, Array.mk.injEq, List.cons.injEq, and_true] at e
    obtain ⟨rfl, rfl⟩ := e
    cases e0
    cases e1
    refine ⟨_, _, rfl, ⟨_, _, rfl, hm, hw, fun hz => ?_⟩, ⟨_, _, rfl, hm', hw', fun hz => ?_⟩⟩
    · obtain ⟨b, off, rfl, hcc⟩ := hc hz
      have hne : b ≠ n := by
        rintro rfl
        exact notint _ _ _ (hcc 0 (List.length_pos_iff.2 hz))
      exact ⟨b, off, rfl, fun i hi => by rw [cell_off (by show b ≠ p.block; rw [hp]; exact hne)]; exact hcc i hi⟩
    · obtain ⟨b, off, rfl, hcc⟩ := hc' hz
      have hne : b ≠ n := by
        rintro rfl
        exact notint _ _ _ (hcc 0 (List.length_pos_iff.2 hz) 0 (by decide))
      exact ⟨b, off, rfl, fun i hi j hj => by rw [cell_off (by show b ≠ p.block; rw [hp]; exact hne)]; exact hcc i hi j hj⟩
  have h1 := step w' ⟨n, 0, none⟩ (.slice a0 l0 p0) _ _ rfl ⟨_, _, _, rfl⟩ ⟨_, _, _, rfl⟩ hb hv
  have hb1 : Bt (w'.setCell ⟨n, 0, none⟩ (.slice a0 l0 p0)) n (.slice a0 l0 p0) (.slice j lj pj) := by
    have := heap_setCell_same w' n 0 _ _ (.slice a0 l0 p0) hb
    unfold Bt; rw [this]; rfl
  exact step _ ⟨n, 1, none⟩ (.slice a1 l1 p1) _ _ rfl ⟨_, _, _, rfl⟩ ⟨_, _, _, rfl⟩ hb1 h1

set_option maxHeartbeats 8000000 in
set_option maxRecDepth 100000 in
theorem rstep_any (t : Tl.T) (s ev cpu : Int) (v : Value) (W : World) (hV : Tv W v t) :
    Calls Tryd.prog 29 #[v, .int .i64 s, .int .i64 ev, .int .i64 cpu] W (Gives W (Tl.stT t s ev cpu) (Tl.stE t s ev cpu)) := by
  have HV := Lib.hid hV
  obtain ⟨c0, c1, rfl, hI, hK⟩ := hV
  have HA := Lib.hid (allocs_at [.cells #[c0, c1] 25, .cells #[.slice none 0 0, .slice none 0 0] 25] W)
  have HB := Lib.hid (allocs_below W [.cells #[c0, c1] 25, .cells #[.slice none 0 0, .slice none 0 0] 25])
  simp only [allocs] at HA HB
  have HI := Lib.hid hI
  have HK := Lib.hid hK
  obtain ⟨a0, p0, rfl, hm0, -, -⟩ := hI
  obtain ⟨a1, p1, rfl, hm1, -, -⟩ := hK
  obtain ⟨n, hn⟩ : ∃ n, t.ws.length = n := ⟨_, rfl⟩
  have HN := Lib.hid hn
  rw [hn] at HV HA HB HI hm0 ⊢
  clear hn hm1
  unfold maxLen at hm0
  go_enter Tryd.func29, Tryd.ntmps29
  go_upto_region 1 with fail
  generalize (W.alloc _).alloc _ = w1 at HA HB ⊢
  have h0 : Bt w1 W.heap.size _ _ := HA.out 0 _ rfl
  have h2 : Bt w1 (W.heap.size + 1) (.slice none 0 0) (.slice none 0 0) := HA.out 1 _ rfl
  have H0 := Lib.hid h0
  have H2 := Lib.hid h2
  have HV1 := Lib.hid (HV.out.below HB.out)
  obtain ⟨x0, x1⟩ := h0.cells
  clear h0 h2 HA
  go_wp2_with fail
  refine (rright_any t _ w1 HV1.out).mono ?_
  rintro e' w2 ⟨rfl, hb2⟩
  have HB2 := Lib.hid (HB.out.trans (hb2.mono HB.out.size))
  have HT2 := Lib.hid (H0.out.below hb2)
  have HR2 := Lib.hid (H2.out.below hb2)
  have HV2 := Lib.hid (HV1.out.below hb2)
  clear hb2 x0 x1 H0 H2 HV1 HB
  have HZ : Hid (∀ Y, Below W.heap.size W Y → ∀ er, Tl.stT t s ev cpu = Tl.t0 → Tl.stE t s ev cpu = er → Gives W (Tl.stT t s ev cpu) (Tl.stE t s ev cpu) (.returned (.tuple #[.agg #[.slice none 0 0, .slice none 0 0], .int .i64 er])) ((Y.setCell ⟨W.heap.size + 1, 0, none⟩ (.slice none 0 0)).setCell ⟨W.heap.size + 1, 1, none⟩ (.slice none 0 0))) := Lib.hid (by
    intro Y hY er h1 h2
    rw [h1, h2]
    exact ⟨⟨_, _, _, _, _, _, rfl, Tv.zero _⟩, (hY.setCell (p := ⟨W.heap.size + 1, 0, none⟩) (show W.heap.size ≤ W.heap.size + 1 by omega) _).setCell (p := ⟨W.heap.size + 1, 1, none⟩) (show W.heap.size ≤ W.heap.size + 1 by omega) _⟩)
  obtain ⟨r0, r1⟩ := HR2.out.cells
  have rf0 := HR2.out.free 0
  have rf1 := HR2.out.free 1
  by_cases hr : Tl.right t
  case neg =>
    have hrb : Tl.rightB t = false := decide_eq_false hr
    rw [hrb]
    have hE : Tl.stE t s ev cpu = 4 := Tl.stE_left hr
    have HF := Lib.hid (HZ.out w2 HB2.out 4 (Tl.st_no (by rw [hE]; decide)) hE)
    have HS := Lib.hid (HR2.out.set (.slice none 0 0) (.slice none 0 0))
    clear hr hrb hE HZ
    go_wp2
    obtain ⟨q0, q1⟩ := HS.out.cells
    exact bodyPost_ret (v := .tuple #[.agg #[.slice none 0 0, .slice none 0 0], .int .i64 4]) (by simp [results, Tryd.results29, go_sem, q0, q1]) rfl HF.out
  have hrb : Tl.rightB t = true := decide_eq_true hr
  rw [hrb]
  obtain ⟨x0, x1⟩ := HT2.out.cells
  by_cases hok : Tl.okS t s ev
  case neg =>
    have hE : Tl.stE t s ev cpu = 1 := Tl.stE_arg hr hok
    have HF := Lib.hid (HZ.out w2 HB2.out 1 (Tl.st_no (by rw [hE]; decide)) hE)
    have HS := Lib.hid (HR2.out.set (.slice none 0 0) (.slice none 0 0))
    have hok2 : s < 0 ∨ (n : Int) ≤ s ∨ ev = 0 ∨ ev = 1 := by
      unfold Tl.okS at hok
      rw [HN.out] at hok
      omega
    clear hrb hE HZ hok
    by_cases o1 : s < 0
    · go_wp2
      obtain ⟨q0, q1⟩ := HS.out.cells
      exact bodyPost_ret (v := .tuple #[.agg #[.slice none 0 0, .slice none 0 0], .int .i64 1]) (by simp [results, Tryd.results29, go_sem, q0, q1]) rfl HF.out
    by_cases o2 : (n : Int) ≤ s
    · have d1 : decide (s < 0) = false := decide_eq_false o1
      have d2 : decide (s ≥ (n : Int)) = true := decide_eq_true o2
      go_wp2
      obtain ⟨q0, q1⟩ := HS.out.cells
      exact bodyPost_ret (v := .tuple #[.agg #[.slice none 0 0, .slice none 0 0], .int .i64 1]) (by simp [results, Tryd.results29, go_sem, q0, q1]) rfl HF.out
    have d1 : decide (s < 0) = false := decide_eq_false o1
    have d2 : decide (s ≥ (n : Int)) = false := decide_eq_false o2
    rcases (show ev = 0 ∨ ev = 1 by omega) with rfl | rfl
    · go_wp2
      obtain ⟨q0, q1⟩ := HS.out.cells
      exact bodyPost_ret (v := .tuple #[.agg #[.slice none 0 0, .slice none 0 0], .int .i64 1]) (by simp [results, Tryd.results29, go_sem, q0, q1]) rfl HF.out
    · go_wp2
      obtain ⟨q0, q1⟩ := HS.out.cells
      exact bodyPost_ret (v := .tuple #[.agg #[.slice none 0 0, .slice none 0 0], .int .i64 1]) (by simp [results, Tryd.results29, go_sem, q0, q1]) rfl HF.out
  have HE0 := Lib.hid (Tl.stE_nx (c := cpu) hr hok)
  obtain ⟨⟨hs0, hs1⟩, he0, he1⟩ := hok
  obtain ⟨i, rfl⟩ : ∃ i : Nat, s = (i : Int) := ⟨s.toNat, by omega⟩
  rw [HN.out] at hs1
  have hi : i < n := by omega
  have d1 : decide ((i : Int) < 0) = false := decide_eq_false (by omega)
  have d2 : decide ((i : Int) ≥ (n : Int)) = false := decide_eq_false (by omega)
  have d3 : (ev == 0) = false := by simp [he0]
  have d4 : (ev == 1) = false := by simp [he1]
  rw [Int.toNat_natCast] at HE0
  have HU : Hid (U (Tl.W t i)) := Lib.hid (HV2.out.U (by rw [HN.out]; exact hi))
  have HY := Lib.hid (fun h => Tl.st_yes (t := t) (s := (i : Int)) (e := ev) (c := cpu) h)
  rw [Int.toNat_natCast] at HY
  have HRT := Lib.hid hr
  rcases HI.out.parts with ⟨h, -⟩ | ⟨-, -, b, off, cap', hv, hb, hc⟩
  · have := HN.out; rw [h] at this; simp at this; omega
  simp only [Value.slice.injEq] at hv
  obtain ⟨rfl, -, rfl⟩ := hv
  have k0 : w2.cell? ⟨b, off + i, none⟩ = some (.int .u64 (Tl.W t i)) := (HB2.out.cell (p := ⟨b, off + i, none⟩) hb).trans (hc i (by rw [HN.out]; exact hi))
  clear hrb hr hs0 hs1 he0 he1 hc
  generalize Tl.W t i = z at HU HE0 HY k0
  go_wp2_with fail
  refine (rnext_any z ev cpu HU.out w2).mono ?_
  rintro e' w3 ⟨rfl, hb3⟩
  have HB3 := Lib.hid (HB2.out.trans (hb3.mono HB2.out.size))
  have HR3 := Lib.hid (HR2.out.below hb3)
  have HT3 := Lib.hid (HT2.out.below hb3)
  have HV3 := Lib.hid (HV2.out.below hb3)
  clear hb3 k0 r0 r1 rf0 rf1 x0 x1 HR2 HT2 HV2 hb
  obtain ⟨r0, r1⟩ := HR3.out.cells
  have rf0 := HR3.out.free 0
  have rf1 := HR3.out.free 1
  obtain ⟨er, her⟩ : ∃ er, nxE z ev cpu = er := ⟨_, rfl⟩
  rw [her]
  rw [her] at HE0
  by_cases hz : er = 0
  case neg =>
    have e1 : (er != 0) = true := by simp [hz]
    have HF := Lib.hid (HZ.out w3 HB3.out er (Tl.st_no (by rw [HE0.out]; exact hz)) HE0.out)
    have HS := Lib.hid (HR3.out.set (.slice none 0 0) (.slice none 0 0))
    clear hz her HZ HY
    go_wp2
    obtain ⟨q0, q1⟩ := HS.out.cells
    exact bodyPost_ret (v := .tuple #[.agg #[.slice none 0 0, .slice none 0 0], .int .i64 er]) (by simp [results, Tryd.results29, go_sem, q0, q1]) rfl HF.out
  subst hz
  have HY2 := Lib.hid (HY.out HE0.out)
  clear HY HZ her
  go_upto_region 8 with fail
  obtain ⟨x0, x1⟩ := HT3.out.cells
  rcases Ks.parts HK.out with ⟨h, -⟩ | ⟨-, b', off', cap'', hv, -, hb', hc'⟩
  · have h2 := HRT.out.2.1
    rw [h, HN.out] at h2
    simp at h2; omega
  simp only [Value.slice.injEq] at hv
  obtain ⟨rfl, -, rfl⟩ := hv
  obtain ⟨t0, t1, t2⟩ := hc' i (by rw [HRT.out.2.1, HN.out]; exact hi)
  have t0 := (HB3.out.cell (p := ⟨b', off' + i * 3, none⟩) hb').trans t0
  have t1 := (HB3.out.cell (p := ⟨b', off' + i * 3 + 1, none⟩) hb').trans t1
  have t2 := (HB3.out.cell (p := ⟨b', off' + i * 3 + 2, none⟩) hb').trans t2
  have HOK : Hid (encK.ok (Tl.X t i)) := Lib.hid (HV3.out.K (by rw [HRT.out.2.1, HN.out]; exact hi))
  change w3.cell? _ = some (.int .i64 (Tl.X t i).nice) at t0
  change w3.cell? _ = some (.int .u64 ((Tl.X t i).mask : Int)) at t1
  change w3.cell? _ = some (.int .i64 (Tl.X t i).lag) at t2
  generalize Tl.X t i = x at t0 t1 t2 HOK HY2
  have HWI : Hid (∀ Y, Tv Y (.agg #[.slice (some ⟨b, off, none⟩) n p0, .slice (some ⟨b', off', none⟩) t.ts.length p1]) t → Calls Tryd.prog 51 #[.agg #[.slice (some ⟨b, off, none⟩) n p0, .slice (some ⟨b', off', none⟩) t.ts.length p1], .int .i64 i, .int .u64 (nxW z ev cpu), .agg #[.int .i64 x.nice, .int .u64 (x.mask : Int), .int .i64 x.lag]] Y fun e w' =>
      (∃ a0 l0 p0 a1 l1 p1, e = .returned (.agg #[.slice a0 l0 p0, .slice a1 l1 p1]) ∧ Tv w' (.agg #[.slice a0 l0 p0, .slice a1 l1 p1]) (Tl.put t i (nxW z ev cpu) x)) ∧ Below Y.heap.size Y w') := Lib.hid (fun Y hY => rwith_any t i _ x _ Y hY (by rw [HN.out]; exact hi) HRT.out.1 HRT.out.2.1 nx_wf HOK.out)
  have hil : (i : Int) < (t.ts.length : Int) := by rw [HRT.out.2.1, HN.out]; omega
  have hq1 : t.ts.length ≤ 64 := by rw [HRT.out.2.1]; exact HRT.out.1
  have HQ : Hid (∀ Y, Below w3.drew.heap.size w3.drew Y → Y.cell? ⟨W.heap.size + 1, 0, none⟩ = some (.slice none 0 0) ∧ Y.cell? ⟨W.heap.size + 1, 1, none⟩ = some (.slice none 0 0) ∧ Y.frozen? ⟨W.heap.size + 1, 0, none⟩ = false ∧ Y.frozen? ⟨W.heap.size + 1, 1, none⟩ = false) := Lib.hid (fun Y hY => by
    have h : Bt Y (W.heap.size + 1) (.slice none 0 0) (.slice none 0 0) := HR3.out.below ⟨hY.os, hY.tape, hY.output, hY.size, hY.block⟩
    exact ⟨h.cells.1, h.cells.2, h.free 0, h.free 1⟩)
  clear hb' hc' HRT r0 r1 rf0 rf1
  go_region_with (go_at_call 51; refine (HWI.out _ HV3.out.drew).mono ?_; rintro e' w6 ⟨⟨a2, l2, p2, a3, l3, p3, rfl, hv6⟩, hb6⟩; obtain ⟨r0, r1, rf0, rf1⟩ := HQ.out _ hb6)
  all_goals
    have hb6' : Below w3.heap.size w3 w6 := ⟨hb6.os, hb6.tape, hb6.output, hb6.size, hb6.block⟩
    have hbt := HR3.out.below hb6'
    have HS := Lib.hid (hbt.set (.slice a2 l2 p2) (.slice a3 l3 p3))
    have HF : Hid (Gives W (Tl.stT t (i : Int) ev cpu) (Tl.stE t (i : Int) ev cpu) (.returned (.tuple #[.agg #[.slice a2 l2 p2, .slice a3 l3 p3], .int .i64 0])) ((w6.setCell ⟨W.heap.size + 1, 0, none⟩ (.slice a2 l2 p2)).setCell ⟨W.heap.size + 1, 1, none⟩ (.slice a3 l3 p3))) := Lib.hid (by
      rw [HY2.out, HE0.out]
      exact ⟨⟨_, _, _, _, _, _, rfl, gives_set hv6 hbt rfl rfl⟩, (((HB3.out.trans (hb6'.mono HB3.out.size)).setCell (p := ⟨W.heap.size + 1, 0, none⟩) (show W.heap.size ≤ W.heap.size + 1 by omega) _).setCell (p := ⟨W.heap.size + 1, 1, none⟩) (show W.heap.size ≤ W.heap.size + 1 by omega) _)⟩)
    clear hb6 hb6' hbt hv6 HR3
    go_wp2
    obtain ⟨q0, q1⟩ := HS.out.cells
    exact bodyPost_ret (v := .tuple #[.agg #[.slice a2 l2 p2, .slice a3 l3 p3], .int .i64 0]) (by simp [results, Tryd.results29, go_sem, q0, q1]) rfl HF.out
end Go.Proofs.YtjikabalpejmlaaDoor
