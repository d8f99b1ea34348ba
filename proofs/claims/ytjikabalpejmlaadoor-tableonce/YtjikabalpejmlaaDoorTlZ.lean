/-
  The document's own answers of layer 14: Create.
-/
import Derived.Test.YtjikabalpejmlaaDoorTlV
import Derived.Test.YtjikabalpejmlaaDoorMskQ
namespace Go.Proofs.YtjikabalpejmlaaDoor
open Go.RowKit Go.Deep Pk Lf
open Mk (V allM cpus fstI anyB)

/-- The two boxes of results, written. -/
def set4 (Y : World) (r h : Nat) (a b : Value) (s g : Int) : World := (((Y.setCell ⟨r, 0, none⟩ a).setCell ⟨r, 1, none⟩ b).setCell ⟨h, 0, none⟩ (.int .i64 s)).setCell ⟨h, 1, none⟩ (.int .i64 g)
theorem set4_box {Y : World} {r h : Nat} {a b c d : Value} {x : Tl.Hd} (hr : Bt Y r c d) (hh : Bh Y h x) (hne : r ≠ h) (s g : Int) : Bt (set4 Y r h a b s g) r a b ∧ Bh (set4 Y r h a b s g) h ⟨s, g⟩ :=
  ⟨((hr.set a b).other (p := ⟨h, 0, none⟩) hne).other (p := ⟨h, 1, none⟩) hne, ((hh.other (p := ⟨r, 0, none⟩) (Ne.symm hne)).other (p := ⟨r, 1, none⟩) (Ne.symm hne)).set ⟨s, g⟩⟩
theorem set4_below {W Y : World} {r h : Nat} (hb : Below W.heap.size W Y) (hr : W.heap.size ≤ r) (hh : W.heap.size ≤ h) (a b : Value) (s g : Int) : Below W.heap.size W (set4 Y r h a b s g) :=
  (((hb.setCell (p := ⟨r, 0, none⟩) hr _).setCell (p := ⟨r, 1, none⟩) hr _).setCell (p := ⟨h, 0, none⟩) hh _).setCell (p := ⟨h, 1, none⟩) hh _
theorem set4_tv {Y : World} {v : Value} {t : Tl.T} {B r h : Nat} (hv : Tv Y v t) (hf : Far B v) (hr : r < B) (hh : h < B) (a b : Value) (s g : Int) : Tv (set4 Y r h a b s g) v t :=
  (((hv.off hf (p := ⟨r, 0, none⟩) hr _).off hf (p := ⟨r, 1, none⟩) hr _).off hf (p := ⟨h, 0, none⟩) hh _).off hf (p := ⟨h, 1, none⟩) hh _

set_option maxHeartbeats 8000000 in
set_option maxRecDepth 100000 in
theorem rcreate_any (t : Tl.T) (c n : Int) (m : Nat) (hm : V m) (v : Value) (W : World) (hV : Tv W v t) :
    Calls Tryd.prog 27 #[v, .int .i64 c, .int .i64 n, .int .u64 (m : Int)] W (GivesH W (Tl.crT t c n m) (Tl.crH t c n m) (Tl.crE t c n m)) := by
  have HV := Lib.hid hV
  obtain ⟨c0, c1, rfl, hI, hK⟩ := hV
  have HA := Lib.hid (allocs_at [.cells #[c0, c1] 25, .cells #[.slice none 0 0, .slice none 0 0] 25, .cells #[.int .i64 0, .int .i64 0] 27] W)
  have HB := Lib.hid (allocs_below W [.cells #[c0, c1] 25, .cells #[.slice none 0 0, .slice none 0 0] 25, .cells #[.int .i64 0, .int .i64 0] 27])
  simp only [allocs] at HA HB
  have HI := Lib.hid hI
  have HK := Lib.hid hK
  obtain ⟨a0, p0, rfl, hm0, -, -⟩ := hI
  obtain ⟨a1, p1, rfl, hm1, -, -⟩ := hK
  obtain ⟨l, hn⟩ : ∃ n, t.ws.length = n := ⟨_, rfl⟩
  have HN := Lib.hid hn
  rw [hn] at HV HA HB HI hm0 ⊢
  have HM := Lib.hid hm
  have hand := and_al m hm c
  clear hn hm1 hm
  unfold maxLen at hm0
  go_enter Tryd.func27, Tryd.ntmps27
  go_upto_region 1 with fail
  generalize ((W.alloc _).alloc _).alloc _ = w1 at HA HB ⊢
  have h0 : Bt w1 W.heap.size _ _ := HA.out 0 _ rfl
  have h1 : Bt w1 (W.heap.size + 1) (.slice none 0 0) (.slice none 0 0) := HA.out 1 _ rfl
  have h2 : Bh w1 (W.heap.size + 1 + 1) Tl.h0 := HA.out 2 _ rfl
  have H0 := Lib.hid h0
  have H1 := Lib.hid h1
  have H2 := Lib.hid h2
  have HV1 := Lib.hid (HV.out.below HB.out)
  obtain ⟨x0, x1⟩ := h0.cells
  clear h0 h1 h2 HA
  go_wp2_with fail
  refine (rright_any t _ w1 HV1.out).mono ?_
  rintro e' w2 ⟨rfl, hb2⟩
  have HB2 := Lib.hid (HB.out.trans (hb2.mono HB.out.size))
  have HT2 := Lib.hid (H0.out.below hb2)
  have HR2 := Lib.hid (H1.out.below hb2)
  have HH2 := Lib.hid (H2.out.below hb2)
  have HV2 := Lib.hid (HV1.out.below hb2)
  clear hb2 x0 x1 H0 H1 H2 HV1 HB
  have HZ : Hid (∀ Y, Below W.heap.size W Y → ∀ er, er ≠ 0 → Tl.crE t c n m = er → GivesH W (Tl.crT t c n m) (Tl.crH t c n m) (Tl.crE t c n m) (.returned (.tuple #[.agg #[.slice none 0 0, .slice none 0 0], .agg #[.int .i64 0, .int .i64 0], .int .i64 er])) (set4 Y (W.heap.size + 1) (W.heap.size + 1 + 1) (.slice none 0 0) (.slice none 0 0) 0 0)) := Lib.hid (by
    intro Y hY er h1 h2
    obtain ⟨h3, h4⟩ := Tl.cr_no (t := t) (c := c) (n := n) (m := m) (by rw [h2]; exact h1)
    rw [h2, h3, h4]
    exact ⟨⟨_, _, _, _, _, _, rfl, Tv.zero _⟩, set4_below hY (by omega) (by omega) _ _ _ _⟩)
  obtain ⟨r0, r1⟩ := HR2.out.cells
  have rf0 := HR2.out.free 0
  have rf1 := HR2.out.free 1
  obtain ⟨u0, u1⟩ := HH2.out.cells
  have uf0 := HH2.out.free 0
  have uf1 := HH2.out.free 1
  have HNE : Hid (W.heap.size + 1 ≠ W.heap.size + 1 + 1) := Lib.hid (by omega)
  by_cases hr : Tl.right t
  case neg =>
    have hrb : Tl.rightB t = false := decide_eq_false hr
    rw [hrb]
    have hE : Tl.crE t c n m = 4 := Tl.crE_left hr
    have HF := Lib.hid (HZ.out w2 HB2.out 4 (by decide) hE)
    have HS := Lib.hid (set4_box (a := .slice none 0 0) (b := .slice none 0 0) HR2.out HH2.out HNE.out 0 0)
    clear hr hrb hE HZ
    unfold set4 at HS HF
    go_wp2
    obtain ⟨q0, q1⟩ := HS.out.1.cells
    obtain ⟨q2, q3⟩ := HS.out.2.cells
    exact bodyPost_ret (v := .tuple #[.agg #[.slice none 0 0, .slice none 0 0], .agg #[.int .i64 0, .int .i64 0], .int .i64 4]) (by simp [results, Tryd.results27, go_sem, q0, q1, q2, q3]) rfl HF.out
  have hrb : Tl.rightB t = true := decide_eq_true hr
  rw [hrb]
  have HRT := Lib.hid hr
  have hl : l ≤ 64 := by rw [← HN.out]; exact hr.1
  clear hrb hr
  go_wp2_with fail
  refine (rall_any c w2).mono ?_
  rintro e' w' ⟨rfl, rfl⟩
  have HVA := Lib.hid (Tl.V_al (c := c) HM.out)
  by_cases o1 : c < 1
  · have hE : Tl.crE t c n m = 1 := Tl.crE_arg HRT.out (fun h => by have := h.1.1; omega)
    have HF := Lib.hid (HZ.out w2 HB2.out 1 (by decide) hE)
    have HS := Lib.hid (set4_box (a := .slice none 0 0) (b := .slice none 0 0) HR2.out HH2.out HNE.out 0 0)
    clear hE HZ hand HRT
    unfold set4 at HS HF
    go_wp2
    obtain ⟨q0, q1⟩ := HS.out.1.cells
    obtain ⟨q2, q3⟩ := HS.out.2.cells
    exact bodyPost_ret (v := .tuple #[.agg #[.slice none 0 0, .slice none 0 0], .agg #[.int .i64 0, .int .i64 0], .int .i64 1]) (by simp [results, Tryd.results27, go_sem, q0, q1, q2, q3]) rfl HF.out
  by_cases o2 : c > 64
  · have hE : Tl.crE t c n m = 1 := Tl.crE_arg HRT.out (fun h => by have := h.1.2; omega)
    have HF := Lib.hid (HZ.out w2 HB2.out 1 (by decide) hE)
    have HS := Lib.hid (set4_box (a := .slice none 0 0) (b := .slice none 0 0) HR2.out HH2.out HNE.out 0 0)
    clear hE HZ hand HRT
    unfold set4 at HS HF
    go_wp2
    obtain ⟨q0, q1⟩ := HS.out.1.cells
    obtain ⟨q2, q3⟩ := HS.out.2.cells
    exact bodyPost_ret (v := .tuple #[.agg #[.slice none 0 0, .slice none 0 0], .agg #[.int .i64 0, .int .i64 0], .int .i64 1]) (by simp [results, Tryd.results27, go_sem, q0, q1, q2, q3]) rfl HF.out
  by_cases o3 : n < -20
  · have hE : Tl.crE t c n m = 1 := Tl.crE_arg HRT.out (fun h => by have := h.2.1.1; omega)
    have HF := Lib.hid (HZ.out w2 HB2.out 1 (by decide) hE)
    have HS := Lib.hid (set4_box (a := .slice none 0 0) (b := .slice none 0 0) HR2.out HH2.out HNE.out 0 0)
    clear hE HZ hand HRT
    unfold set4 at HS HF
    go_wp2
    obtain ⟨q0, q1⟩ := HS.out.1.cells
    obtain ⟨q2, q3⟩ := HS.out.2.cells
    exact bodyPost_ret (v := .tuple #[.agg #[.slice none 0 0, .slice none 0 0], .agg #[.int .i64 0, .int .i64 0], .int .i64 1]) (by simp [results, Tryd.results27, go_sem, q0, q1, q2, q3]) rfl HF.out
  by_cases o4 : n > 19
  · have hE : Tl.crE t c n m = 1 := Tl.crE_arg HRT.out (fun h => by have := h.2.1.2; omega)
    have HF := Lib.hid (HZ.out w2 HB2.out 1 (by decide) hE)
    have HS := Lib.hid (set4_box (a := .slice none 0 0) (b := .slice none 0 0) HR2.out HH2.out HNE.out 0 0)
    clear hE HZ hand HRT
    unfold set4 at HS HF
    go_wp2
    obtain ⟨q0, q1⟩ := HS.out.1.cells
    obtain ⟨q2, q3⟩ := HS.out.2.cells
    exact bodyPost_ret (v := .tuple #[.agg #[.slice none 0 0, .slice none 0 0], .agg #[.int .i64 0, .int .i64 0], .int .i64 1]) (by simp [results, Tryd.results27, go_sem, q0, q1, q2, q3]) rfl HF.out
  by_cases o5 : Tl.al c m = 0
  · have hE : Tl.crE t c n m = 1 := Tl.crE_arg HRT.out (fun h => h.2.2 o5)
    have HF := Lib.hid (HZ.out w2 HB2.out 1 (by decide) hE)
    have HS := Lib.hid (set4_box (a := .slice none 0 0) (b := .slice none 0 0) HR2.out HH2.out HNE.out 0 0)
    clear hE HZ HRT
    unfold set4 at HS HF
    rw [o5] at hand
    clear o5
    go_wp2
    obtain ⟨q0, q1⟩ := HS.out.1.cells
    obtain ⟨q2, q3⟩ := HS.out.2.cells
    exact bodyPost_ret (v := .tuple #[.agg #[.slice none 0 0, .slice none 0 0], .agg #[.int .i64 0, .int .i64 0], .int .i64 1]) (by simp [results, Tryd.results27, go_sem, q0, q1, q2, q3]) rfl HF.out
  have HOC : Hid (Tl.okC c n m) := Lib.hid ⟨⟨by omega, by omega⟩, ⟨by omega, by omega⟩, o5⟩
  have o6 : (((Tl.al c m : Nat) : Int) == 0) = false := by simp; exact o5
  clear o5
  go_wp2_with fail
  refine (rfirst_any (Tl.al c m) HVA.out w2).mono ?_
  rintro e' w3 ⟨rfl, hb3⟩
  have HB3 := Lib.hid (HB2.out.trans (hb3.mono HB2.out.size))
  have HT3 := Lib.hid (HT2.out.below hb3)
  have HR3 := Lib.hid (HR2.out.below hb3)
  have HH3 := Lib.hid (HH2.out.below hb3)
  have HV3 := Lib.hid (HV2.out.below hb3)
  clear hb3 r0 r1 rf0 rf1 u0 u1 uf0 uf1 HT2 HR2 HH2 HV2 o1 o2 o3 o4 hand
  have HFC := Lib.hid (Tl.fst_in (x := Tl.al c m))
  have HCW : Hid (∀ i, i = Tl.vac t.ws → Tl.crW t c m = nxW (Tl.W t i) 0 (fstI (Mk.cpus (Tl.al c m)))) := Lib.hid (fun i h => by rw [h]; rfl)
  generalize fstI (Mk.cpus (Tl.al c m)) = fc at HFC HCW ⊢
  generalize anyB (Mk.cpus (Tl.al c m)) = sb
  go_upto_region 7 with fail
  go_wp2
  go_loopw [14] (fun i wr => ∃ k : Nat, k ≤ l ∧ i = .int .i64 k ∧ Hid ((∀ j, j < k → Tl.fr (t.ws.getD j 0) = false) ∧ Below w3.heap.size w3 wr)) (fun i _ => l - (intOf i).toNat)
  case atStart => exact ⟨0, by omega, rfl, Lib.hid ⟨fun j hj => absurd hj (Nat.not_lt_zero _), Below.refl _ _⟩⟩
  case round =>
    obtain ⟨k, hk, rfl, HJ⟩ := hrel
    obtain ⟨x0, x1⟩ := (HT3.out.below HJ.out.2).cells
    by_cases hlt : k < l
    case neg =>
      obtain rfl : k = l := by omega
      have hv := Tl.vac_none (ws := t.ws) (fun j hj => HJ.out.1 j (by rw [← HN.out]; exact hj))
      have hE : Tl.crE t c n m = 5 := Tl.crE_full HRT.out HOC.out (by rw [hv]; omega)
      have HF := Lib.hid (HZ.out wr (HB3.out.trans (HJ.out.2.mono HB3.out.size)) 5 (by decide) hE)
      have HS := Lib.hid (set4_box (a := .slice none 0 0) (b := .slice none 0 0) (HR3.out.below HJ.out.2) (HH3.out.below HJ.out.2) HNE.out 0 0)
      obtain ⟨r0, r1⟩ := (HR3.out.below HJ.out.2).cells
      have rf0 := (HR3.out.below HJ.out.2).free 0
      have rf1 := (HR3.out.below HJ.out.2).free 1
      obtain ⟨u0, u1⟩ := (HH3.out.below HJ.out.2).cells
      have uf0 := (HH3.out.below HJ.out.2).free 0
      have uf1 := (HH3.out.below HJ.out.2).free 1
      clear hE HZ HRT hv
      unfold set4 at HS HF
      go_wp2
      obtain ⟨q0, q1⟩ := HS.out.1.cells
      obtain ⟨q2, q3⟩ := HS.out.2.cells
      exact bodyPost_ret (v := .tuple #[.agg #[.slice none 0 0, .slice none 0 0], .agg #[.int .i64 0, .int .i64 0], .int .i64 5]) (by simp [results, Tryd.results27, go_sem, q0, q1, q2, q3]) rfl HF.out
    rcases HI.out.parts with ⟨h, -⟩ | ⟨-, -, b, off, cap', hv, hb, hc⟩
    · have := HN.out; rw [h] at this; simp at this; omega
    simp only [Value.slice.injEq] at hv
    obtain ⟨rfl, -, rfl⟩ := hv
    have hWr := HB3.out.trans (HJ.out.2.mono HB3.out.size)
    have k0 : wr.cell? ⟨b, off + k, none⟩ = some (.int .u64 (t.ws.getD k 0)) := (hWr.cell (p := ⟨b, off + k, none⟩) hb).trans (hc k (by rw [HN.out]; exact hlt))
    have HWR := Lib.hid hWr
    have hU : U (Tl.W t k) := HV3.out.U (by rw [HN.out]; exact hlt)
    have HU : Hid (U (t.ws.getD k 0)) := Lib.hid hU
    have HTK := Lib.hid (Tl.take_iff (w := t.ws.getD k 0) (c := fc) (HRT.out.2.2 k (by rw [HN.out]; exact hlt)).1 HFC.out)
    have HVAC : Hid (Tl.fr (t.ws.getD k 0) = true → Tl.vac t.ws = k) := Lib.hid (fun h => Tl.vac_at (by rw [HN.out]; exact hlt) h HJ.out.1)
    have HCW2 : Hid (Tl.vac t.ws = k → Tl.crW t c m = nxW (t.ws.getD k 0) 0 fc) := Lib.hid (fun h => HCW.out k h.symm)
    have HNXT : Hid (Tl.fr (t.ws.getD k 0) = false → ∀ j, j < k + 1 → Tl.fr (t.ws.getD j 0) = false) := Lib.hid (fun h j hj => by
      by_cases e : j = k
      · subst e; exact h
      · exact HJ.out.1 j (by omega))
    have HJB := Lib.hid HJ.out.2
    clear hc hb hWr hU HJ
    generalize t.ws.getD k 0 = z at k0 HU HTK HVAC HCW2 HNXT
    obtain ⟨er, her⟩ : ∃ er, nxE z 0 fc = er := ⟨_, rfl⟩
    obtain ⟨nw, hnw⟩ : ∃ nw, nxW z 0 fc = nw := ⟨_, rfl⟩
    have HNX := Lib.hid (rnext_any z 0 fc HU.out wr)
    have HNU : Hid (U nw ∧ (Lit.int .u64 nw).wf = true) := Lib.hid ⟨hnw ▸ nx_U, hnw ▸ nx_wf⟩
    rw [her, hnw] at HNX
    rw [her] at HTK
    rw [hnw] at HCW2
    clear her hnw
    go_wp2_with fail
    refine HNX.out.mono ?_
    rintro e' w4 ⟨rfl, hb4⟩
    have HB4 := Lib.hid (HJB.out.trans (hb4.mono HJB.out.size))
    clear hb4 HNX x0 x1 k0
    by_cases hz : er = 0
    case neg =>
      have e1 : (er == 0) = false := by simp [hz]
      have HG := Lib.hid (HNXT.out (by
        cases h : Tl.fr z with
        | false => rfl
        | true => exact absurd (HTK.out.2 h) hz))
      clear hz
      go_wp2
      exact ⟨⟨k + 1, by omega, by go_num, Lib.hid ⟨HG.out, HB4.out⟩⟩, by simp [intOf]; omega⟩
    subst hz
    have hvk := HVAC.out (HTK.out.1 rfl)
    have hE := Tl.crE_ok HRT.out HOC.out (by rw [hvk, HN.out]; exact hlt)
    have HE := Lib.hid hE
    have HY := Lib.hid (Tl.cr_yes hE)
    rw [HCW2.out hvk, hvk] at HY
    clear hvk hE HVAC HTK HCW2 HNXT HZ
    go_wp2_with fail
    refine (rgen_any nw HNU.out.1 w4).mono ?_
    rintro e' w' ⟨rfl, rfl⟩
    have HT4 := Lib.hid (HT3.out.below HB4.out)
    have HR4 := Lib.hid (HR3.out.below HB4.out)
    have HH4 := Lib.hid (HH3.out.below HB4.out)
    have HV4 := Lib.hid (HV3.out.below HB4.out)
    obtain ⟨x0, x1⟩ := HT4.out.cells
    have HOK : Hid (encK.ok ⟨n, Tl.al c m, 0⟩) := Lib.hid ⟨by have := HOC.out.2.1; unfold Ni; show _ ≤ n ∧ n ≤ _; omega, HVA.out, by unfold Ni; show _ ≤ (0 : Int) ∧ (0 : Int) ≤ _; decide⟩
    go_wp2_with fail
    refine (rwith_far t k nw ⟨n, Tl.al c m, 0⟩ _ w4 HV4.out (by rw [HN.out]; exact hlt) HRT.out.1 HRT.out.2.1 HNU.out.2 HOK.out).mono ?_
    rintro e' w6 ⟨⟨a2, l2, p2, a3, l3, p3, rfl, hv6, hf6⟩, hb6⟩
    have hbt := HR4.out.below hb6
    have hbh := HH4.out.below hb6
    have hlt1 := HR4.out.lt
    have hlt2 := HH4.out.lt
    have HS := Lib.hid (set4_box (a := .slice a2 l2 p2) (b := .slice a3 l3 p3) hbt hbh HNE.out (k : Int) (G nw))
    have HF : Hid (GivesH W (Tl.crT t c n m) (Tl.crH t c n m) (Tl.crE t c n m) (.returned (.tuple #[.agg #[.slice a2 l2 p2, .slice a3 l3 p3], .agg #[.int .i64 (k : Int), .int .i64 (G nw)], .int .i64 0])) (set4 w6 (W.heap.size + 1) (W.heap.size + 1 + 1) (.slice a2 l2 p2) (.slice a3 l3 p3) (k : Int) (G nw))) := Lib.hid (by
      rw [HY.out.1, HY.out.2, HE.out]
      have hw4 : Below W.heap.size W w4 := HB3.out.trans (HB4.out.mono HB3.out.size)
      exact ⟨⟨_, _, _, _, _, _, rfl, set4_tv hv6 hf6 hlt1 hlt2 _ _ _ _⟩, set4_below (hw4.trans (hb6.mono hw4.size)) (by omega) (by omega) _ _ _ _⟩)
    obtain ⟨r0, r1⟩ := hbt.cells
    have rf0 := hbt.free 0
    have rf1 := hbt.free 1
    obtain ⟨u0, u1⟩ := hbh.cells
    have uf0 := hbh.free 0
    have uf1 := hbh.free 1
    clear hb6 hbt hbh hv6 hf6 hlt1 hlt2 HR4 HH4 x0 x1
    unfold set4 at HS HF
    go_wp2
    obtain ⟨q0, q1⟩ := HS.out.1.cells
    obtain ⟨q2, q3⟩ := HS.out.2.cells
    exact bodyPost_ret (v := .tuple #[.agg #[.slice a2 l2 p2, .slice a3 l3 p3], .agg #[.int .i64 (k : Int), .int .i64 (G nw)], .int .i64 0]) (by simp [results, Tryd.results27, go_sem, q0, q1, q2, q3]) rfl HF.out
end Go.Proofs.YtjikabalpejmlaaDoor
