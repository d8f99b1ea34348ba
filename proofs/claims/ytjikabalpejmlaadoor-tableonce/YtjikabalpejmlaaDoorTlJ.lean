/-
  Layer 14's Exit.
-/
import Derived.Test.YtjikabalpejmlaaDoorTlI
namespace Go.Proofs.YtjikabalpejmlaaDoor
open Go.RowKit Go.Deep Pk Lf
open Mk (V allM cpus fstI anyB)

set_option maxHeartbeats 4000000 in
set_option maxRecDepth 100000 in
theorem exit_any' (t : Tl.T) (s g : Int) (v : Value) (W : World) (hV : Tv W v t) (hT : Tab W) :
    Calls Tryd.prog 18 #[v, .agg #[.int .i64 s, .int .i64 g]] W (Tells W (Tl.exT t s g) (Tl.exE t s g)) := by
  have hmf : ∀ (fn : Fn) (first cap : Array Value) (w : World), (Instr.makeFunc fn first cap).run Tryd.prog w = .ok (.func fn first cap) w := fun _ _ _ _ => rfl
  have HV := Lib.hid hV
  obtain ⟨c0, c1, rfl, hI, hK⟩ := hV
  have HA := Lib.hid (allocs_at [.cells #[c0, c1] 25, .cells #[.int .i64 s, .int .i64 g] 27, .cells #[.slice none 0 0, .slice none 0 0] 25] W)
  have HB := Lib.hid (allocs_below W [.cells #[c0, c1] 25, .cells #[.int .i64 s, .int .i64 g] 27, .cells #[.slice none 0 0, .slice none 0 0] 25])
  simp only [allocs] at HA HB
  have HT := Lib.hid hT
  clear hT hI hK
  go_enter Tryd.func18, Tryd.ntmps18
  go_upto_region 1 with fail
  generalize ((W.alloc _).alloc _).alloc _ = w1 at HA HB ⊢
  have h0 : Bt w1 W.heap.size c0 c1 := HA.out 0 _ rfl
  have h1 : Bh w1 (W.heap.size + 1) ⟨s, g⟩ := HA.out 1 _ rfl
  have h4 : Bt w1 (W.heap.size + 1 + 1) (.slice none 0 0) (.slice none 0 0) := HA.out 2 _ rfl
  have HR4 := Lib.hid h4
  have HV1 := Lib.hid (HV.out.below HB.out)
  have HT1 := Lib.hid (HT.out.below HB.out)
  have HCH : Hid (Calls Tryd.prog 33 #[.agg #[c0, c1], .func (.func 43) #[] #[.pointer (some ⟨W.heap.size, 0, none⟩), .pointer (some ⟨W.heap.size + 1, 0, none⟩)]] w1 (Tells w1 (Tl.exT t s g) (Tl.exE t s g))) := Lib.hid (by
    by_cases hr : Tl.right t
    · refine (change_do t (Tl.exT t s g) _ w1 HV1.out HT1.out hr 43 _ (Tl.exE t s g) (fun _ => False) (fun _ => True) (enters_of Tryd.func43 (by kernel_rfl) rfl) (fun i h => h.elim) (fun _ _ _ _ => trivial) (exit_does t w1 HT1.out hr c0 c1 HV1.out _ _ s g h0 h1) (fun h => exT_ok HV1.out h)).mono ?_
      rintro e w' ⟨hb, -, h | ⟨hn, rfl⟩⟩
      · obtain ⟨hz, v', rfl, hv, hf⟩ := h
        exact ⟨⟨v', by rw [hz], hv, hf⟩, hb.below (Nat.le_refl _) (fun i h => h.elim)⟩
      · exact ⟨⟨_, rfl, by rw [Tl.ex_no hn]; exact Tv.zero _, Far.zero _⟩, hb.below (Nat.le_refl _) (fun i h => h.elim)⟩
    · refine (change_no t _ _ w1 HV1.out HT1.out hr).mono ?_
      rintro e w' ⟨rfl, hb⟩
      exact ⟨⟨_, by rw [Tl.exE_left hr], by rw [Tl.ex_no (by rw [Tl.exE_left hr]; decide)]; exact Tv.zero _, Far.zero _⟩, hb⟩)
  obtain ⟨x0, x1⟩ := h0.cells
  clear h0 h1 h4 HA HV HT HT1 HV1
  go_wp2_with fail
  refine HCH.out.mono ?_
  rintro e w' ⟨⟨v', rfl, hv, hf⟩, hb⟩
  obtain ⟨a0, l0, p0, a1, l1, p1, rfl, -, -⟩ := id hf
  have hb2 := HB.out.trans (hb.mono HB.out.size)
  obtain ⟨y0, y1⟩ := (HR4.out.below hb).cells
  have f0 := (HR4.out.below hb).free 0
  have f1 := (HR4.out.below hb).free 1
  have HS := Lib.hid ((HR4.out.below hb).set (.slice a0 l0 p0) (.slice a1 l1 p1))
  have hlt := HR4.out.lt
  have HX : Hid (Tells W (Tl.exT t s g) (Tl.exE t s g) (.returned (.tuple #[.agg #[.slice a0 l0 p0, .slice a1 l1 p1], .int .i64 (Tl.exE t s g)])) ((w'.setCell ⟨W.heap.size + 1 + 1, 0, none⟩ (.slice a0 l0 p0)).setCell ⟨W.heap.size + 1 + 1, 1, none⟩ (.slice a1 l1 p1))) := Lib.hid
    ⟨⟨_, rfl, (hv.off hf (p := ⟨W.heap.size + 1 + 1, 0, none⟩) hlt _).off hf (p := ⟨W.heap.size + 1 + 1, 1, none⟩) hlt _, hf.mono HB.out.size⟩,
      (hb2.setCell (p := ⟨W.heap.size + 1 + 1, 0, none⟩) (show W.heap.size ≤ W.heap.size + 1 + 1 by omega) _).setCell (p := ⟨W.heap.size + 1 + 1, 1, none⟩) (show W.heap.size ≤ W.heap.size + 1 + 1 by omega) _⟩
  clear hb hb2 hv hf hlt HCH x0 x1
  go_wp2
  obtain ⟨q0, q1⟩ := HS.out.cells
  exact bodyPost_ret (v := .tuple #[.agg #[.slice a0 l0 p0, .slice a1 l1 p1], .int .i64 (Tl.exE t s g)]) (by simp [results, Tryd.results18, go_sem, q0, q1]) rfl HX.out

/-! ### Create -/
/-- A mask in a box. -/
def Bm (w : World) (n : Nat) (x : Nat) : Prop := w.heap[n]? = some (.cells #[.int .u64 (x : Int)] 28)
theorem Bm.lt {w : World} {n x : Nat} (h : Bm w n x) : n < w.heap.size := (Array.getElem?_eq_some_iff.1 h).1
theorem Bm.below {w w' : World} {n x : Nat} (h : Bm w n x) {B : Nat} (hn : n < B) (hb : Below B w w') : Bm w' n x := (hb.block n hn).trans h
theorem Bm.cell {w : World} {n x : Nat} (h : Bm w n x) : w.cell? ⟨n, 0, none⟩ = some (.int .u64 (x : Int)) := by simp [World.cell?, show w.heap[n]? = _ from h]
theorem Bh.set {w : World} {n : Nat} {x : Tl.Hd} (h : Bh w n x) (y : Tl.Hd) : Bh ((w.setCell ⟨n, 0, none⟩ (.int .i64 y.slot)).setCell ⟨n, 1, none⟩ (.int .i64 y.gen)) n y := by
  have h0 := heap_setCell_same w n 0 _ _ (.int .i64 y.slot) h
  have h1 := heap_setCell_same _ n 1 _ _ (.int .i64 y.gen) h0
  unfold Bh
  rw [h1]; rfl
theorem and_al (m : Nat) (hm : V m) (c : Int) : bits .and .u64 (m : Int) ((allM c : Nat) : Int) = ((Tl.al c m : Nat) : Int) := by
  rw [bits_and_u64_nat m _ hm (Mk.V_all c)]; rfl
/-- What the closure asks of Create's arguments, in its order. -/
def okB (c n : Int) (m : Nat) : Bool := decide (1 ≤ c) && (decide (c ≤ 64) && (niceB n && anyB (Mk.cpus (Tl.al c m))))
theorem okB_iff {c n : Int} {m : Nat} (hm : V m) : okB c n m = true ↔ Tl.okC c n m := by
  unfold okB Tl.okC
  rw [Tl.any_ne (Tl.V_al hm)]
  simp only [Bool.and_eq_true, decide_eq_true_eq, niceB_iff]
  constructor
  · rintro ⟨a, b, d, e⟩; exact ⟨⟨a, b⟩, d, e⟩
  · rintro ⟨⟨a, b⟩, d, e⟩; exact ⟨a, b, d, e⟩
set_option maxHeartbeats 8000000 in
set_option maxRecDepth 100000 in
theorem create_does (t : Tl.T) (W : World) (hT : Tab W) (hTM : TabM W) (hr : Tl.right t) (hws : ∀ z ∈ t.ws, (Lit.int .u64 z).wf = true) (bm bc bn bh : Nat) (c n : Int) (m : Nat) (hm : V m) (h1 : Bm W bm m) (h2 : Bi W bc c) (h3 : Bi W bn n) (h4 : Bh W bh Tl.h0) :
    Does 34 #[.pointer (some ⟨bm, 0, none⟩), .pointer (some ⟨bc, 0, none⟩), .pointer (some ⟨bn, 0, none⟩), .pointer (some ⟨bh, 0, none⟩)] W t (Tl.crT t c n m) (Tl.crE t c n m) (fun j => j = bh) (fun Y => Bh Y bh (Tl.crH t c n m)) := by
  intro X n0 n1 hX hne hg0 hg1 hW hTd
  show Calls Tryd.prog 34 #[.agg #[.slice (some ⟨n0, 0, none⟩) t.ws.length t.ws.length, .slice (some ⟨n1, 0, none⟩) t.ws.length t.ws.length], .pointer (some ⟨bm, 0, none⟩), .pointer (some ⟨bc, 0, none⟩), .pointer (some ⟨bn, 0, none⟩), .pointer (some ⟨bh, 0, none⟩)] X _
  obtain ⟨hb1, hbr⟩ := rows_box X n0 n1 t.ws.length
  have HB1 := Lib.hid hb1
  have hX1 := hX.trans (hb1.mono hX.size)
  have HM1 := Lib.hid (h1.below h1.lt hX1)
  have HC1 := Lib.hid (h2.below h2.lt hX1)
  have HN1 := Lib.hid (h3.below h3.lt hX1)
  have HH1 := Lib.hid (h4.below hX1)
  have HBR := Lib.hid hbr
  have HT1 := Lib.hid (And.intro (hT.below hX1) (hTM.below hX1))
  have HW1 := Lib.hid (hW.below hb1)
  have HD1 := Lib.hid (hTd.below hb1)
  have HR := Lib.hid hr
  have HNE : Hid (n0 ≠ n1 ∧ bh ≠ n0 ∧ bh ≠ n1) := Lib.hid ⟨hne, by have := h4.lt; omega, by have := h4.lt; omega⟩
  have HGP : Hid (n0 ≠ 0) := Lib.hid (by
    have := World.block_lt_of_cell? W ⟨0, 2 * 0, none⟩ (hT 0 (by decide)).1
    have : 0 < W.heap.size := this
    omega)
  have HGP2 : Hid (n1 ≠ 0) := Lib.hid (by
    have := World.block_lt_of_cell? W ⟨0, 2 * 0, none⟩ (hT 0 (by decide)).1
    have : 0 < W.heap.size := this
    omega)
  have HUU := Lib.hid (fun i (hi : i < t.ws.length) => pkU_of_wf (hws (t.ws.getD i 0) (by rw [List.getD_eq_getElem?_getD, List.getElem?_eq_getElem hi]; exact List.getElem_mem hi)))
  have HWF := Lib.hid hws
  have HV := Lib.hid (Tl.V_al (c := c) hm)
  have HBAD : Hid (okB c n m = false → Tl.crE t c n m = 1 ∧ Tl.crH t c n m = Tl.h0) := Lib.hid (fun h => by
    have e := Tl.crE_arg hr (fun h2 => by rw [(okB_iff hm).2 h2] at h; cases h)
    exact ⟨e, (Tl.cr_no (by rw [e]; decide)).2⟩)
  have HOK : Hid (okB c n m = true → Tl.okC c n m) := Lib.hid (okB_iff hm).1
  have hand := and_al m hm c
  clear hb1 hbr h1 h2 h3 h4 hT hTM hr hW hTd hws hX hX1 hm
  go_enter Tryd.func34, Tryd.ntmps34
  go_upto_region 1 with fail
  generalize X.heap.size = rb at HBR ⊢
  generalize X.alloc _ = w1 at HB1 HM1 HC1 HN1 HH1 HBR HT1 HW1 HD1 ⊢
  have fm : ∀ q, (w1.drewN q).cell? ⟨bm, 0, none⟩ = some (.int .u64 (m : Int)) := fun q => HM1.out.cell
  have fc : ∀ q, (w1.drewN q).cell? ⟨bc, 0, none⟩ = some (.int .i64 c) := fun q => HC1.out.cell
  have hal : ∀ q, Calls Tryd.prog 35 #[.int .i64 c] (w1.drewN q) fun e w' => e = .returned (.int .u64 (allM c : Nat)) ∧ w' = w1.drewN q := fun q => (all_any c _).mono (fun _ _ h => ⟨h.1, h.2.symm⟩)
  go_quiet (first | (go_at_call 35; exact Calls.quiet_of_same (hal _)))
  have hba : Below w1.heap.size w1 (w1.drewN nq) := below_drewN (Below.refl _ _) nq
  generalize w1.drewN nq = wa at hba ⊢
  have HBA := Lib.hid hba
  clear hba fm fc hal hand
  go_wp2_with fail
  refine (first_any (Tl.al c m) HV.out wa (HT1.out.2.below HBA.out)).mono ?_
  rintro e' w2 ⟨rfl, hb2⟩
  have HB2 := Lib.hid (bOn HBA.out hb2)
  have HC2 := Lib.hid (HC1.out.below HC1.out.lt HB2.out)
  have HN2 := Lib.hid (HN1.out.below HN1.out.lt HB2.out)
  have HH2 := Lib.hid (HH1.out.below HB2.out)
  have HBR2 := Lib.hid (HBR.out.below HB2.out)
  have HT2 := Lib.hid (And.intro (HT1.out.1.below HB2.out) (HT1.out.2.below HB2.out))
  have HW2 := Lib.hid (HW1.out.below HB2.out)
  have HD2 := Lib.hid (HD1.out.below HB2.out)
  have HBX : Hid (But (fun j => j = n0 ∨ j = n1 ∨ j = bh) X w2) := Lib.hid ((But.of HB1.out).trans (But.of HB2.out))
  clear hb2 HBA HM1 HC1 HN1 HH1 HBR HT1 HW1 HD1 HB1 HB2
  have c2 := HC2.out.cell
  have c3 := HN2.out.cell
  by_cases ho1 : 1 ≤ c
  case neg =>
    have HS := Lib.hid (HBAD.out (by unfold okB; rw [decide_eq_false ho1]; rfl))
    have e1 : decide (c ≥ 1) = false := decide_eq_false ho1
    clear ho1
    go_wp2_with fail
    refine (need_no _ _).mono ?_
    rintro e' w' ⟨rfl, rfl⟩
    go_wp2
    rw [HS.out.1, HS.out.2]
    exact ⟨rfl, HBX.out, HH2.out, .inr ⟨by decide, rfl⟩⟩
  have e1 : decide (c ≥ 1) = true := decide_eq_true ho1
  by_cases ho2 : c ≤ 64
  case neg =>
    have HS := Lib.hid (HBAD.out (by unfold okB; rw [decide_eq_false ho2]; simp))
    have e2 : decide (c ≤ 64) = false := decide_eq_false ho2
    clear ho1 ho2
    go_wp2_with fail
    refine (need_no _ _).mono ?_
    rintro e' w' ⟨rfl, rfl⟩
    go_wp2
    rw [HS.out.1, HS.out.2]
    exact ⟨rfl, HBX.out, HH2.out, .inr ⟨by decide, rfl⟩⟩
  have e2 : decide (c ≤ 64) = true := decide_eq_true ho2
  have HO12 := Lib.hid (And.intro ho1 ho2)
  clear ho1 ho2
  obtain ⟨nb, hnb⟩ : ∃ nb, niceB n = nb := ⟨_, rfl⟩
  obtain ⟨sb, hsb⟩ : ∃ sb, anyB (Mk.cpus (Tl.al c m)) = sb := ⟨_, rfl⟩
  rw [hsb]
  have HNI := Lib.hid (isNice_any n w2)
  rw [hnb] at HNI
  have HOB : Hid (okB c n m = (nb && sb)) := Lib.hid (by unfold okB; rw [decide_eq_true HO12.out.1, decide_eq_true HO12.out.2, hnb, hsb]; rfl)
  clear hnb hsb
  go_wp2_with fail
  refine HNI.out.mono ?_
  rintro e' w' ⟨rfl, rfl⟩
  cases nb with
  | false =>
    have HS := Lib.hid (HBAD.out HOB.out)
    go_wp2_with fail
    refine (need_no _ _).mono ?_
    rintro e' w' ⟨rfl, rfl⟩
    go_wp2
    rw [HS.out.1, HS.out.2]
    exact ⟨rfl, HBX.out, HH2.out, .inr ⟨by decide, rfl⟩⟩
  | true =>
  cases sb with
  | false =>
    have HS := Lib.hid (HBAD.out HOB.out)
    go_wp2_with fail
    refine (need_no _ _).mono ?_
    rintro e' w' ⟨rfl, rfl⟩
    go_wp2
    rw [HS.out.1, HS.out.2]
    exact ⟨rfl, HBX.out, HH2.out, .inr ⟨by decide, rfl⟩⟩
  | true =>
  have HOC := Lib.hid (HOK.out HOB.out)
  clear HOB HOK HBAD HNI HO12
  go_wp2_with fail
  refine (need_yes _ _).mono ?_
  rintro e' w' ⟨rfl, rfl⟩
  obtain ⟨x0, x1⟩ := HBR2.out.cells
  go_wp2_with fail
  refine (vacant_any t.ws _ w2 (HW2.out.ints HWF.out HR.out.1 rfl) HT2.out.1).mono ?_
  rintro e' w3 ⟨rfl, hb3⟩
  have HC3 := Lib.hid (HC2.out.below HC2.out.lt hb3)
  have HN3 := Lib.hid (HN2.out.below HN2.out.lt hb3)
  have HH3 := Lib.hid (HH2.out.below hb3)
  have HBR3 : Hid (Br w3 rb _ _) := Lib.hid (HBR2.out.below hb3)
  have HT3 := Lib.hid (HT2.out.1.below hb3)
  have HW3 := Lib.hid (HW2.out.below hb3)
  have HD3 := Lib.hid (HD2.out.below hb3)
  have HBX3 := Lib.hid (HBX.out.trans (But.of hb3))
  clear hb3 HC2 HN2 HH2 HBR2 HT2 HW2 HD2 HBX x0 x1 c2 c3
  by_cases hv : Tl.vac t.ws < t.ws.length
  case neg =>
    have HS := Lib.hid (Tl.crE_full HR.out HOC.out hv)
    have HS2 := Lib.hid (Tl.cr_no (t := t) (c := c) (n := n) (m := m) (by rw [HS.out]; decide)).2
    have e3 : Tl.vacI t.ws = -1 := by unfold Tl.vacI; rw [if_neg hv]
    rw [e3]
    clear hv e3
    go_wp2_with fail
    refine (need_no _ _).mono ?_
    rintro e' w' ⟨rfl, rfl⟩
    go_wp2
    rw [HS.out, HS2.out]
    exact ⟨rfl, HBX3.out, HH3.out, .inr ⟨by decide, rfl⟩⟩
  have HS := Lib.hid (Tl.crE_ok HR.out HOC.out hv)
  have HY := Lib.hid (Tl.cr_yes HS.out)
  have e3 : Tl.vacI t.ws = (Tl.vac t.ws : Int) := by unfold Tl.vacI; rw [if_pos hv]
  have HZ : Hid (nxE (t.ws.getD (Tl.vac t.ws) 0) 0 (fstI (Mk.cpus (Tl.al c m))) = 0) := Lib.hid ((Tl.take_iff (HR.out.2.2 _ hv).1 (Tl.fst_in (x := Tl.al c m))).2 (Tl.vac_fr hv).1)
  have HPI := Lib.hid (pass_in w3 n0 n1 t.ws (Tl.vac t.ws) hv 0 (fstI (Mk.cpus (Tl.al c m))) (by decide) HT3.out HW3.out (HUU.out _ hv))
  rw [e3]
  unfold Tl.crW Tl.W at HY
  have HNU : Hid (U (nxW (t.ws.getD (Tl.vac t.ws) 0) 0 (fstI (Mk.cpus (Tl.al c m))))) := Lib.hid nx_U
  have HL : Hid (Tl.vac t.ws < t.ts.length) := Lib.hid (by rw [HR.out.2.1]; exact hv)
  generalize Tl.vac t.ws = i at hv HY HZ HPI HNU HL ⊢
  generalize t.ws.getD i 0 = z at HY HZ HPI HNU ⊢
  generalize fstI (Mk.cpus (Tl.al c m)) = fc at HY HZ HPI HNU ⊢
  generalize nxW z 0 fc = nw at HY HPI HNU ⊢
  have e4 : decide ((i : Int) ≥ 0) = true := decide_eq_true (by omega)
  clear e3
  go_wp2_with fail
  refine (need_yes _ _).mono ?_
  rintro e' w' ⟨rfl, rfl⟩
  obtain ⟨x0, x1⟩ := HBR3.out.cells
  go_wp2_with fail
  refine HPI.out.mono ?_
  rintro e' w4 h
  rcases h with ⟨hz, rfl, Y, hY, rfl⟩ | ⟨hnz, rfl, hY⟩
  case inr => exact absurd HZ.out hnz
  have HBX4 := Lib.hid (HBX3.out.trans ((But.of hY).set (p := ⟨n0, i, none⟩) (.inl rfl) (.int .u64 nw)))
  have HW4 := Lib.hid ((HW3.out.below hY).set i nw)
  have HD4 := Lib.hid ((HD3.out.below hY).other (a := ⟨n0, i, none⟩) (v := .int .u64 nw) (Ne.symm HNE.out.1))
  have HBR4 : Hid (Br (Y.setCell ⟨n0, i, none⟩ (.int .u64 nw)) rb _ _) := Lib.hid ((HBR3.out.below hY).other (p := ⟨n0, i, none⟩) (v := .int .u64 nw) (by
    intro e
    have e : rb = n0 := e
    have a := HBR3.out
    have b := HW3.out
    unfold Br at a; unfold Wd at b
    rw [e, b] at a
    simp only [Option.some.injEq, Obj.cells.injEq] at a
    exact absurd a.2.1 (by decide)))
  have HH4 := Lib.hid ((HH3.out.below hY).other (p := ⟨n0, i, none⟩) (v := .int .u64 nw) HNE.out.2.1)
  have HN4 : Hid (Bi (Y.setCell ⟨n0, i, none⟩ (.int .u64 nw)) bn n) := Lib.hid ((Below.heap_setCell _ _ _ _ (by
    intro e
    have e : bn = n0 := e
    have a := HN3.out
    have b := HW3.out
    unfold Bi at a; unfold Wd at b
    rw [e, b] at a
    simp only [Option.some.injEq, Obj.cells.injEq] at a
    exact absurd a.2.1 (by decide))).trans (HN3.out.below HN3.out.lt hY))
  have HT4 : Hid (Tab (Y.setCell ⟨n0, i, none⟩ (.int .u64 nw))) := Lib.hid (by
    have := HT3.out.below hY
    intro k hk
    rw [cell_off (by show _ ≠ n0; exact Ne.symm HGP.out), cell_off (by show _ ≠ n0; exact Ne.symm HGP.out)]
    exact this k hk)
  clear hz hY x0 x1 HBR3 HH3 HN3 HC3 HT3 HW3 HD3 HBX3
  generalize Y.setCell _ _ = w4 at HBX4 HW4 HD4 HBR4 HH4 HN4 HT4 ⊢
  obtain ⟨x0, x1⟩ := HBR4.out.cells
  go_wp2_with fail
  refine (at_yes w4 n0 n1 t.ws.length i hv).mono ?_
  rintro e' w5 ⟨rfl, hb5⟩
  have hd := HD4.out.below hb5
  obtain ⟨d0, d1, d2⟩ := hd.cell HL.out
  have f0 := hd.free (i * 3)
  have f1 := hd.free (i * 3 + 1)
  have f2 := hd.free (i * 3 + 2)
  have c3 := (HN4.out.below HN4.out.lt hb5).cell
  have HW5 := Lib.hid ((HW4.out.below hb5).task HNE.out.1 i ⟨n, Tl.al c m, 0⟩)
  have HD5 := Lib.hid (hd.set HL.out ⟨n, Tl.al c m, 0⟩)
  have HB5 := Lib.hid ((HBX4.out.trans (But.of hb5)).task (n := n1) (.inr (.inl rfl)) i ⟨n, Tl.al c m, 0⟩)
  have HH5 := Lib.hid ((((HH4.out.below hb5).other (p := ⟨n1, i * 3, none⟩) (v := .int .i64 n) HNE.out.2.2).other (p := ⟨n1, i * 3 + 1, none⟩) (v := .int .u64 (Tl.al c m : Int)) HNE.out.2.2).other (p := ⟨n1, i * 3 + 2, none⟩) (v := .int .i64 0) HNE.out.2.2)
  have HT5 : Hid (Tab (setTask w5 n1 i ⟨n, Tl.al c m, 0⟩)) := Lib.hid (by
    have := HT4.out.below hb5
    intro k hk
    unfold setTask
    rw [cell_off (by show _ ≠ n1; exact Ne.symm HGP2.out), cell_off (by show _ ≠ n1; exact Ne.symm HGP2.out), cell_off (by show _ ≠ n1; exact Ne.symm HGP2.out), cell_off (by show _ ≠ n1; exact Ne.symm HGP2.out), cell_off (by show _ ≠ n1; exact Ne.symm HGP2.out), cell_off (by show _ ≠ n1; exact Ne.symm HGP2.out)]
    exact this k hk)
  clear hb5 hd x0 x1 HD4 HW4 HBR4 HH4 HN4 HT4 HBX4
  go_upto_region 9 with fail
  unfold setTask at HW5 HB5 HT5
  change Hid (Wd (((w5.setCell ⟨n1, i * 3, none⟩ (.int .i64 n)).setCell ⟨n1, i * 3 + 1, none⟩ (.int .u64 (Tl.al c m : Int))).setCell ⟨n1, i * 3 + 2, none⟩ (.int .i64 0)) n0 (t.ws.set i nw)) at HW5
  change Hid (Td (((w5.setCell ⟨n1, i * 3, none⟩ (.int .i64 n)).setCell ⟨n1, i * 3 + 1, none⟩ (.int .u64 (Tl.al c m : Int))).setCell ⟨n1, i * 3 + 2, none⟩ (.int .i64 0)) n1 (t.ts.set i ⟨n, Tl.al c m, 0⟩)) at HD5
  change Hid (But _ X (((w5.setCell ⟨n1, i * 3, none⟩ (.int .i64 n)).setCell ⟨n1, i * 3 + 1, none⟩ (.int .u64 (Tl.al c m : Int))).setCell ⟨n1, i * 3 + 2, none⟩ (.int .i64 0))) at HB5
  change Hid (Tab (((w5.setCell ⟨n1, i * 3, none⟩ (.int .i64 n)).setCell ⟨n1, i * 3 + 1, none⟩ (.int .u64 (Tl.al c m : Int))).setCell ⟨n1, i * 3 + 2, none⟩ (.int .i64 0))) at HT5
  generalize ((w5.setCell _ _).setCell _ _).setCell _ _ = w6 at HW5 HD5 HB5 HH5 HT5 ⊢
  have HG : Hid ((t.ws.set i nw).getD i 0 = nw) := Lib.hid (by rw [List.getD_eq_getElem?_getD, List.getElem?_set_self hv]; rfl)
  have k0 := HW5.out.cell (i := i) (by rw [List.length_set]; exact hv)
  rw [HG.out] at k0
  clear d0 d1 d2 f0 f1 f2 c3
  go_wp2_with fail
  refine (gen_any nw HNU.out w6 HT5.out).mono ?_
  rintro e' w7 ⟨rfl, hb7⟩
  have hh := HH5.out.below hb7
  obtain ⟨y0, y1⟩ := hh.cells
  have g0 := hh.free 0
  have g1 := hh.free 1
  have HX := Lib.hid (And.intro (((HB5.out.trans (But.of hb7)).set (p := ⟨bh, 0, none⟩) (.inr (.inr rfl)) (.int .i64 (i : Int))).set (p := ⟨bh, 1, none⟩) (.inr (.inr rfl)) (.int .i64 (G nw))) (And.intro (hh.set ⟨(i : Int), G nw⟩) (And.intro (((HW5.out.below hb7).other (a := ⟨bh, 0, none⟩) (v := .int .i64 (i : Int)) (Ne.symm HNE.out.2.1)).other (a := ⟨bh, 1, none⟩) (v := .int .i64 (G nw)) (Ne.symm HNE.out.2.1)) (((HD5.out.below hb7).other (a := ⟨bh, 0, none⟩) (v := .int .i64 (i : Int)) (Ne.symm HNE.out.2.2)).other (a := ⟨bh, 1, none⟩) (v := .int .i64 (G nw)) (Ne.symm HNE.out.2.2)))))
  clear hb7 hh HW5 HD5 HB5 HH5 HT5 k0
  go_wp2
  go_end0
  rw [HS.out, HY.out.1, HY.out.2]
  exact ⟨HX.out.1, HX.out.2.1, .inl ⟨rfl, rfl, HX.out.2.2.1, HX.out.2.2.2⟩⟩
end Go.Proofs.YtjikabalpejmlaaDoor
