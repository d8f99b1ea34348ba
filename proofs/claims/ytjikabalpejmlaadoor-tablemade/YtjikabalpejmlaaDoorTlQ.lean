/-
  The laws' told of layer 14: true of any table that is handed in, right or not.
-/
import Derived.Test.YtjikabalpejmlaaDoorTlY
import Derived.Test.YtjikabalpejmlaaDoorTlZ
import Derived.Deep.RegionHeld3
namespace Go.Proofs.YtjikabalpejmlaaDoor
open Go.RowKit Go.Deep Pk Lf
open Mk (V allM cpus fstI anyB)

set_option maxHeartbeats 16000000 in
set_option maxRecDepth 100000 in
theorem told_any (t : Tl.T) (c0 c1 : Value) (s g c n : Int) (m : Nat) (ev : Int) (hm : V m) (hwf : (Lit.int .i64 ev).wf = true) (W : World) (hV : Tv W (.agg #[c0, c1]) t) (hl : t.ws.length ≤ 1000) (hO : Ok W) :
    Calls Tryd.prog 11 #[.agg #[c0, c1, .int .i64 s, .int .i64 g, .int .i64 c, .int .i64 n, .int .u64 (m : Int), .int .i64 ev]] W fun e w' => e = .returned (.bool true) ∧ Below W.heap.size W w' := by
  obtain ⟨d0, d1, e, hI, hK⟩ := id hV
  simp only [Value.agg.injEq, Array.mk.injEq, List.cons.injEq, and_true] at e
  obtain ⟨rfl, rfl⟩ := e
  obtain ⟨a0, p0, rfl, -⟩ := hI
  obtain ⟨a1, p1, rfl, -⟩ := hK
  obtain ⟨l0, hl0⟩ : ∃ l, t.ws.length = l := ⟨_, rfl⟩
  obtain ⟨l1, hl1⟩ : ∃ l, t.ts.length = l := ⟨_, rfl⟩
  rw [hl0, hl1] at hV ⊢
  have HL := Lib.hid hl
  have hb1 := (Below.refl W.heap.size W).alloc (Nat.le_refl _) (.cells #[.slice a0 l0 p0, .slice a1 l1 p1, .int .i64 s, .int .i64 g, .int .i64 c, .int .i64 n, .int .u64 (m : Int), .int .i64 ev] 30)
  have hh : (W.alloc (.cells #[.slice a0 l0 p0, .slice a1 l1 p1, .int .i64 s, .int .i64 g, .int .i64 c, .int .i64 n, .int .u64 (m : Int), .int .i64 ev] 30)).heap[W.heap.size]? = some (.cells #[.slice a0 l0 p0, .slice a1 l1 p1, .int .i64 s, .int .i64 g, .int .i64 c, .int .i64 n, .int .u64 (m : Int), .int .i64 ev] 30) := heap_alloc_new W _
  have HV1 := Lib.hid (hV.below hb1)
  have HO1 := Lib.hid (hO.below hb1)
  have HB1 := Lib.hid hb1
  have HM := Lib.hid hm
  have HF := Lib.hid hwf
  clear hV hO hb1 hl hl0 hl1 hm hwf
  go_enter Tryd.func11, Tryd.ntmps11
  go_upto_region 1 with fail
  generalize hq0 : W.heap.size = q0 at hh ⊢
  generalize W.alloc _ = w1 at hh HV1 HO1 HB1 ⊢
  have HIN : Hid (∀ X, Below w1.heap.size w1 X → X.cell? ⟨q0, 0, none⟩ = some (.slice a0 l0 p0) ∧ X.cell? ⟨q0, 1, none⟩ = some (.slice a1 l1 p1) ∧ X.cell? ⟨q0, 2, none⟩ = some (.int .i64 s) ∧ X.cell? ⟨q0, 3, none⟩ = some (.int .i64 g) ∧ X.cell? ⟨q0, 4, none⟩ = some (.int .i64 c) ∧ X.cell? ⟨q0, 5, none⟩ = some (.int .i64 n) ∧ X.cell? ⟨q0, 6, none⟩ = some (.int .u64 (m : Int)) ∧ X.cell? ⟨q0, 7, none⟩ = some (.int .i64 ev)) := Lib.hid (fun X hX => by
    have h := (hX.block q0 (Array.getElem?_eq_some_iff.1 hh).1).trans hh
    simp [World.cell?, h])
  subst hq0
  clear hh
  have B1 := Lib.hid (Bag.nil w1)
  -- Create, the program's
  obtain ⟨x0, x1, x2, x3, x4, x5, x6, x7⟩ := HIN.out w1 (Below.refl _ _)
  go_wp2_with fail
  refine (create_g HV1.out HO1.out c n m HM.out).mono ?_
  rintro e' w2 ⟨⟨a2, l2, p2, a3, l3, p3, rfl, hv⟩, hb⟩
  generalize hcT : Tl.crT t c n m = tC at hv ⊢
  generalize hcH : Tl.crH t c n m = hC at hv ⊢
  generalize hcE : Tl.crE t c n m = eC at hv ⊢
  obtain ⟨hs, hg⟩ := hC
  have B2 : Hid (Bag w1 ((w2.alloc (.cells #[.slice a2 l2 p2, .slice a3 l3 p3] 25)).alloc (.cells #[.int .i64 hs, .int .i64 hg] 27)) [.h (w2.heap.size + 1) ⟨hs, hg⟩, .t w2.heap.size tC]) := Lib.hid ((B1.out.up hb).th hv ⟨hs, hg⟩)
  clear hv hb B1 x0 x1 x2 x3 x4 x5 x6 x7
  go_upto_region 2 with fail
  generalize w2.heap.size = n2 at B2 ⊢
  generalize (w2.alloc _).alloc _ = y2 at B2 ⊢
  -- Create, the document's
  obtain ⟨x0, x1, x2, x3, x4, x5, x6, x7⟩ := HIN.out y2 B2.out.bel
  have HCR := Lib.hid (rcreate_any t c n m HM.out _ y2 (HV1.out.below B2.out.bel))
  rw [hcT, hcH, hcE] at HCR
  clear hcT hcH hcE
  go_wp2_with fail
  refine HCR.out.mono ?_
  rintro e' w3 ⟨⟨a2, l2, p2, a3, l3, p3, rfl, hv⟩, hb⟩
  have B3 : Hid (Bag w1 ((w3.alloc (.cells #[.slice a2 l2 p2, .slice a3 l3 p3] 25)).alloc (.cells #[.int .i64 hs, .int .i64 hg] 27)) [.h (w3.heap.size + 1) ⟨hs, hg⟩, .t w3.heap.size tC, .h (n2 + 1) ⟨hs, hg⟩, .t n2 tC]) := Lib.hid ((B2.out.up hb).th hv ⟨hs, hg⟩)
  clear hv hb B2 x0 x1 x2 x3 x4 x5 x6 x7 HCR
  go_upto_region 3 with fail
  generalize w3.heap.size = n3 at B3 ⊢
  generalize (w3.alloc _).alloc _ = y3 at B3 ⊢
  -- Exit
  obtain ⟨x0, x1, x2, x3, x4, x5, x6, x7⟩ := HIN.out y3 B3.out.bel
  go_wp2_with fail
  refine (exit_g (HV1.out.below B3.out.bel) (HO1.out.below B3.out.bel) s g).mono ?_
  rintro e' w4 ⟨⟨a2, l2, p2, a3, l3, p3, rfl, hv⟩, hb⟩
  generalize hxT : Tl.exT t s g = tX at hv ⊢
  generalize hxE : Tl.exE t s g = eX at hv ⊢
  have B4 := Lib.hid ((B3.out.up hb).tb hv)
  clear hv hb B3 x0 x1 x2 x3 x4 x5 x6 x7
  go_upto_region 4 with fail
  generalize w4.heap.size = n4 at B4 ⊢
  generalize w4.alloc _ = y4 at B4 ⊢
  obtain ⟨x0, x1, x2, x3, x4, x5, x6, x7⟩ := HIN.out y4 B4.out.bel
  have HXR := Lib.hid (rexit_any t s g _ y4 (HV1.out.below B4.out.bel))
  rw [hxT, hxE] at HXR
  clear hxT hxE
  go_wp2_with fail
  refine HXR.out.mono ?_
  rintro e' w5 ⟨⟨a2, l2, p2, a3, l3, p3, rfl, hv⟩, hb⟩
  have B5 := Lib.hid ((B4.out.up hb).tb hv)
  clear hv hb B4 x0 x1 x2 x3 x4 x5 x6 x7 HXR
  go_upto_region 5 with fail
  generalize w5.heap.size = n5 at B5 ⊢
  generalize w5.alloc _ = y5 at B5 ⊢
  -- Step
  obtain ⟨x0, x1, x2, x3, x4, x5, x6, x7⟩ := HIN.out y5 B5.out.bel
  go_wp2_with fail
  refine (step_g (HV1.out.below B5.out.bel) (HO1.out.below B5.out.bel) s ev c HF.out).mono ?_
  rintro e' w6 ⟨⟨a2, l2, p2, a3, l3, p3, rfl, hv⟩, hb⟩
  generalize hsT : Tl.stT t s ev c = tS at hv ⊢
  generalize hsE : Tl.stE t s ev c = eS at hv ⊢
  have B6 := Lib.hid ((B5.out.up hb).tb hv)
  clear hv hb B5 x0 x1 x2 x3 x4 x5 x6 x7
  go_upto_region 6 with fail
  generalize w6.heap.size = n6 at B6 ⊢
  generalize w6.alloc _ = y6 at B6 ⊢
  obtain ⟨x0, x1, x2, x3, x4, x5, x6, x7⟩ := HIN.out y6 B6.out.bel
  have HSR := Lib.hid (rstep_any t s ev c _ y6 (HV1.out.below B6.out.bel))
  rw [hsT, hsE] at HSR
  clear hsT hsE
  go_wp2_with fail
  refine HSR.out.mono ?_
  rintro e' w7 ⟨⟨a2, l2, p2, a3, l3, p3, rfl, hv⟩, hb⟩
  have B7 := Lib.hid ((B6.out.up hb).tb hv)
  clear hv hb B6 x0 x1 x2 x3 x4 x5 x6 x7 HSR
  go_upto_region 7 with fail
  generalize w7.heap.size = n7 at B7 ⊢
  generalize w7.alloc _ = y7 at B7 ⊢
  -- are they the same?
  obtain ⟨f0, f1, f2, f3, f4, f5, hA, hVA⟩ := B7.out.getT (n := n2) (t := tC) (by simp)
  obtain ⟨g0, g1, g2, g3, g4, g5, hB, hVB⟩ := B7.out.getT (n := n3) (t := tC) (by simp)
  obtain ⟨x0, x1⟩ := hA.cells
  obtain ⟨y0, y1⟩ := hB.cells
  have HS1 := Lib.hid (rsame_any tC _ _ y7 hVA hVB)
  clear hA hB hVA hVB
  go_wp2_with fail
  refine HS1.out.mono ?_
  rintro e' w8 ⟨rfl, hb⟩
  have B8 := Lib.hid (B7.out.up hb)
  clear hb B7 HS1 x0 x1 y0 y1
  obtain ⟨u0, u1⟩ := (B8.out.getH (n := n2 + 1) (x := ⟨hs, hg⟩) (by simp)).cells
  obtain ⟨u2, u3⟩ := (B8.out.getH (n := n3 + 1) (x := ⟨hs, hg⟩) (by simp)).cells
  have e1 : ∀ w, (binOp BinOp.neq 27 (.agg #[.int .i64 hs, .int .i64 hg]) (.agg #[.int .i64 hs, .int .i64 hg])).run Tryd.prog w = .ok (.bool false) w := fun w => neH ⟨hs, hg⟩ w
  have e2 : (eC != eC) = false := by simp
  obtain ⟨f0, f1, f2, f3, f4, f5, hA, hVA⟩ := B8.out.getT (n := n4) (t := tX) (by simp)
  obtain ⟨g0, g1, g2, g3, g4, g5, hB, hVB⟩ := B8.out.getT (n := n5) (t := tX) (by simp)
  obtain ⟨x0, x1⟩ := hA.cells
  obtain ⟨y0, y1⟩ := hB.cells
  have HS2 := Lib.hid (rsame_any tX _ _ w8 hVA hVB)
  clear hA hB hVA hVB
  go_wp2_with fail
  refine HS2.out.mono ?_
  rintro e' w9 ⟨rfl, hb⟩
  have B9 := Lib.hid (B8.out.up hb)
  clear hb B8 HS2 x0 x1 y0 y1 u0 u1 u2 u3 e1 e2
  have e3 : (eX != eX) = false := by simp
  obtain ⟨f0, f1, f2, f3, f4, f5, hA, hVA⟩ := B9.out.getT (n := n6) (t := tS) (by simp)
  obtain ⟨g0, g1, g2, g3, g4, g5, hB, hVB⟩ := B9.out.getT (n := n7) (t := tS) (by simp)
  obtain ⟨x0, x1⟩ := hA.cells
  obtain ⟨y0, y1⟩ := hB.cells
  have HS3 := Lib.hid (rsame_any tS _ _ w9 hVA hVB)
  clear hA hB hVA hVB
  go_wp2_with fail
  refine HS3.out.mono ?_
  rintro e' w0 ⟨rfl, hb⟩
  have HB0 := Lib.hid (B9.out.up hb).bel
  clear hb B9 HS3 x0 x1 y0 y1 e3
  have e4 : (eS != eS) = false := by simp
  go_upto_region 9 with fail
  clear e4
  have HT : Hid (∀ X Y, Below w0.heap.size w0 X → Below X.heap.size X Y → Below w0.heap.size w0 Y) := Lib.hid (fun X Y h1 h2 => bOn h1 h2)
  have HGS : Hid (∀ X, Below w0.heap.size w0 X → X.cell? ⟨W.heap.size, 0, none⟩ = some (.slice a0 l0 p0) ∧ X.cell? ⟨W.heap.size, 1, none⟩ = some (.slice a1 l1 p1) ∧ X.cell? ⟨W.heap.size, 2, none⟩ = some (.int .i64 s) ∧ X.cell? ⟨W.heap.size, 3, none⟩ = some (.int .i64 g)) := Lib.hid (fun X hX => by
    obtain ⟨x0, x1, x2, x3, -⟩ := HIN.out X (bOn HB0.out hX)
    exact ⟨x0, x1, x2, x3⟩)
  obtain ⟨rb, hrb⟩ : ∃ rb, Tl.rightB t = rb := ⟨_, rfl⟩
  obtain ⟨ec, hec⟩ : ∃ ec, Tl.chk t s g = ec := ⟨_, rfl⟩
  have HR1 : Hid (∀ X, Below w0.heap.size w0 X → Calls Tryd.prog 21 #[.agg #[.slice a0 l0 p0, .slice a1 l1 p1]] X fun e w' => e = .returned (.bool rb) ∧ Below w0.heap.size w0 w') := Lib.hid (fun X hX => by
    rw [← hrb]
    exact (right_any t _ X (HV1.out.below (bOn HB0.out hX)) (HO1.out.below (bOn HB0.out hX)).1).mono fun e w' h => ⟨h.1, HT.out X w' hX h.2⟩)
  have HR2 : Hid (∀ X, Below w0.heap.size w0 X → Calls Tryd.prog 20 #[.agg #[.slice a0 l0 p0, .slice a1 l1 p1]] X fun e w' => e = .returned (.bool rb) ∧ Below w0.heap.size w0 w') := Lib.hid (fun X hX => by
    rw [← hrb]
    exact (rright_any t _ X (HV1.out.below (bOn HB0.out hX))).mono fun e w' h => ⟨h.1, HT.out X w' hX h.2⟩)
  have HC1 : Hid (∀ X, Below w0.heap.size w0 X → Calls Tryd.prog 22 #[.agg #[.slice a0 l0 p0, .slice a1 l1 p1], .agg #[.int .i64 s, .int .i64 g]] X fun e w' => e = .returned (.int .i64 ec) ∧ Below w0.heap.size w0 w') := Lib.hid (fun X hX => by
    rw [← hec]
    exact (check_any t s g _ X (HV1.out.below (bOn HB0.out hX)) (HO1.out.below (bOn HB0.out hX)).1).mono fun e w' h => ⟨h.1, HT.out X w' hX h.2⟩)
  have HC2 : Hid (∀ X, Below w0.heap.size w0 X → Calls Tryd.prog 30 #[.agg #[.slice a0 l0 p0, .slice a1 l1 p1], .agg #[.int .i64 s, .int .i64 g]] X fun e w' => e = .returned (.int .i64 ec) ∧ Below w0.heap.size w0 w') := Lib.hid (fun X hX => by
    rw [← hec]
    exact (rcheck_any t s g _ X (HV1.out.below (bOn HB0.out hX))).mono fun e w' h => ⟨h.1, HT.out X w' hX h.2⟩)
  generalize hL : Tl.live t.ws t.ws.length = L
  have HL1 : Hid (∀ X, Below w0.heap.size w0 X → Calls Tryd.prog 23 #[.agg #[.slice a0 l0 p0, .slice a1 l1 p1]] X fun e w' => (∃ vs, e = .returned vs ∧ Hs w' vs L) ∧ Below X.heap.size X w') := Lib.hid (fun X hX => by
    rw [← hL]
    exact live_any t _ X (HV1.out.below (bOn HB0.out hX)) (HO1.out.below (bOn HB0.out hX)).1 HL.out)
  have HL2 : Hid (∀ X, Below w0.heap.size w0 X → Calls Tryd.prog 31 #[.agg #[.slice a0 l0 p0, .slice a1 l1 p1]] X fun e w' => (∃ vs, e = .returned vs ∧ Hs w' vs L) ∧ Below X.heap.size X w') := Lib.hid (fun X hX => by
    rw [← hL]
    exact rlive_any t _ X (HV1.out.below (bOn HB0.out hX)) HL.out)
  have HSM : Hid (∀ X va vb, Below w0.heap.size w0 X → Hs X va L → Hs X vb L → Calls Tryd.prog 24 #[va, vb] X fun e w' => e = .returned (.bool true) ∧ Below w0.heap.size w0 w') := Lib.hid (fun X va vb hX h1 h2 =>
    (rhandles_any L va vb X h1 h2).mono fun e w' h => ⟨h.1, HT.out X w' hX h.2⟩)
  have HD0 : Hid (Below w0.heap.size w0 w0.drew) := Lib.hid (Below.refl _ _).drew
  have hrr : (rb == rb) = true := by simp
  have hcc : (ec == ec) = true := by simp
  have hx1 := HGS.out _ HD0.out
  have hD0 := HD0.out
  have HBW : Hid (∀ X, Below w0.heap.size w0 X → Below W.heap.size W X) := Lib.hid (fun X hX => HB1.out.trans ((bOn HB0.out hX).mono HB1.out.size))
  clear HD0 HIN HV1 HO1 HB1 HB0 HL HM HF hrb hec hL
  go_region_held3 (fun X => X.cell? ⟨W.heap.size, 0, none⟩ = some (.slice a0 l0 p0) ∧ X.cell? ⟨W.heap.size, 1, none⟩ = some (.slice a1 l1 p1) ∧ X.cell? ⟨W.heap.size, 2, none⟩ = some (.int .i64 s) ∧ X.cell? ⟨W.heap.size, 3, none⟩ = some (.int .i64 g))
    (first
      | exact hx1
      | (with_reducible exact HGS.out _ (by assumption))
      | go_keep)
    (first
      | (go_at_call 21; with_reducible refine (HR1.out _ (by assumption)).mono ?_; rintro e' wa ⟨rfl, hba⟩)
      | (go_at_call 20; with_reducible refine (HR2.out _ (by assumption)).mono ?_; rintro e' wb ⟨rfl, hbb⟩)
      | (go_at_call 22; with_reducible refine (HC1.out _ (by assumption)).mono ?_; rintro e' wc ⟨rfl, hbc⟩)
      | (go_at_call 30; with_reducible refine (HC2.out _ (by assumption)).mono ?_; rintro e' wd ⟨rfl, hbd⟩)
      | (go_at_call 23; with_reducible refine (HL1.out _ (by assumption)).mono ?_; rintro e' wA ⟨⟨vA, rfl, hKA⟩, hbA⟩; have hbA0 := HT.out _ _ (by assumption) hbA)
      | (go_at_call 31; with_reducible refine (HL2.out _ (by assumption)).mono ?_; rintro e' wB ⟨⟨vB, rfl, hKB⟩, hbB⟩; have hbB0 := HT.out _ _ (by assumption) hbB)
      | (go_at_call 24; first | (with_reducible refine (HSM.out _ _ _ (by assumption) (hKA.below hbB) hKB).mono ?_; rintro e' wS ⟨rfl, hbS⟩) | (with_reducible refine (HSM.out _ _ _ (by assumption) hKA (hKB.below hbA)).mono ?_; rintro e' wS ⟨rfl, hbS⟩)))
  all_goals
    go_wp2
    go_ret
    exact ⟨rfl, HBW.out _ (by assumption)⟩
end Go.Proofs.YtjikabalpejmlaaDoor
