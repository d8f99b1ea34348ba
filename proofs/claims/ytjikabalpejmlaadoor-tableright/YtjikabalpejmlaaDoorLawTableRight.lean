/-
  TableRight returns true at every input, and turns nothing that was there: what comes of a right table is right, and of other slots nothing changes. The tables of math/bits and of places are tied to the program's text.
-/
import Derived.Test.YtjikabalpejmlaaDoorTlX
import Derived.Test.YtjikabalpejmlaaDoorTlMz
import Derived.Test.YtjikabalpejmlaaDoorTlPr
import Derived.Deep.RegionHeld3
import Derived.Test.YtjikabalpejmlaaDoorPost
namespace Go.Proofs.YtjikabalpejmlaaDoor.tableRight
open Go.ChangeShapes Go.WideShapes Go.ChangeAt Go.RowKit Go.Deep Pk Lf
open Mk (V)

set_option maxRecDepth 100000 in
set_option maxHeartbeats 16000000 in
theorem walk (vl : Value) (zs : List Int) (m : Int) (W : World) (hl : Ints .u16 W vl zs) (hm : (Lit.int .u16 m).wf = true) (hO : Ok W) :
    Calls Tryd.prog 6 #[vl, .int .u16 m] W fun e w' => e = .returned (.bool true) ∧ Below W.heap.size W w' := by
  obtain ⟨a, cap, rfl, -⟩ := id hl
  have HL0 := Lib.hid hl
  have hmb := bounds_u16 hm
  obtain ⟨z, rfl⟩ : ∃ k : Nat, m = (k : Int) := ⟨m.toNat, by omega⟩
  have hz : z < 65536 := by omega
  have HO := Lib.hid hO
  have H5 : Hid (five (madeT zs)) := Lib.hid (madeK_five zs _)
  clear hm hmb hO hl
  go_enter Tryd.func6, Tryd.ntmps6
  go_wp2_with fail
  refine (awake_any W HO.out).mono ?_
  rintro e' w1 ⟨rfl, hb1⟩
  have HB1 := Lib.hid hb1
  have HMD := Lib.hid (made_any zs _ w1 (HL0.out.below hb1))
  clear hb1 HL0
  generalize madeT zs = t at HMD H5
  go_wp2_with fail
  refine HMD.out.mono ?_
  rintro e' w2 ⟨⟨a2, l2, p2, a3, l3, p3, rfl, hv⟩, hb⟩
  obtain ⟨c0, c1, e, hI, hK⟩ := id hv
  simp only [Value.agg.injEq, Array.mk.injEq, List.cons.injEq, and_true] at e
  obtain ⟨rfl, rfl⟩ := e
  obtain rfl : l2 = 5 := by obtain ⟨_, _, e, -⟩ := hI; cases e; exact H5.out.2
  have hb3 := (Below.refl w2.heap.size w2).alloc (Nat.le_refl _) (.cells #[.slice a2 5 p2, .slice a3 l3 p3] 25)
  have HB := Lib.hid (bOn HB1.out (bOn hb hb3))
  have HBT := Lib.hid (Bt.new w2 (.slice a2 5 p2) (.slice a3 l3 p3))
  have HV := Lib.hid (hv.below hb3)
  have HI := Lib.hid (hI.below hb3)
  clear hb hb3 hv hI hK HMD HB1
  go_upto_region 5 with fail
  generalize w2.heap.size = n2 at HBT ⊢
  generalize w2.alloc _ = w3 at HB HBT HV HI ⊢
  rcases HI.out.parts with ⟨h, -⟩ | ⟨-, -, b, off, cap', hv, hbk, hc⟩
  · have := H5.out.2; rw [h] at this; cases this
  simp only [Value.slice.injEq] at hv
  obtain ⟨rfl, -, rfl⟩ := hv
  have hs : (z : Int) % 5 = ((z % 5 : Nat) : Int) := by omega
  have hs5 : z % 5 < 5 := Nat.mod_lt _ (by decide)
  generalize hsz : z % 5 = s at hs hs5
  have k0 : w3.cell? ⟨b, off + s, none⟩ = some (.int .u64 (Tl.W t s)) := hc s (by rw [H5.out.2]; exact hs5)
  have HU : Hid (U (Tl.W t s)) := Lib.hid (HV.out.U (by rw [H5.out.2]; exact hs5))
  have HVZ : Hid (V z) := Lib.hid (by unfold V; omega)
  clear hc hbk
  generalize hzz : Tl.W t s = zz at k0 HU
  obtain ⟨x0, x1⟩ := HBT.out.cells
  go_upto_region 6 with fail
  rw [hs]
  go_wp2_with fail
  refine (rgen_any zz HU.out w3).mono ?_
  rintro e' w4 ⟨rfl, rfl⟩
  clear x0 x1 k0 hs hzz hsz
  have B1 := Lib.hid ((Bag.nil w3).hd ⟨(s : Int), G zz⟩)
  go_upto_region 7 with fail
  generalize w3.heap.size = n8 at B1 ⊢
  generalize w3.alloc _ = w4 at B1 ⊢
  -- Create
  obtain ⟨x0, x1⟩ := (HBT.out.below B1.out.bel).cells
  go_wp2_with fail
  refine (create_g (HV.out.below B1.out.bel) ((HO.out.below HB.out).below B1.out.bel) 8 _ z HVZ.out).mono ?_
  have HG1 : Hid (Tl.Good t _ _ _) := Lib.hid (Tl.good_cr t 8 ((z : Int) % 40 - 20) z)
  generalize Tl.crT t 8 ((z : Int) % 40 - 20) z = tC at HG1 ⊢
  generalize Tl.crH t 8 ((z : Int) % 40 - 20) z = hC at HG1 ⊢
  generalize Tl.crE t 8 ((z : Int) % 40 - 20) z = eC at HG1 ⊢
  obtain ⟨hs, hg⟩ := hC
  rintro e' w5 ⟨⟨a4, l4, p4, a5, l5, p5, rfl, hv4⟩, hb⟩
  have B2 := Lib.hid ((B1.out.up hb).th hv4 ⟨hs, hg⟩)
  have HC : Hid (Bt ((w5.alloc (.cells #[.slice a4 l4 p4, .slice a5 l5 p5] 25)).alloc (.cells #[.int .i64 hs, .int .i64 hg] 27)) w5.heap.size (.slice a4 l4 p4) (.slice a5 l5 p5) ∧ Tv ((w5.alloc (.cells #[.slice a4 l4 p4, .slice a5 l5 p5] 25)).alloc (.cells #[.int .i64 hs, .int .i64 hg] 27)) (.agg #[.slice a4 l4 p4, .slice a5 l5 p5]) tC) := Lib.hid ⟨(Bt.new w5 _ _).below ((Below.refl _ _).alloc (Nat.le_refl _) _), hv4.below (bOn ((Below.refl _ _).alloc (Nat.le_refl _) _) ((Below.refl _ _).alloc (Nat.le_refl _) _))⟩
  clear hb hv4 B1 x0 x1
  go_upto_region 8 with fail
  generalize w5.heap.size = n9 at B2 HC ⊢
  generalize (w5.alloc _).alloc _ = w5 at B2 HC ⊢
  -- Exit
  obtain ⟨x0, x1⟩ := (HBT.out.below B2.out.bel).cells
  obtain ⟨y0, y1⟩ := (B2.out.getH (n := n8) (x := ⟨(s : Int), G zz⟩) (by simp)).cells
  go_wp2_with fail
  refine (exit_g (HV.out.below B2.out.bel) ((HO.out.below HB.out).below B2.out.bel) (s : Int) (G zz)).mono ?_
  have HG2 : Hid (Tl.Good t _ _ _) := Lib.hid (Tl.good_ex (t := t) (i := s) (g := G zz))
  generalize Tl.exT t (s : Int) (G zz) = tX at HG2 ⊢
  generalize Tl.exE t (s : Int) (G zz) = eX at HG2 ⊢
  rintro e' w6 ⟨⟨a6, l6, p6, a7, l7, p7, rfl, hv6⟩, hb⟩
  have B3 := Lib.hid ((B2.out.up hb).tb hv6)
  have HX : Hid (Bt (w6.alloc (.cells #[.slice a6 l6 p6, .slice a7 l7 p7] 25)) w6.heap.size (.slice a6 l6 p6) (.slice a7 l7 p7) ∧ Tv (w6.alloc (.cells #[.slice a6 l6 p6, .slice a7 l7 p7] 25)) (.agg #[.slice a6 l6 p6, .slice a7 l7 p7]) tX ∧ Below w5.heap.size w5 (w6.alloc (.cells #[.slice a6 l6 p6, .slice a7 l7 p7] 25))) := Lib.hid ⟨Bt.new w6 _ _, hv6.below ((Below.refl _ _).alloc (Nat.le_refl _) _), bOn hb ((Below.refl _ _).alloc (Nat.le_refl _) _)⟩
  clear hb hv6 B2 x0 x1 y0 y1
  go_upto_region 9 with fail
  generalize w6.heap.size = n12 at B3 HX ⊢
  generalize w6.alloc _ = w6 at B3 HX ⊢
  have HC6 := Lib.hid (show _ ∧ _ from ⟨HC.out.1.below HX.out.2.2, HC.out.2.below HX.out.2.2⟩)
  clear HC
  -- Step
  obtain ⟨x0, x1⟩ := (HBT.out.below B3.out.bel).cells
  go_wp2_with fail
  refine (step_g (HV.out.below B3.out.bel) ((HO.out.below HB.out).below B3.out.bel) (s : Int) _ _ ?_).mono ?_
  · simp [Lit.wf, IntKind.min, IntKind.max, IntKind.signed, IntKind.bits]; omega
  have HG3 : Hid (Tl.Good t _ _ _) := Lib.hid (Tl.good_st (t := t) (i := s) (e := (z : Int) / 32 % 16) (c := (z : Int) / 64 % 8))
  generalize Tl.stT t (s : Int) ((z : Int) / 32 % 16) ((z : Int) / 64 % 8) = tS at HG3 ⊢
  generalize Tl.stE t (s : Int) ((z : Int) / 32 % 16) ((z : Int) / 64 % 8) = eS at HG3 ⊢
  rintro e' w7 ⟨⟨a8, l8, p8, a9, l9, p9, rfl, hv8⟩, hb⟩
  have B4 := Lib.hid ((B3.out.up hb).tb hv8)
  have HS : Hid (Bt (w7.alloc (.cells #[.slice a8 l8 p8, .slice a9 l9 p9] 25)) w7.heap.size (.slice a8 l8 p8) (.slice a9 l9 p9) ∧ Tv (w7.alloc (.cells #[.slice a8 l8 p8, .slice a9 l9 p9] 25)) (.agg #[.slice a8 l8 p8, .slice a9 l9 p9]) tS ∧ Below w6.heap.size w6 (w7.alloc (.cells #[.slice a8 l8 p8, .slice a9 l9 p9] 25))) := Lib.hid ⟨Bt.new w7 _ _, hv8.below ((Below.refl _ _).alloc (Nat.le_refl _) _), bOn hb ((Below.refl _ _).alloc (Nat.le_refl _) _)⟩
  clear hb hv8 B3 x0 x1
  go_upto_region 10 with fail
  generalize w7.heap.size = n14 at B4 HS ⊢
  generalize w7.alloc _ = w7 at B4 HS ⊢
  have HC7 := Lib.hid (show _ ∧ _ from ⟨HC6.out.1.below HS.out.2.2, HC6.out.2.below HS.out.2.2⟩)
  have HX7 := Lib.hid (show _ ∧ _ from ⟨HX.out.1.below HS.out.2.2, HX.out.2.1.below HS.out.2.2⟩)
  clear HC6 HX
  obtain ⟨x0, x1⟩ := HC7.out.1.cells
  obtain ⟨y0, y1⟩ := HX7.out.1.cells
  obtain ⟨u0, u1⟩ := HS.out.1.cells
  have HA0 := Lib.hid (allocs_at [.cells #[.slice a4 l4 p4, .slice a5 l5 p5, .slice a6 l6 p6, .slice a7 l7 p7, .slice a8 l8 p8, .slice a9 l9 p9] 25, .cells #[.int .i64 eC, .int .i64 eX, .int .i64 eS] 33] w7)
  have HA1 := Lib.hid (allocs_below w7 [.cells #[.slice a4 l4 p4, .slice a5 l5 p5, .slice a6 l6 p6, .slice a7 l7 p7, .slice a8 l8 p8, .slice a9 l9 p9] 25, .cells #[.int .i64 eC, .int .i64 eX, .int .i64 eS] 33])
  simp only [allocs] at HA0 HA1
  go_upto_region 12 with fail
  generalize (w7.alloc _).alloc _ = w8 at HA0 HA1 ⊢
  obtain ⟨v0, v1⟩ := ((B4.out.getH (n := n9 + 1) (x := ⟨hs, hg⟩) (by simp)).below HA1.out).cells
  clear x0 x1 y0 y1 u0 u1
  have HA : Hid (w8.heap[w7.heap.size]? = some (.cells #[.slice a4 l4 p4, .slice a5 l5 p5, .slice a6 l6 p6, .slice a7 l7 p7, .slice a8 l8 p8, .slice a9 l9 p9] 25) ∧ w8.heap[w7.heap.size + 1]? = some (.cells #[.int .i64 eC, .int .i64 eX, .int .i64 eS] 33)) := Lib.hid ⟨HA0.out 0 _ rfl, HA0.out 1 _ rfl⟩
  clear HA0
  go_upto_region 13 with fail
  have HW9 := Lib.hid ((Below.refl w8.heap.size w8).alloc (Nat.le_refl _) (.cells #[.int .i64 hs, .int .i64 (s : Int), .int .i64 (s : Int)] 3))
  have HAT : Hid ((w8.alloc (.cells #[.int .i64 hs, .int .i64 (s : Int), .int .i64 (s : Int)] 3)).heap[w8.heap.size]? = some (.cells #[.int .i64 hs, .int .i64 (s : Int), .int .i64 (s : Int)] 3)) := Lib.hid (heap_alloc_new w8 _)
  have HA9 : Hid ((w8.alloc (.cells #[.int .i64 hs, .int .i64 (s : Int), .int .i64 (s : Int)] 3)).heap[w7.heap.size]? = _ ∧ (w8.alloc (.cells #[.int .i64 hs, .int .i64 (s : Int), .int .i64 (s : Int)] 3)).heap[w7.heap.size + 1]? = _) := Lib.hid ⟨(HW9.out.block _ (Array.getElem?_eq_some_iff.1 HA.out.1).1).trans HA.out.1, (HW9.out.block _ (Array.getElem?_eq_some_iff.1 HA.out.2).1).trans HA.out.2⟩
  have H79 := Lib.hid (bOn HA1.out HW9.out)
  clear HA HA1 HW9 v0 v1
  generalize w7.heap.size = nA at HA9 ⊢
  generalize w8.heap.size = nT at HAT ⊢
  generalize w8.alloc _ = w9 at HA9 HAT H79 ⊢
  have cellOf : ∀ (X : World) (n i : Nat) (cs : Array Value) (ty : TypeId) (v : Value), Below w9.heap.size w9 X → w9.heap[n]? = some (.cells cs ty) → cs[i]? = some v → X.cell? ⟨n, i, none⟩ = some v := fun X n i cs ty v hX hn hv => by
    have := (hX.block n (Array.getElem?_eq_some_iff.1 hn).1).trans hn
    simp [World.cell?, this, hv]
  have HALL : Hid (∀ k, k < 3 → ∃ (a0 : Option Addr) (l0 p0 : Nat) (a1 : Option Addr) (l1 p1 : Nat) (tN : Tl.T) (er pl : Int), Hid (∀ X, Below w9.heap.size w9 X → (X.cell? ⟨nA, k * 2, none⟩ = some (.slice a0 l0 p0) ∧ X.cell? ⟨nA, k * 2 + 1, none⟩ = some (.slice a1 l1 p1) ∧ X.cell? ⟨nA + 1, k, none⟩ = some (.int .i64 er) ∧ X.cell? ⟨nT, k, none⟩ = some (.int .i64 pl)) ∧ Tv X (.agg #[.slice a0 l0 p0, .slice a1 l1 p1]) tN) ∧ Hid (Tl.Good t tN er pl)) := Lib.hid (fun k hk => by
    rcases (show k = 0 ∨ k = 1 ∨ k = 2 by omega) with rfl | rfl | rfl
    · exact ⟨_, _, _, _, _, _, _, _, _, Lib.hid fun X hX => ⟨⟨cellOf X _ 0 _ _ _ hX HA9.out.1 rfl, cellOf X _ 1 _ _ _ hX HA9.out.1 rfl, cellOf X _ 0 _ _ _ hX HA9.out.2 rfl, cellOf X _ 0 _ _ _ hX HAT.out rfl⟩, HC7.out.2.below (bOn H79.out hX)⟩, HG1⟩
    · exact ⟨_, _, _, _, _, _, _, _, _, Lib.hid fun X hX => ⟨⟨cellOf X _ 2 _ _ _ hX HA9.out.1 rfl, cellOf X _ 3 _ _ _ hX HA9.out.1 rfl, cellOf X _ 1 _ _ _ hX HA9.out.2 rfl, cellOf X _ 1 _ _ _ hX HAT.out rfl⟩, HX7.out.2.below (bOn H79.out hX)⟩, HG2⟩
    · exact ⟨_, _, _, _, _, _, _, _, _, Lib.hid fun X hX => ⟨⟨cellOf X _ 4 _ _ _ hX HA9.out.1 rfl, cellOf X _ 5 _ _ _ hX HA9.out.1 rfl, cellOf X _ 2 _ _ _ hX HA9.out.2 rfl, cellOf X _ 2 _ _ _ hX HAT.out rfl⟩, HS.out.2.1.below (bOn H79.out hX)⟩, HG3⟩)
  have H39 : Hid (Below w3.heap.size w3 w9) := Lib.hid (bOn B4.out.bel H79.out)
  have HTX : Hid (∀ X, Below w9.heap.size w9 X → (X.cell? ⟨n2, 0, none⟩ = some (.slice (some ⟨b, off, none⟩) 5 p2) ∧ X.cell? ⟨n2, 1, none⟩ = some (.slice a3 l3 p3)) ∧ Tv X (.agg #[.slice (some ⟨b, off, none⟩) 5 p2, .slice a3 l3 p3]) t) := Lib.hid (fun X hX => ⟨(HBT.out.below (bOn H39.out hX)).cells, HV.out.below (bOn H39.out hX)⟩)
  have HOX : Hid (∀ X, Below w9.heap.size w9 X → Ok X) := Lib.hid (fun X hX => (HO.out.below HB.out).below (bOn H39.out hX))
  have HBX : Hid (∀ X, Below w9.heap.size w9 X → Below W.heap.size W X) := Lib.hid (fun X hX => bOn HB.out (bOn H39.out hX))
  obtain rfl : l3 = 5 := by
    obtain ⟨q0, q1, e, -, hK⟩ := HV.out
    simp only [Value.agg.injEq, Array.mk.injEq, List.cons.injEq, and_true] at e
    obtain ⟨-, rfl⟩ := e
    obtain ⟨_, _, e, -⟩ := hK
    cases e
    exact five_ts H5.out
  clear HA9 HAT HC7 HX7 HS HG1 HG2 HG3 B4 H79 HBT HV HI HB HO cellOf H39 HU HVZ
  go_wp2
  go_loopw [19, 20] (fun i q wr => ∃ k : Nat, k ≤ 3 ∧ i = .int .i64 k ∧ Hid (Below w9.heap.size w9 wr)) (fun i _ _ => 3 - (intOf i).toNat)
  case atStart => exact ⟨0, by omega, rfl, Lib.hid (Below.refl _ _)⟩
  case round =>
    obtain ⟨k, hk, rfl, HJ⟩ := hrel
    by_cases hk3 : k < 3
    case neg =>
      obtain rfl : k = 3 := by omega
      obtain ⟨⟨x0, x1⟩, hv⟩ := HTX.out _ HJ.out
      have HR := Lib.hid (right_any t _ wr hv (HOX.out _ HJ.out).1)
      have hrt : Tl.rightB t = true := decide_eq_true H5.out.1
      rw [hrt] at HR
      clear hrt hv
      go_wp2_with fail
      refine HR.out.mono ?_
      rintro e' w10 ⟨rfl, hb⟩
      have HF := Lib.hid (HBX.out _ (bOn HJ.out hb))
      clear hb x0 x1
      go_wp2
      go_ret
      exact ⟨rfl, HF.out⟩
    obtain ⟨a0, l0, p0, a1, l1, p1, tN, er, pl, HK, HGD⟩ := HALL.out k hk3
    have hki : (k : Int) < 3 := by omega
    obtain ⟨⟨c0, c1, c2, c3⟩, hvN⟩ := HK.out _ HJ.out
    by_cases he : er = 0
    case neg =>
      have e1 : (er != 0) = true := by simp [he]
      obtain rfl : l0 = 0 := by
        obtain ⟨q0, q1, e, hI, -⟩ := hvN
        simp only [Value.agg.injEq, Array.mk.injEq, List.cons.injEq, and_true] at e
        obtain ⟨rfl, -⟩ := e
        rw [HGD.out.2 he] at hI
        obtain ⟨_, _, e, -⟩ := hI
        cases e
        rfl
      clear hvN he HK HGD
      go_wp2
      exact ⟨⟨k + 1, by omega, by go_num, HJ⟩, by simp [intOf]; omega⟩
    subst he
    obtain ⟨g1, g2, g3, g4⟩ := HGD.out.1 rfl
    rw [H5.out.2] at g2
    rw [five_ts H5.out] at g3
    have HG4 := Lib.hid g4
    have HN := Lib.hid (show _ ∧ _ from ⟨g2, g3⟩)
    obtain ⟨rfl, rfl⟩ : l0 = 5 ∧ l1 = 5 := by
      obtain ⟨q0, q1, e, hI, hK⟩ := hvN
      simp only [Value.agg.injEq, Array.mk.injEq, List.cons.injEq, and_true] at e
      obtain ⟨rfl, rfl⟩ := e
      obtain ⟨_, _, e, -⟩ := hI
      obtain ⟨_, _, e', -⟩ := hK
      cases e
      cases e'
      exact ⟨g2, g3⟩
    have HR := Lib.hid (rright_any tN _ wr hvN)
    rw [show Tl.rightB tN = true from decide_eq_true g1] at HR
    clear g1 g2 g3 g4 hvN HGD
    go_wp2_with fail
    refine HR.out.mono ?_
    rintro e' w10 ⟨rfl, hb⟩
    have HBA := Lib.hid (bOn HJ.out hb)
    clear hb HJ HR c0 c1 c2 c3
    obtain ⟨⟨c0, c1, c2, c3⟩, hvN⟩ := HK.out _ HBA.out
    clear hvN
    go_upto_region 21 with fail
    clear c0 c1 c2 c3
    have HKT : Hid (∀ X, Below w10.heap.size w10 X → Below w9.heap.size w9 X) := Lib.hid (fun X hX => bOn HBA.out hX)
    clear HBA
    go_wp2
    go_loopw [20] (fun i wr => ∃ j : Nat, j ≤ 5 ∧ i = .int .i64 j ∧ Hid (Below w10.heap.size w10 wr)) (fun i _ => 5 - (intOf i).toNat)
    case atStart => exact ⟨0, by omega, rfl, Lib.hid (Below.refl _ _)⟩
    case round =>
      obtain ⟨j, hj, rfl, HJ⟩ := hrel
      by_cases hj5 : j < 5
      case neg =>
        obtain rfl : j = 5 := by omega
        have HF := Lib.hid (HKT.out _ HJ.out)
        clear HJ
        go_wp2
        exact ⟨⟨k + 1, by omega, by go_num, HF⟩, by simp [intOf]; omega⟩
      have hji : (j : Int) < 5 := by omega
      obtain ⟨⟨c0, c1, c2, c3⟩, hvN⟩ := HK.out _ (HKT.out _ HJ.out)
      obtain ⟨⟨x0, x1⟩, hvT⟩ := HTX.out _ (HKT.out _ HJ.out)
      clear c2
      by_cases hat : (j : Int) = pl
      · have e1 : ((j : Int) != pl) = false := by simp [hat]
        clear hvN hvT x0 x1 c0 c1 hat
        have f3 : ∀ n, (wr.drewN n).cell? ⟨nT, k, none⟩ = _ := fun n => c3
        go_upto_region 24 with fail
        go_quiet (fail)
        go_wp2
        exact ⟨⟨j + 1, by omega, by go_num, Lib.hid (below_drewN HJ.out _)⟩, by simp [intOf]; omega⟩
      · have e1 : ((j : Int) != pl) = true := by simp [hat]
        obtain ⟨hw, hx⟩ := HG4.out j hat
        obtain ⟨q0, q1, e, hI, hK⟩ := hvN
        simp only [Value.agg.injEq, Array.mk.injEq, List.cons.injEq, and_true] at e
        obtain ⟨rfl, rfl⟩ := e
        obtain ⟨q2, q3, e, hI2, hK2⟩ := hvT
        simp only [Value.agg.injEq, Array.mk.injEq, List.cons.injEq, and_true] at e
        obtain ⟨rfl, rfl⟩ := e
        rcases hI.parts with ⟨h, -⟩ | ⟨-, -, b1, off1, cap1, hv, -, hc1⟩
        · have := HN.out.1; rw [h] at this; simp at this
        simp only [Value.slice.injEq] at hv
        obtain ⟨rfl, -, rfl⟩ := hv
        rcases hI2.parts with ⟨h, -⟩ | ⟨-, -, b2, off2, cap2, hv, -, hc2⟩
        · have := H5.out.2; rw [h] at this; simp at this
        simp only [Value.slice.injEq, Option.some.injEq, Addr.mk.injEq] at hv
        obtain ⟨⟨rfl, rfl, -⟩, -, rfl⟩ := hv
        rcases Ks.parts hK with ⟨h, -⟩ | ⟨-, b3, off3, cap3, hv, -, -, hc3⟩
        · have := HN.out.2; rw [h] at this; simp at this
        simp only [Value.slice.injEq] at hv
        obtain ⟨rfl, -, rfl⟩ := hv
        rcases Ks.parts hK2 with ⟨h, -⟩ | ⟨-, b4, off4, cap4, hv, -, -, hc4⟩
        · have := five_ts H5.out; rw [h] at this; simp at this
        simp only [Value.slice.injEq] at hv
        obtain ⟨rfl, -, rfl⟩ := hv
        have y0 : wr.cell? ⟨b1, off1 + j, none⟩ = some (.int .u64 (Tl.W tN j)) := hc1 j (by rw [HN.out.1]; exact hj5)
        have y1 : wr.cell? ⟨b, off + j, none⟩ = some (.int .u64 (Tl.W t j)) := hc2 j (by rw [H5.out.2]; exact hj5)
        have z0 : wr.cell? ⟨b3, off3 + j * 3, none⟩ = some (.int .i64 (Tl.X tN j).nice) ∧ wr.cell? ⟨b3, off3 + j * 3 + 1, none⟩ = some (.int .u64 ((Tl.X tN j).mask : Int)) ∧ wr.cell? ⟨b3, off3 + j * 3 + 2, none⟩ = some (.int .i64 (Tl.X tN j).lag) := hc3 j (by rw [HN.out.2]; exact hj5)
        have z1 : wr.cell? ⟨b4, off4 + j * 3, none⟩ = some (.int .i64 (Tl.X t j).nice) ∧ wr.cell? ⟨b4, off4 + j * 3 + 1, none⟩ = some (.int .u64 ((Tl.X t j).mask : Int)) ∧ wr.cell? ⟨b4, off4 + j * 3 + 2, none⟩ = some (.int .i64 (Tl.X t j).lag) := hc4 j (by rw [five_ts H5.out]; exact hj5)
        rw [hw] at y0
        rw [hx] at z0
        clear hI hK hI2 hK2 hc1 hc2 hc3 hc4 hw hx hat
        generalize Tl.W t j = y at y0 y1
        generalize Tl.X t j = x at z0 z1
        obtain ⟨z0, z2, z3⟩ := z0
        obtain ⟨z1, z4, z5⟩ := z1
        have e2 : (y != y) = false := by simp
        have e3 : ∀ w, (binOp BinOp.neq 52 (.agg #[.int .i64 x.nice, .int .u64 (x.mask : Int), .int .i64 x.lag]) (.agg #[.int .i64 x.nice, .int .u64 (x.mask : Int), .int .i64 x.lag])).run Tryd.prog w = .ok (.bool false) w := fun w => neK x w
        have f0 : ∀ n, (wr.drewN n).cell? ⟨nA, k * 2, none⟩ = _ := fun n => c0
        have f1 : ∀ n, (wr.drewN n).cell? ⟨nA, k * 2 + 1, none⟩ = _ := fun n => c1
        have f3 : ∀ n, (wr.drewN n).cell? ⟨nT, k, none⟩ = _ := fun n => c3
        have f4 : ∀ n, (wr.drewN n).cell? ⟨n2, 0, none⟩ = _ := fun n => x0
        have f5 : ∀ n, (wr.drewN n).cell? ⟨n2, 1, none⟩ = _ := fun n => x1
        have g0 : ∀ n, (wr.drewN n).cell? ⟨b1, off1 + j, none⟩ = _ := fun n => y0
        have g1 : ∀ n, (wr.drewN n).cell? ⟨b, off + j, none⟩ = _ := fun n => y1
        have g2 : ∀ n, (wr.drewN n).cell? ⟨b3, off3 + j * 3, none⟩ = _ := fun n => z0
        have g3 : ∀ n, (wr.drewN n).cell? ⟨b3, off3 + j * 3 + 1, none⟩ = _ := fun n => z2
        have g4 : ∀ n, (wr.drewN n).cell? ⟨b3, off3 + j * 3 + 2, none⟩ = _ := fun n => z3
        have g5 : ∀ n, (wr.drewN n).cell? ⟨b4, off4 + j * 3, none⟩ = _ := fun n => z1
        have g6 : ∀ n, (wr.drewN n).cell? ⟨b4, off4 + j * 3 + 1, none⟩ = _ := fun n => z4
        have g7 : ∀ n, (wr.drewN n).cell? ⟨b4, off4 + j * 3 + 2, none⟩ = _ := fun n => z5
        go_upto_region 24 with fail
        go_quiet (fail)
        go_wp2
        exact ⟨⟨j + 1, by omega, by go_num, Lib.hid (below_drewN HJ.out _)⟩, by simp [intOf]; omega⟩

theorem met (os : Os) : laidMet Tryd.prog Rows.tableRightRow.laid ((laidWorld os).forCall (fun _ _ => 0) ⟨#[], #[.slice none 0 0, .int .u16 0], []⟩).memory := laidMet_of_run' 8 (by kernel_rfl) (by kernel_rfl)
theorem reads (os : Os) {H : Type} (enc : TypeId × Value → H) : ∃ ps, DataW.whole enc Tryd.prog ((laidWorld os).forCall (fun _ _ => 0) ⟨#[], #[.slice none 0 0, .int .u16 0], []⟩).memory Tryd.f6.params.toList Rows.tableRightSpec.vars false #[Value.slice none 0 0, Value.int .u16 0].toList 8 = some ([.nil, .lit (.int .u16 0)], [], ps) := ⟨[], by kernel_rfl⟩
set_option maxRecDepth 100000 in
theorem lifted (os : Os) (started : os.Started) (H : Type) (enc : TypeId × Value → H) (F : Stop.Interp) :
    ReturnsInHanded {} Tryd.checked os 6 .any ((OpenSpec.ofChange Rows.tableRightSpec).preRow enc Tryd.prog Tryd.f6 Rows.tableRightRow.domain false Rows.tableRightRow.laid) (((OpenSpec.ofChange Rows.tableRightSpec).at F).post enc Tryd.prog Tryd.f6 false true false false) := by
  obtain ⟨ps, hx⟩ := reads os enc
  refine returnsInHanded_of_row (C := Tryd.checked) (s := OpenSpec.ofChange Rows.tableRightSpec) own started (by kernel_rfl) Tryd.func6 (witness_row_at (enc := enc) (C := Tryd.checked) false (laidWorld os) #[.slice none 0 0, .int .u16 0] rfl (by kernel_rfl) (by kernel_rfl) (by kernel_rfl) (OpenSpec.preRow_of_cond 8 hx (by kernel_rfl) (fun k hk => by cases hk) (by kernel_rfl) (met os))) ?_
  intro W base args ds gs before hval0 hW _ _ _ hL _ _
  have hval : ∀ (j : Nat) t v, Tryd.f6.params[j]? = some t → args[j]? = some v → Value.okWide Tryd.prog W .any base t v := hval0
  have hW' := hW
  obtain ⟨p, q, hA0, hV, rfl, -, -⟩ := hW
  have hA : DataW.TrodAll enc Tryd.prog W 0 (fun _ => true) true Tryd.f6.params.toList args.toList ds p := hA0
  rw [Tryd.params6] at hA hval
  obtain ⟨v0, vs0, d0, ds0, p0, q0, hargs, rfl, rfl, h0, r0⟩ := trodAll_cons hA
  obtain ⟨v1, vs1, d1, ds1, p1, q1, rfl, rfl, rfl, h1, r1⟩ := trodAll_cons r0
  obtain ⟨rfl, rfl, rfl⟩ := trodAll_nil r1
  obtain rfl : args = #[v0, v1] := by cases args; simp_all
  obtain ⟨rfl, rfl⟩ := trodVars_none hV
  obtain ⟨a0, w0⟩ := ints_arg Tryd.underlying38 Tryd.underlying39 (by kernel_rfl) (hval 0 38 v0 rfl rfl) h0
  obtain ⟨a1, rfl, rfl, rfl, w1⟩ := open_int Tryd.underlying39 (hval 1 39 v1 rfl rfl) h1
  clear hA0 hval0
  refine (walk v0 a0 a1 W w0 w1 (tab_laid hL)).mono fun e W' ⟨he, hb⟩ => ?_
  subst he
  exact ⟨_, rfl, post_law laidOut (by kernel_rfl) rfl (by kernel_rfl) Tryd.underlying4 hW' rfl hb⟩

theorem row : Rows.TableRightSaid :=
  OpenClaim.holds_of_cond 6 Tryd.f6 rfl rfl rfl rfl rfl rfl rfl ⟨rfl, rfl, rfl, rfl, rfl⟩ rfl rfl rfl rfl rfl (by kernel_rfl) Tryd.func6 (by kernel_rfl)
    (of_decide_eq_true (by kernel_rfl)) (by unfold Func.isWrapper; first | (rw [if_pos (by decide +kernel)]; kernel_rfl) | (rw [if_neg (by decide +kernel)]; exact ⟨rfl, rfl⟩))
    (fun os started H enc _ F => by rw [OpenClaim.pre_eq_preRow]; exact lifted os started H enc F)
theorem simple (f : FuncId) (fn : Func) (hf : Tryd.pinned.checked.prog.funcNamed Rows.tableRightRow.func = some f) (hfn : Tryd.pinned.checked.prog.funcs[f]? = some fn) :
    true = Tryd.pinned.checked.prog.looks [] ∧ ∀ (j : Nat) t, fn.params[j]? = some t → Tryd.pinned.checked.prog.wantsStandIn t = false := by
  have e1 : Tryd.prog.funcNamed Rows.tableRightRow.func = some 6 := by kernel_rfl
  cases e1.symm.trans hf
  cases Tryd.func6.symm.trans hfn
  exact ⟨by kernel_rfl, no_stand (P := Tryd.prog) (by kernel_rfl)⟩
/-- **TableRight**: the given statement, a tied card. -/
theorem proved : Rows.TableRightCardSaid :=
  Claim7.holds_tied_plain_at .later [] _ _ _ _ row (fun _ h => by cases h) (by kernel_rfl) (fun _ h => by cases h) tableRight_row_tie rfl ⟨rfl, rfl⟩ (by kernel_rfl) rfl simple (by kernel_rfl)
end Go.Proofs.YtjikabalpejmlaaDoor.tableRight
