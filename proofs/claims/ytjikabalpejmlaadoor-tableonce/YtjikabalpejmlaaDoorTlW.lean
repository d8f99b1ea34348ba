/-
  The laws' awake of layer 14: true.
-/
import Derived.Test.YtjikabalpejmlaaDoorTlN
namespace Go.Proofs.YtjikabalpejmlaaDoor
open Go.RowKit Go.Deep Pk Lf
open Mk (V allM cpus fstI anyB)

/-- What the walks want of a world. -/
def Ok (w : World) : Prop := Tab w ∧ TabM w
theorem Ok.below {w w' : World} (h : Ok w) (hb : Below w.heap.size w w') : Ok w' := ⟨h.1.below hb, h.2.below hb⟩
/-- A call that tells a table, and an error; and one that tells a handle, too. -/
def Gives (w : World) (t : Tl.T) (er : Int) (e : Ending) (w' : World) : Prop := (∃ a0 l0 p0 a1 l1 p1, e = .returned (.tuple #[.agg #[.slice a0 l0 p0, .slice a1 l1 p1], .int .i64 er]) ∧ Tv w' (.agg #[.slice a0 l0 p0, .slice a1 l1 p1]) t) ∧ Below w.heap.size w w'
def GivesH (w : World) (t : Tl.T) (h : Tl.Hd) (er : Int) (e : Ending) (w' : World) : Prop := (∃ a0 l0 p0 a1 l1 p1, e = .returned (.tuple #[.agg #[.slice a0 l0 p0, .slice a1 l1 p1], .agg #[.int .i64 h.slot, .int .i64 h.gen], .int .i64 er]) ∧ Tv w' (.agg #[.slice a0 l0 p0, .slice a1 l1 p1]) t) ∧ Below w.heap.size w w'
theorem Tells.gives {w w' : World} {t : Tl.T} {er : Int} {e : Ending} (h : Tells w t er e w') : Gives w t er e w' := by
  obtain ⟨⟨v, rfl, hv, hf⟩, hb⟩ := h
  obtain ⟨a0, l0, p0, a1, l1, p1, rfl, -, -⟩ := hf
  exact ⟨⟨_, _, _, _, _, _, rfl, hv⟩, hb⟩
theorem TellsC.gives {w w' : World} {t : Tl.T} {h' : Tl.Hd} {er : Int} {e : Ending} (h : TellsC w t h' er e w') : GivesH w t h' er e w' := by
  obtain ⟨⟨v, rfl, hv, hf⟩, hb⟩ := h
  obtain ⟨a0, l0, p0, a1, l1, p1, rfl, -, -⟩ := hf
  exact ⟨⟨_, _, _, _, _, _, rfl, hv⟩, hb⟩
section
variable {t : Tl.T} {v : Value} {W : World}
theorem new_g (n : Int) (W : World) : Calls Tryd.prog 12 #[.int .i64 n] W (Gives W (newT n) (newE n)) := (new_any n W).mono fun _ _ h => h.gives
theorem create_g (hV : Tv W v t) (hO : Ok W) (c n : Int) (m : Nat) (hm : V m) : Calls Tryd.prog 17 #[v, .int .i64 c, .int .i64 n, .int .u64 (m : Int)] W (GivesH W (Tl.crT t c n m) (Tl.crH t c n m) (Tl.crE t c n m)) := (create_any' t c n m hm v W hV hO.1 hO.2).mono fun _ _ h => h.gives
theorem exit_g (hV : Tv W v t) (hO : Ok W) (s g : Int) : Calls Tryd.prog 18 #[v, .agg #[.int .i64 s, .int .i64 g]] W (Gives W (Tl.exT t s g) (Tl.exE t s g)) := (exit_any' t s g v W hV hO.1).mono fun _ _ h => h.gives
theorem step_g (hV : Tv W v t) (hO : Ok W) (s ev cpu : Int) (hwf : (Lit.int .i64 ev).wf = true) : Calls Tryd.prog 19 #[v, .int .i64 s, .int .i64 ev, .int .i64 cpu] W (Gives W (Tl.stT t s ev cpu) (Tl.stE t s ev cpu)) := (step_any' t s ev cpu v W hV hO.1 hwf).mono fun _ _ h => h.gives
end
theorem Vs {m : Nat} (h : m < 18446744073709551616) : V m := h

set_option maxHeartbeats 16000000 in
set_option maxRecDepth 100000 in
theorem awake_any (W : World) (hO : Ok W) : Calls Tryd.prog 10 #[] W fun e w' => e = .returned (.bool true) ∧ Below W.heap.size W w' := by
  have HO := Lib.hid hO
  have B0 := Lib.hid (Bag.nil W)
  clear hO
  go_enter Tryd.func10, Tryd.ntmps10
  go_wp2_with fail
  refine (new_g 2 W).mono ?_
  rw [aw0.1, aw0.2]
  rintro e' w1 ⟨⟨a0, l0, p0, a1, l1, p1, rfl, hv⟩, hb⟩
  have B1 := Lib.hid ((B0.out.up hb).tb hv)
  clear hv hb B0
  go_upto_region 2 with fail
  generalize w1.heap.size = n1 at B1 ⊢
  generalize w1.alloc _ = x1 at B1 ⊢
  -- Create
  obtain ⟨a0, l0, p0, a1, l1, p1, hB, hV⟩ := B1.out.getT (n := n1) (t := aN) (by simp)
  obtain ⟨y0, y1⟩ := hB.cells
  clear hB
  go_wp2_with fail
  refine (create_g hV (HO.out.below B1.out.bel) 4 0 12 (Vs (by decide))).mono ?_
  rw [aw1.1, aw1.2.1, aw1.2.2]
  rintro e' w2 ⟨⟨a0', l0', p0', a1', l1', p1', rfl, hv⟩, hb⟩
  have B2 : Hid (Bag W ((w2.alloc (.cells #[.slice a0' l0' p0', .slice a1' l1' p1'] 25)).alloc (.cells #[.int .i64 0, .int .i64 1] 27)) [.h (w2.heap.size + 1) ⟨0, 1⟩, .t w2.heap.size aA, .t n1 aN]) := Lib.hid ((B1.out.up hb).th hv ⟨0, 1⟩)
  clear hv hb B1
  clear y0 y1 hV
  go_upto_region 3 with fail
  generalize w2.heap.size = n2 at B2 ⊢
  generalize (w2.alloc _).alloc _ = x2 at B2 ⊢
  obtain ⟨a0, l0, p0, a1, l1, p1, hB, hV⟩ := B2.out.getT (n := n2) (t := aA) (by simp)
  obtain ⟨y0, y1⟩ := hB.cells
  clear hB
  go_wp2_with fail
  refine (create_g hV (HO.out.below B2.out.bel) 4 5 1 (Vs (by decide))).mono ?_
  rw [aw2.1, aw2.2.1, aw2.2.2]
  rintro e' w3 ⟨⟨a0', l0', p0', a1', l1', p1', rfl, hv⟩, hb⟩
  have B3 : Hid (Bag W ((w3.alloc (.cells #[.slice a0' l0' p0', .slice a1' l1' p1'] 25)).alloc (.cells #[.int .i64 1, .int .i64 1] 27)) [.h (w3.heap.size + 1) ⟨1, 1⟩, .t w3.heap.size aB, .h (n2 + 1) ⟨0, 1⟩, .t n2 aA, .t n1 aN]) := Lib.hid ((B2.out.up hb).th hv ⟨1, 1⟩)
  clear hv hb B2
  clear y0 y1 hV
  go_upto_region 4 with fail
  generalize w3.heap.size = n3 at B3 ⊢
  generalize (w3.alloc _).alloc _ = x3 at B3 ⊢
  obtain ⟨a0, l0, p0, a1, l1, p1, hB, hV⟩ := B3.out.getT (n := n3) (t := aB) (by simp)
  obtain ⟨y0, y1⟩ := hB.cells
  clear hB
  go_wp2_with fail
  refine (create_g hV (HO.out.below B3.out.bel) 4 5 1 (Vs (by decide))).mono ?_
  rw [aw3.1, aw3.2.1, aw3.2.2]
  rintro e' w4 ⟨⟨a0', l0', p0', a1', l1', p1', rfl, hv⟩, hb⟩
  have B4 : Hid (Bag W ((w4.alloc (.cells #[.slice a0' l0' p0', .slice a1' l1' p1'] 25)).alloc (.cells #[.int .i64 0, .int .i64 0] 27)) [.h (w4.heap.size + 1) ⟨0, 0⟩, .t w4.heap.size Tl.t0, .h (n3 + 1) ⟨1, 1⟩, .t n3 aB, .h (n2 + 1) ⟨0, 1⟩, .t n2 aA, .t n1 aN]) := Lib.hid ((B3.out.up hb).th hv ⟨0, 0⟩)
  clear hv hb B3
  clear y0 y1 hV
  go_upto_region 5 with fail
  generalize w4.heap.size = n4 at B4 ⊢
  generalize (w4.alloc _).alloc _ = x4 at B4 ⊢
  obtain ⟨a0, l0, p0, a1, l1, p1, hB, hV⟩ := B4.out.getT (n := n3) (t := aB) (by simp)
  obtain ⟨y0, y1⟩ := hB.cells
  obtain ⟨z0, z1⟩ := (B4.out.getH (n := n2 + 1) (x := ⟨0, 1⟩) (by simp)).cells
  clear hB
  go_wp2_with fail
  refine (exit_g hV (HO.out.below B4.out.bel) 0 1).mono ?_
  rw [aw4.1, aw4.2]
  rintro e' w5 ⟨⟨a0', l0', p0', a1', l1', p1', rfl, hv⟩, hb⟩
  have B5 := Lib.hid ((B4.out.up hb).tb hv)
  clear hv hb B4 y0 y1 hV z0 z1
  go_upto_region 6 with fail
  generalize w5.heap.size = n5 at B5 ⊢
  generalize w5.alloc _ = x5 at B5 ⊢
  obtain ⟨a0, l0, p0, a1, l1, p1, hB, hV⟩ := B5.out.getT (n := n5) (t := aC) (by simp)
  obtain ⟨y0, y1⟩ := hB.cells
  clear hB
  go_wp2_with fail
  refine (create_g hV (HO.out.below B5.out.bel) 4 5 255 (Vs (by decide))).mono ?_
  rw [aw5.1, aw5.2.1, aw5.2.2]
  rintro e' w6 ⟨⟨a0', l0', p0', a1', l1', p1', rfl, hv⟩, hb⟩
  have B6 : Hid (Bag W ((w6.alloc (.cells #[.slice a0' l0' p0', .slice a1' l1' p1'] 25)).alloc (.cells #[.int .i64 0, .int .i64 2] 27)) [.h (w6.heap.size + 1) ⟨0, 2⟩, .t w6.heap.size aD, .t n5 aC, .h (n4 + 1) ⟨0, 0⟩, .t n4 Tl.t0, .h (n3 + 1) ⟨1, 1⟩, .t n3 aB, .h (n2 + 1) ⟨0, 1⟩, .t n2 aA, .t n1 aN]) := Lib.hid ((B5.out.up hb).th hv ⟨0, 2⟩)
  clear hv hb B5
  clear y0 y1 hV
  go_upto_region 7 with fail
  generalize w6.heap.size = n6 at B6 ⊢
  generalize (w6.alloc _).alloc _ = x6 at B6 ⊢
  obtain ⟨a0, l0, p0, a1, l1, p1, hB, hV⟩ := B6.out.getT (n := n6) (t := aD) (by simp)
  obtain ⟨y0, y1⟩ := hB.cells
  clear hB
  go_wp2_with fail
  refine (step_g hV (HO.out.below B6.out.bel) 0 2 0 (by decide)).mono ?_
  rw [aw6.1, aw6.2]
  rintro e' w7 ⟨⟨a0', l0', p0', a1', l1', p1', rfl, hv⟩, hb⟩
  have B7 := Lib.hid ((B6.out.up hb).tb hv)
  clear hv hb B6 y0 y1 hV
  go_upto_region 8 with fail
  generalize w7.heap.size = n7 at B7 ⊢
  generalize w7.alloc _ = x7 at B7 ⊢
  obtain ⟨d0, dl0, dp0, d1, dl1, dp1, hBD, hVD⟩ := B7.out.getT (n := n6) (t := aD) (by simp)
  obtain ⟨s0, sl0, sp0, s1, sl1, sp1, hBS, hVS⟩ := B7.out.getT (n := n7) (t := aS) (by simp)
  obtain ⟨q0, q1, e, hI, hK⟩ := id hVD
  simp only [Value.agg.injEq, Array.mk.injEq, List.cons.injEq, and_true] at e
  obtain ⟨rfl, rfl⟩ := e
  obtain rfl : dl0 = 2 := by obtain ⟨_, _, e, -⟩ := hI; cases e; rfl
  obtain rfl : dl1 = 2 := by obtain ⟨_, _, e, -⟩ := hK; cases e; rfl
  obtain ⟨r0, r1, e, hIS, hKS⟩ := id hVS
  simp only [Value.agg.injEq, Array.mk.injEq, List.cons.injEq, and_true] at e
  obtain ⟨rfl, rfl⟩ := e
  obtain rfl : sl0 = 2 := by obtain ⟨_, _, e, -⟩ := hIS; cases e; rfl
  obtain ⟨y0, y1⟩ := hBD.cells
  obtain ⟨z0, z1⟩ := hBS.cells
  go_upto_region 10 with fail
  have e1 : ∀ w, (binOp BinOp.eql 27 (.agg #[.int .i64 0, .int .i64 1]) (.agg #[.int .i64 0, .int .i64 1])).run Tryd.prog w = .ok (.bool true) w := fun w => by simpa using eqH ⟨0, 1⟩ ⟨0, 1⟩ w
  have e2 : ∀ w, (binOp BinOp.eql 27 (.agg #[.int .i64 1, .int .i64 1]) (.agg #[.int .i64 1, .int .i64 1])).run Tryd.prog w = .ok (.bool true) w := fun w => by simpa using eqH ⟨1, 1⟩ ⟨1, 1⟩ w
  have e3 : ∀ w, (binOp BinOp.eql 27 (.agg #[.int .i64 0, .int .i64 2]) (.agg #[.int .i64 0, .int .i64 2])).run Tryd.prog w = .ok (.bool true) w := fun w => by simpa using eqH ⟨0, 2⟩ ⟨0, 2⟩ w
  rcases Ks.parts hK with ⟨h, -⟩ | ⟨-, b, off, cap', hv, -, hbk, hc⟩
  · cases h
  simp only [Value.slice.injEq] at hv
  obtain ⟨rfl, -, rfl⟩ := hv
  have HCK : Hid (b < x7.heap.size ∧ x7.cell? ⟨b, off + 1, none⟩ = some (.int .u64 15)) := Lib.hid ⟨hbk, by have := (hc 0 (by decide)).2.1; simpa [aD] using this⟩
  rcases hIS.parts with ⟨h, -⟩ | ⟨-, -, b2, off2, cap2, hv, hbk2, hc2⟩
  · cases h
  simp only [Value.slice.injEq] at hv
  obtain ⟨rfl, -, rfl⟩ := hv
  have HCS : Hid (b2 < x7.heap.size ∧ x7.cell? ⟨b2, off2, none⟩ = some (.int .u64 134218754)) := Lib.hid ⟨hbk2, by have := hc2 0 (by decide); simpa [aS] using this⟩
  have HVD := Lib.hid hVD
  have HBD := Lib.hid (And.intro hBD hBS)
  obtain ⟨u0, u1⟩ := (B7.out.getH (n := n2 + 1) (x := ⟨0, 1⟩) (by simp)).cells
  obtain ⟨u2, u3⟩ := (B7.out.getH (n := n3 + 1) (x := ⟨1, 1⟩) (by simp)).cells
  obtain ⟨u4, u5⟩ := (B7.out.getH (n := n6 + 1) (x := ⟨0, 2⟩) (by simp)).cells
  clear hK hI hIS hKS hc hc2 hbk hbk2 hBD hBS hVS hVD
  go_wp2_with fail
  refine (check_any aD 0 1 _ x7 HVD.out (HO.out.below B7.out.bel).1).mono ?_
  rw [aw7.1]
  rintro e' w8 ⟨rfl, hb8⟩
  have HB8 := Lib.hid hb8
  have HBD8 := Lib.hid (And.intro (HBD.out.1.below hb8) (HBD.out.2.below hb8))
  have HVD8 := Lib.hid (HVD.out.below hb8)
  have HC8 := Lib.hid (And.intro ((hb8.cell (p := ⟨b, off + 1, none⟩) HCK.out.1).trans HCK.out.2) ((hb8.cell (p := ⟨b2, off2, none⟩) HCS.out.1).trans HCS.out.2))
  have HL8 : Hid (b < w8.heap.size ∧ b2 < w8.heap.size) := Lib.hid ⟨Nat.lt_of_lt_of_le HCK.out.1 hb8.size, Nat.lt_of_lt_of_le HCS.out.1 hb8.size⟩
  have B8 := Lib.hid (B7.out.up hb8)
  clear hb8 u0 u1 u2 u3 u4 u5 y0 y1 z0 z1 HBD HVD HCK HCS B7
  obtain ⟨y0, y1⟩ := HBD8.out.1.cells
  obtain ⟨u4, u5⟩ := (B8.out.getH (n := n6 + 1) (x := ⟨0, 2⟩) (by simp)).cells
  go_wp2_with fail
  refine (check_any aD 0 2 _ w8 HVD8.out (HO.out.below B8.out.bel).1).mono ?_
  rw [aw7.2.1]
  rintro e' w9 ⟨rfl, hb9⟩
  have HVD9 := Lib.hid (HVD8.out.below hb9)
  have HBD9 := Lib.hid (HBD8.out.1.below hb9)
  have B9 := Lib.hid (B8.out.up hb9)
  obtain ⟨y0, y1⟩ := HBD9.out.cells
  obtain ⟨z0, z1⟩ := (HBD8.out.2.below hb9).cells
  have c1 := (hb9.cell (p := ⟨b, off + 1, none⟩) HL8.out.1).trans HC8.out.1
  have c2 := (hb9.cell (p := ⟨b2, off2, none⟩) HL8.out.2).trans HC8.out.2
  clear hb9 HBD8 HVD8 HC8 HL8 B8 u4 u5
  go_wp2_with fail
  refine (rkind_any 134218754 (by unfold U; decide) w9).mono ?_
  rw [aw7.2.2.2.2]
  rintro e' w' ⟨rfl, rfl⟩
  obtain ⟨f0, fl0, fp0, f1, fl1, fp1, hBF, hVF⟩ := B9.out.getT (n := n5) (t := aC) (by simp)
  obtain ⟨v0, v1⟩ := hBF.cells
  have HVF := Lib.hid hVF
  clear hBF hVF
  go_wp2_with fail
  refine (live_any aC _ w9 HVF.out (HO.out.below B9.out.bel).1 (by decide)).mono ?_
  rintro e' w10 ⟨⟨vl, rfl, hs⟩, hb10⟩
  obtain ⟨al, cl, rfl, -, -⟩ := hs.shape
  rw [show (Tl.live aC.ws aC.ws.length).length = 1 from aw7.2.2.2.1]
  have HV10 := Lib.hid (HVD9.out.below hb10)
  have B10 := Lib.hid (B9.out.up hb10)
  obtain ⟨y0', y1'⟩ := (HBD9.out.below hb10).cells
  clear hb10 hs HBD9 HVD9 B9 v0 v1 c1 c2 y0 y1 z0 z1
  go_wp2_with fail
  refine (right_any aD _ w10 HV10.out (HO.out.below B10.out.bel).1).mono ?_
  rw [aw7.2.2.1]
  rintro e' w11 ⟨rfl, hb11⟩
  have B11 := Lib.hid (B10.out.up hb11)
  clear hb11 y0' y1' B10 HV10
  go_wp2
  go_ret
  exact ⟨rfl, B11.out.bel⟩
end Go.Proofs.YtjikabalpejmlaaDoor
