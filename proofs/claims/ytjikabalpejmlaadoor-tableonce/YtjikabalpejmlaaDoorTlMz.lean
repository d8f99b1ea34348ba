/-
  Tables that are made: what a number does with one, and the laws' do and Made.
  The laws' do: an Exit
  The laws' do: a Step
  The laws' do and Made, whole.
-/
import Derived.Test.YtjikabalpejmlaaDoorTlY
import Derived.Test.YtjikabalpejmlaaDoorTlZ
import Derived.Deep.RegionWith
import Derived.Deep.RegionHeld3
import Derived.Deep.DeepCutAuto
namespace Go.Proofs.YtjikabalpejmlaaDoor
open Go.RowKit Go.Deep Pk Lf
open Mk (V allM cpus fstI anyB)

/-- What a number does with a table. -/
def dSlot (z : Nat) : Nat := z / 32 % 5
def dN (z : Nat) : Int := ((z / 4 % 40 : Nat) : Int) - 20
def dM (z : Nat) : Nat := z / 64 % 256
def dEv (z : Nat) : Nat := z / 256 % 16
def dCpu (z : Nat) : Nat := z / 64 % 8
def doF (t : Tl.T) (z : Nat) : Tl.T :=
  if z % 4 = 0 then (if Tl.crE t 8 (dN z) (dM z) = 0 then Tl.crT t 8 (dN z) (dM z) else t)
  else if z % 32 = 1 then (if Tl.exE t (dSlot z : Nat) (G (Tl.W t (dSlot z))) = 0 then Tl.exT t (dSlot z : Nat) (G (Tl.W t (dSlot z))) else t)
  else (if Tl.stE t (dSlot z : Nat) (dEv z : Nat) (dCpu z : Nat) = 0 then Tl.stT t (dSlot z : Nat) (dEv z : Nat) (dCpu z : Nat) else t)
/-- Right, and of five slots. -/
def five (t : Tl.T) : Prop := Tl.right t ∧ t.ws.length = 5
theorem five_ts {t : Tl.T} (h : five t) : t.ts.length = 5 := h.1.2.1.trans h.2
theorem do_five {t : Tl.T} (h : five t) (z : Nat) : five (doF t z) := by
  unfold doF
  split
  · split
    · rename_i e
      refine ⟨Tl.right_cr e, ?_⟩
      rw [(Tl.cr_yes e).1, (Tl.put_len _ _ _ _).1]; exact h.2
    · exact h
  · split
    · split
      · rename_i e
        refine ⟨Tl.right_ex e, ?_⟩
        rw [Tl.ex_yes e, (Tl.put_len _ _ _ _).1]; exact h.2
      · exact h
    · split
      · rename_i e
        refine ⟨Tl.right_st e, ?_⟩
        rw [Tl.st_yes e, (Tl.put_len _ _ _ _).1]; exact h.2
      · exact h
def t5 : Tl.T := ⟨[0, 0, 0, 0, 0], [Tl.k0, Tl.k0, Tl.k0, Tl.k0, Tl.k0]⟩
theorem t5_new : newT 5 = t5 ∧ newE 5 = 0 := by decide +kernel
theorem t5_five : five t5 := by
  refine ⟨?_, rfl⟩
  have : Tl.rightB t5 = true := by decide +kernel
  exact of_decide_eq_true this
/-- A table behind what the first k numbers do. -/
def madeK (zs : List Int) : Nat → Tl.T
  | 0 => t5
  | k + 1 => doF (madeK zs k) (zs.getD k 0).toNat
def madeT (zs : List Int) : Tl.T := madeK zs (min zs.length 60)
theorem madeK_five (zs : List Int) (k : Nat) : five (madeK zs k) := by
  induction k with
  | zero => exact t5_five
  | succ k ih => exact do_five ih _

/-- A table stays, where a box of slices is written. -/
theorem gives_tv {w' : World} {v : Value} {t : Tl.T} {n : Nat} (hv : Tv w' v t) {x y : Value} (hb : Bt w' n x y) {i j : Option Addr} {li pi lj pj : Nat} (hx : x = .slice i li pi) (hy : y = .slice j lj pj) (c d : Value) (hc : ∃ a l q, c = .slice a l q) (_ : ∃ a l q, d = .slice a l q) :
    Tv ((w'.setCell ⟨n, 0, none⟩ c).setCell ⟨n, 1, none⟩ d) v t := by
  subst hx hy
  have step : ∀ (X : World) (p : Addr) (u : Value) (c d : Value), p.block = n → (∃ a l q, c = .slice a l q) → (∃ a l q, d = .slice a l q) → Bt X n c d → Tv X v t → Tv (X.setCell p u) v t := by
    rintro X p u c d hp ⟨ca, cl, cq, rfl⟩ ⟨da, dl, dq, rfl⟩ hB ⟨q0, q1, rfl, ⟨a, cap, rfl, hm, hw, hc⟩, ⟨a', cap', rfl, hm', hw', hc'⟩⟩
    have notint : ∀ off, ∀ k z, X.cell? ⟨n, off, none⟩ ≠ some (.int k z) := by
      intro off k z h
      simp only [World.cell?, show X.heap[n]? = _ from hB] at h
      rcases (show off = 0 ∨ off = 1 ∨ 2 ≤ off by omega) with rfl | rfl | h2
      · simp at h
      · simp at h
      · have : (#[Value.slice ca cl cq, Value.slice da dl dq])[off]? = none := by simp; omega
        simp only [Option.isSome_none, Bool.false_eq_true, if_false, this] at h
        cases h
    refine ⟨_, _, rfl, ⟨_, _, rfl, hm, hw, fun hz => ?_⟩, ⟨_, _, rfl, hm', hw', fun hz => ?_⟩⟩
    · obtain ⟨b, off, rfl, hcc⟩ := hc hz
      have hne : b ≠ n := by
        rintro rfl
        exact notint _ _ _ (hcc 0 (List.length_pos_iff.2 hz))
      exact ⟨b, off, rfl, fun i hi => by rw [cell_off (by show b ≠ p.block; rw [hp]; exact hne)]; exact hcc i hi⟩
    · obtain ⟨b, off, rfl, hcc⟩ := hc' hz
      have hne : b ≠ n := by
        rintro rfl
        exact notint _ _ _ (hcc 0 (List.length_pos_iff.2 hz) 0 (by decide))
      exact ⟨b, off, rfl, fun i hi j hj => by rw [cell_off (by show b ≠ p.block; rw [hp]; exact hne)]; exact hcc i hi j hj⟩
  have h1 := step w' ⟨n, 0, none⟩ c _ _ rfl ⟨_, _, _, rfl⟩ ⟨_, _, _, rfl⟩ hb hv
  have hb1 : Bt (w'.setCell ⟨n, 0, none⟩ c) n c (.slice j lj pj) := by
    have := heap_setCell_same w' n 0 _ _ c hb
    unfold Bt; rw [this]; rfl
  exact step _ ⟨n, 1, none⟩ d _ _ rfl hc ⟨_, _, _, rfl⟩ hb1 h1
/-- What is told behind do. -/
def GivesT (W : World) (t : Tl.T) (e : Ending) (w' : World) : Prop := (∃ a0 l0 p0 a1 l1 p1, e = .returned (.agg #[.slice a0 l0 p0, .slice a1 l1 p1]) ∧ Tv w' (.agg #[.slice a0 l0 p0, .slice a1 l1 p1]) t) ∧ Below W.heap.size W w'

/-- A box laid ahead of a call. -/
theorem kept_box {X Y : World} (hb : Below (X.alloc (.cells #[.slice none 0 0, .slice none 0 0] 25)).drew.heap.size (X.alloc (.cells #[.slice none 0 0, .slice none 0 0] 25)).drew Y) :
    Y.cell? ⟨X.heap.size, 0, none⟩ = some (.slice none 0 0) ∧ Y.cell? ⟨X.heap.size, 1, none⟩ = some (.slice none 0 0) ∧ Y.frozen? ⟨X.heap.size, 0, none⟩ = false ∧ Y.frozen? ⟨X.heap.size, 1, none⟩ = false ∧ Bt Y X.heap.size (.slice none 0 0) (.slice none 0 0) ∧ Below X.heap.size X Y := by
  have h : Bt Y X.heap.size (.slice none 0 0) (.slice none 0 0) := (Bt.new X _ _).below ⟨hb.os, hb.tape, hb.output, hb.size, hb.block⟩
  have hX := (Below.refl X.heap.size X).alloc (Nat.le_refl _) (.cells #[.slice none 0 0, .slice none 0 0] 25)
  exact ⟨h.cells.1, h.cells.2, h.free 0, h.free 1, h, bOn hX ⟨hb.os, hb.tape, hb.output, hb.size, hb.block⟩⟩
set_option maxHeartbeats 8000000 in
set_option maxRecDepth 100000 in
theorem do1_any (t : Tl.T) (z : Nat) (hz : z < 65536) (hz4 : z % 4 = 0) (v : Value) (W : World) (hV : Tv W v t) (h5 : five t) :
    Calls Tryd.prog 32 #[v, .int .u16 (z : Int)] W (GivesT W (doF t z)) := by
  have HV := Lib.hid hV
  obtain ⟨c0, c1, rfl, hI, hK⟩ := hV
  have HA := Lib.hid (allocs_at [.cells #[c0, c1] 25, .cells #[.slice none 0 0, .slice none 0 0] 25, .cells #[.slice none 0 0, .slice none 0 0] 25] W)
  have HB := Lib.hid (allocs_below W [.cells #[c0, c1] 25, .cells #[.slice none 0 0, .slice none 0 0] 25, .cells #[.slice none 0 0, .slice none 0 0] 25])
  simp only [allocs] at HA HB
  have HI := Lib.hid hI
  obtain ⟨a0, p0, rfl, -, -, -⟩ := hI
  obtain ⟨a1, p1, rfl, -, -, -⟩ := hK
  have H5 := Lib.hid h5
  have hn0 : t.ws.length = 5 := h5.2
  have hn1 : t.ts.length = 5 := five_ts h5
  rw [hn0] at HV HA HB HI ⊢
  rw [hn1] at HV HA HB ⊢
  clear hn0 hn1 h5
  go_enter Tryd.func32, Tryd.ntmps32
  go_upto_region 1 with fail
  have hs : (z : Int) / 32 % 5 = ((dSlot z : Nat) : Int) := by unfold dSlot; omega
  have HSL : Hid (dSlot z < 5) := Lib.hid (Nat.mod_lt _ (by decide))
  go_upto_region 4 with fail
  generalize ((W.alloc _).alloc _).alloc _ = w1 at HA HB ⊢
  have h0 : Bt w1 W.heap.size _ _ := HA.out 0 _ rfl
  have h1 : Bt w1 (W.heap.size + 1) (.slice none 0 0) (.slice none 0 0) := HA.out 1 _ rfl
  have h2 : Bt w1 (W.heap.size + 1 + 1) (.slice none 0 0) (.slice none 0 0) := HA.out 2 _ rfl
  have HV1 := Lib.hid (HV.out.below HB.out)
  obtain ⟨x0, x1⟩ := h0.cells
  have H0 := Lib.hid h0
  have H1 := Lib.hid h1
  have H2 := Lib.hid h2
  clear h0 h1 h2 HA HV
  have d4 : ((z : Int) % 4 == 0) = true := by simp; omega
  have hn : (z : Int) / 4 % 40 - 20 = dN z := by unfold dN; omega
  have hm : (z : Int) / 64 % 256 = ((dM z : Nat) : Int) := by unfold dM; omega
  have HD : Hid (doF t z = if Tl.crE t 8 (dN z) (dM z) = 0 then Tl.crT t 8 (dN z) (dM z) else t) := Lib.hid (by unfold doF; rw [if_pos hz4])
  have HCR := Lib.hid (rcreate_any t 8 (dN z) (dM z) (show dM z < 18446744073709551616 by unfold dM; omega) _ w1 HV1.out)
  clear hz4
  generalize dN z = nn at hn HD HCR
  generalize dM z = mm at hm HD HCR
  generalize Tl.crT t 8 nn mm = tN at HD HCR
  generalize Tl.crE t 8 nn mm = er at HD HCR
  generalize Tl.crH t 8 nn mm = hd at HCR
  obtain ⟨hs1, hg1⟩ := hd
  go_wp2_with fail
  refine HCR.out.mono ?_
  rintro e' w2 ⟨⟨a2, l2, p2, a3, l3, p3, rfl, hv⟩, hb⟩
  have hb3 := bOn hb (bOn ((Below.refl w2.heap.size w2).alloc (Nat.le_refl _) (.cells #[.slice a2 l2 p2, .slice a3 l3 p3] 25)) ((Below.refl (w2.alloc (.cells #[.slice a2 l2 p2, .slice a3 l3 p3] 25)).heap.size (w2.alloc (.cells #[.slice a2 l2 p2, .slice a3 l3 p3] 25))).alloc (Nat.le_refl _) (.cells #[.int .i64 hs1, .int .i64 hg1] 27)))
  have hb4 := bOn ((Below.refl w2.heap.size w2).alloc (Nat.le_refl _) (.cells #[.slice a2 l2 p2, .slice a3 l3 p3] 25)) ((Below.refl (w2.alloc (.cells #[.slice a2 l2 p2, .slice a3 l3 p3] 25)).heap.size (w2.alloc (.cells #[.slice a2 l2 p2, .slice a3 l3 p3] 25))).alloc (Nat.le_refl _) (.cells #[.int .i64 hs1, .int .i64 hg1] 27))
  have HX := Lib.hid (H2.out.below hb3)
  have HTB := Lib.hid (H0.out.below hb3)
  have HRB := Lib.hid (H1.out.below hb3)
  have HVO := Lib.hid (HV1.out.below hb3)
  have HBW := Lib.hid (HB.out.trans (hb3.mono HB.out.size))
  have HY := Lib.hid (And.intro ((Bt.new w2 (.slice a2 l2 p2) (.slice a3 l3 p3)).below ((Below.refl (w2.alloc (.cells #[.slice a2 l2 p2, .slice a3 l3 p3] 25)).heap.size (w2.alloc (.cells #[.slice a2 l2 p2, .slice a3 l3 p3] 25))).alloc (Nat.le_refl _) (.cells #[.int .i64 hs1, .int .i64 hg1] 27))) (hv.below hb4))
  clear hb hb3 hb4 hv HCR H0 H1 H2 HV1 HB x0 x1 hn hm d4
  go_upto_region 6 with fail
  generalize w2.heap.size = n2 at HY ⊢
  generalize (w2.alloc _).alloc _ = w3 at HY HX HTB HRB HVO HBW ⊢

  -- x is what was told
  obtain ⟨y0, y1⟩ := HY.out.1.cells
  obtain ⟨u0, u1⟩ := HX.out.cells
  have uf0 := HX.out.free 0
  have uf1 := HX.out.free 1
  have HX2 := Lib.hid (HX.out.set (.slice a2 l2 p2) (.slice a3 l3 p3))
  have HTV := Lib.hid (gives_set HY.out.2 HX.out rfl rfl)
  have HT2 := Lib.hid ((HTB.out.other (p := ⟨W.heap.size + 1 + 1, 0, none⟩) (v := .slice a2 l2 p2) (show W.heap.size ≠ W.heap.size + 1 + 1 by omega)).other (p := ⟨W.heap.size + 1 + 1, 1, none⟩) (v := .slice a3 l3 p3) (show W.heap.size ≠ W.heap.size + 1 + 1 by omega))
  have HR2 := Lib.hid ((HRB.out.other (p := ⟨W.heap.size + 1 + 1, 0, none⟩) (v := .slice a2 l2 p2) (show W.heap.size + 1 ≠ W.heap.size + 1 + 1 by omega)).other (p := ⟨W.heap.size + 1 + 1, 1, none⟩) (v := .slice a3 l3 p3) (show W.heap.size + 1 ≠ W.heap.size + 1 + 1 by omega))
  have HTO := Lib.hid (gives_tv HVO.out HX.out rfl rfl (.slice a2 l2 p2) (.slice a3 l3 p3) ⟨_, _, _, rfl⟩ ⟨_, _, _, rfl⟩)
  have HBL := Lib.hid ((HBW.out.setCell (p := ⟨W.heap.size + 1 + 1, 0, none⟩) (show W.heap.size ≤ W.heap.size + 1 + 1 by omega) (.slice a2 l2 p2)).setCell (p := ⟨W.heap.size + 1 + 1, 1, none⟩) (show W.heap.size ≤ W.heap.size + 1 + 1 by omega) (.slice a3 l3 p3))
  clear HX HY HTB HRB HVO HBW
  go_upto_region 15 with fail
  generalize (w3.setCell _ _).setCell _ _ = w4 at HX2 HTV HT2 HR2 HTO HBL ⊢
  clear y0 y1 u0 u1 uf0 uf1
  obtain ⟨x0, x1⟩ := HT2.out.cells
  obtain ⟨u0, u1⟩ := HX2.out.cells
  obtain ⟨r0, r1⟩ := HR2.out.cells
  have rf0 := HR2.out.free 0
  have rf1 := HR2.out.free 1
  by_cases he : er = 0
  · subst he
    have HF : Hid (GivesT W (doF t z) (.returned (.agg #[.slice a2 l2 p2, .slice a3 l3 p3])) ((w4.setCell ⟨W.heap.size + 1, 0, none⟩ (.slice a2 l2 p2)).setCell ⟨W.heap.size + 1, 1, none⟩ (.slice a3 l3 p3))) := Lib.hid (by
      rw [HD.out, if_pos rfl]
      exact ⟨⟨_, _, _, _, _, _, rfl, gives_set HTV.out HR2.out rfl rfl⟩, (HBL.out.setCell (p := ⟨W.heap.size + 1, 0, none⟩) (show W.heap.size ≤ W.heap.size + 1 by omega) _).setCell (p := ⟨W.heap.size + 1, 1, none⟩) (show W.heap.size ≤ W.heap.size + 1 by omega) _⟩)
    have HS := Lib.hid (HR2.out.set (.slice a2 l2 p2) (.slice a3 l3 p3))
    clear HD
    go_wp2
    obtain ⟨q0, q1⟩ := HS.out.cells
    exact bodyPost_ret (v := .agg #[.slice a2 l2 p2, .slice a3 l3 p3]) (by simp [results, Tryd.results32, go_sem, q0, q1]) rfl HF.out
  · have e1 : (er != 0) = true := by simp [he]
    have HF : Hid (GivesT W (doF t z) (.returned (.agg #[.slice a0 5 p0, .slice a1 5 p1])) ((w4.setCell ⟨W.heap.size + 1, 0, none⟩ (.slice a0 5 p0)).setCell ⟨W.heap.size + 1, 1, none⟩ (.slice a1 5 p1))) := Lib.hid (by
      rw [HD.out, if_neg he]
      exact ⟨⟨_, _, _, _, _, _, rfl, gives_set HTO.out HR2.out rfl rfl⟩, (HBL.out.setCell (p := ⟨W.heap.size + 1, 0, none⟩) (show W.heap.size ≤ W.heap.size + 1 by omega) _).setCell (p := ⟨W.heap.size + 1, 1, none⟩) (show W.heap.size ≤ W.heap.size + 1 by omega) _⟩)
    have HS := Lib.hid (HR2.out.set (.slice a0 5 p0) (.slice a1 5 p1))
    clear he HD
    go_wp2
    obtain ⟨q0, q1⟩ := HS.out.cells
    exact bodyPost_ret (v := .agg #[.slice a0 5 p0, .slice a1 5 p1]) (by simp [results, Tryd.results32, go_sem, q0, q1]) rfl HF.out
end Go.Proofs.YtjikabalpejmlaaDoor

namespace Go.Proofs.YtjikabalpejmlaaDoor
open Go.RowKit Go.Deep Pk Lf
open Mk (V allM cpus fstI anyB)

set_option maxHeartbeats 8000000 in
set_option maxRecDepth 100000 in
theorem do2_any (t : Tl.T) (z : Nat) (hz : z < 65536) (hz4 : ¬ z % 4 = 0) (hz32 : z % 32 = 1) (v : Value) (W : World) (hV : Tv W v t) (h5 : five t) :
    Calls Tryd.prog 32 #[v, .int .u16 (z : Int)] W (GivesT W (doF t z)) := by
  have HV := Lib.hid hV
  obtain ⟨c0, c1, rfl, hI, hK⟩ := hV
  have HA := Lib.hid (allocs_at [.cells #[c0, c1] 25, .cells #[.slice none 0 0, .slice none 0 0] 25, .cells #[.slice none 0 0, .slice none 0 0] 25] W)
  have HB := Lib.hid (allocs_below W [.cells #[c0, c1] 25, .cells #[.slice none 0 0, .slice none 0 0] 25, .cells #[.slice none 0 0, .slice none 0 0] 25])
  simp only [allocs] at HA HB
  have HI := Lib.hid hI
  obtain ⟨a0, p0, rfl, -, -, -⟩ := hI
  obtain ⟨a1, p1, rfl, -, -, -⟩ := hK
  have H5 := Lib.hid h5
  have hn0 : t.ws.length = 5 := h5.2
  have hn1 : t.ts.length = 5 := five_ts h5
  rw [hn0] at HV HA HB HI ⊢
  rw [hn1] at HV HA HB ⊢
  clear hn0 hn1 h5
  go_enter Tryd.func32, Tryd.ntmps32
  go_upto_region 1 with fail
  have hs : (z : Int) / 32 % 5 = ((dSlot z : Nat) : Int) := by unfold dSlot; omega
  have HSL : Hid (dSlot z < 5) := Lib.hid (Nat.mod_lt _ (by decide))
  go_upto_region 4 with fail
  generalize ((W.alloc _).alloc _).alloc _ = w1 at HA HB ⊢
  have h0 : Bt w1 W.heap.size _ _ := HA.out 0 _ rfl
  have h1 : Bt w1 (W.heap.size + 1) (.slice none 0 0) (.slice none 0 0) := HA.out 1 _ rfl
  have h2 : Bt w1 (W.heap.size + 1 + 1) (.slice none 0 0) (.slice none 0 0) := HA.out 2 _ rfl
  have HV1 := Lib.hid (HV.out.below HB.out)
  obtain ⟨x0, x1⟩ := h0.cells
  have H0 := Lib.hid h0
  have H1 := Lib.hid h1
  have H2 := Lib.hid h2
  clear h0 h1 h2 HA HV
  have d4 : ((z : Int) % 4 == 0) = false := by simp; omega
  have d32 : ((z : Int) % 32 == 1) = true := by simp; omega
  have HD : Hid (doF t z = if Tl.exE t (dSlot z : Nat) (G (Tl.W t (dSlot z))) = 0 then Tl.exT t (dSlot z : Nat) (G (Tl.W t (dSlot z))) else t) := Lib.hid (by unfold doF; rw [if_neg hz4, if_pos hz32])
  clear hz4 hz32
  generalize dSlot z = s at hs HD HSL
  rcases HI.out.parts with ⟨h, -⟩ | ⟨-, -, b, off, cap', hv, hbk, hc⟩
  · have := H5.out.2; rw [h] at this; cases this
  simp only [Value.slice.injEq] at hv
  obtain ⟨rfl, -, rfl⟩ := hv
  have hk0 : w1.cell? ⟨b, off + s, none⟩ = some (.int .u64 (Tl.W t s)) := (HB.out.cell (p := ⟨b, off + s, none⟩) hbk).trans (hc s (by rw [H5.out.2]; exact HSL.out))
  have HU : Hid (U (Tl.W t s)) := Lib.hid (HV1.out.U (by rw [H5.out.2]; exact HSL.out))
  have hs5 : s < 5 := HSL.out
  clear hbk hc
  generalize Tl.W t s = zz at hk0 HU HD
  have HEX : Hid (∀ Y, Below w1.heap.size w1 Y → Calls Tryd.prog 28 #[.agg #[.slice (some ⟨b, off, none⟩) 5 p0, .slice a1 5 p1], .agg #[.int .i64 (s : Int), .int .i64 (G zz)]] Y fun e w' => (∃ a0 l0 p0 a1 l1 p1, e = .returned (.tuple #[.agg #[.slice a0 l0 p0, .slice a1 l1 p1], .int .i64 (Tl.exE t (s : Int) (G zz))]) ∧ Tv w' (.agg #[.slice a0 l0 p0, .slice a1 l1 p1]) (Tl.exT t (s : Int) (G zz))) ∧ Below Y.heap.size Y w') := Lib.hid (fun Y hY => rexit_any t s (G zz) _ Y (HV1.out.below hY))
  generalize Tl.exT t (s : Int) (G zz) = tN at HD HEX
  generalize Tl.exE t (s : Int) (G zz) = er at HD HEX
  have HGS : Hid (∀ X, Below w1.heap.size w1 X → X.cell? ⟨W.heap.size, 0, none⟩ = some (.slice (some ⟨b, off, none⟩) 5 p0) ∧ X.cell? ⟨W.heap.size, 1, none⟩ = some (.slice a1 5 p1) ∧ X.cell? ⟨b, off + s, none⟩ = some (.int .u64 zz)) := Lib.hid (fun X hX => by
    have h := (H0.out.below hX).cells
    exact ⟨h.1, h.2, (hX.cell (p := ⟨b, off + s, none⟩) (World.block_lt_of_cell? w1 _ hk0)).trans hk0⟩)
  have HSA : Hid (∀ Y, Below w1.heap.size w1 Y → ∀ o, Below w1.heap.size w1 (Y.alloc o)) := Lib.hid (fun Y hY o => hY.alloc hY.size o)
  have HSS : Hid (∀ Y, Below w1.heap.size w1 Y → ∀ n u v, w1.heap.size ≤ n → Below w1.heap.size w1 ((Y.setCell ⟨n, 0, none⟩ u).setCell ⟨n, 1, none⟩ v)) := Lib.hid (fun Y hY n u v hn => (hY.setCell (p := ⟨n, 0, none⟩) hn u).setCell (p := ⟨n, 1, none⟩) hn v)
  have HT : Hid (∀ X Y, Below w1.heap.size w1 X → Below X.heap.size X Y → Below w1.heap.size w1 Y) := Lib.hid (fun X Y h1 h2 => bOn h1 h2)
  have hD0 : Below w1.heap.size w1 w1.drew := (Below.refl _ _).drew
  have hD1 : Below w1.heap.size w1 (w1.alloc (.cells #[.slice none 0 0, .slice none 0 0] 25)).drew := ((Below.refl _ _).alloc (Nat.le_refl _) _).drew
  have hx1 := HGS.out _ hD0
  have hsl : (s : Int) < 5 := by omega
  clear x0 x1 hk0
  have x0 := (HGS.out w1 (Below.refl _ _)).1
  go_upto_region 9 with fail
  rw [hs]
  clear hs
  go_cut [11, 12] (fun p q wx => q = .int .i64 er ∧ ∃ (n2 : Nat) (a2 : Option Addr) (l2 p2 : Nat) (a3 : Option Addr) (l3 p3 : Nat), p = .pointer (some ⟨n2, 0, none⟩) ∧ Hid ((Bt wx n2 (.slice a2 l2 p2) (.slice a3 l3 p3) ∧ Tv wx (.agg #[.slice a2 l2 p2, .slice a3 l3 p3]) tN) ∧ Below w1.heap.size w1 wx))
  case first =>
    clear x0
    go_region_held3 (fun X => X.cell? ⟨W.heap.size, 0, none⟩ = some (.slice (some ⟨b, off, none⟩) 5 p0) ∧ X.cell? ⟨W.heap.size, 1, none⟩ = some (.slice a1 5 p1) ∧ X.cell? ⟨b, off + s, none⟩ = some (.int .u64 zz))
      (first
        | exact hx1
        | (with_reducible exact HGS.out _ (by assumption))
        | (with_reducible exact HGS.out _ (HSA.out _ (by assumption) _))
        | (with_reducible exact HGS.out _ (HSS.out _ (by assumption) _ _ _ (Nat.le_refl _)))
        | go_keep)
      (first
        | (go_at_call 16; refine (rgen_any zz HU.out _).mono ?_; rintro e' w' ⟨rfl, rfl⟩)
        | (go_at_call 28; with_reducible refine (HEX.out _ hD0).mono ?_; rintro e' w2 ⟨⟨a2, l2, p2, a3, l3, p3, rfl, hv⟩, hb⟩; have hbX := HT.out _ _ hD0 hb)
        | (go_at_call 28; with_reducible refine (HEX.out _ hD1).mono ?_; rintro e' w2 ⟨⟨a2, l2, p2, a3, l3, p3, rfl, hv⟩, hb⟩; have hbX := HT.out _ _ hD1 hb; obtain ⟨q0, q1, q2, q3, q4, q5⟩ := kept_box hb))
    all_goals
      go_wp2_with fail
      go_meet
      first
        | exact ⟨rfl, _, _, _, _, _, _, _, rfl, Lib.hid ⟨⟨Bt.new _ _ _, hv.below ((Below.refl _ _).alloc (Nat.le_refl _) _)⟩, hbX.alloc hbX.size _⟩⟩
        | exact ⟨rfl, _, _, _, _, _, _, _, rfl, Lib.hid ⟨⟨q4.set _ _, gives_set hv q4 rfl rfl⟩, HSS.out _ hbX _ _ _ (Nat.le_refl _)⟩⟩
  case rest =>
    obtain ⟨rfl, n2, a2, l2, p2, a3, l3, p3, rfl, HC⟩ := hcut
    have HX := Lib.hid (H2.out.below HC.out.2)
    have HTB := Lib.hid (H0.out.below HC.out.2)
    have HRB := Lib.hid (H1.out.below HC.out.2)
    have HVO := Lib.hid (HV1.out.below HC.out.2)
    have HBW := Lib.hid (HB.out.trans (HC.out.2.mono HB.out.size))
    have HY := Lib.hid HC.out.1
    clear HC H0 H1 H2 HV1 HB HEX HGS HSA HSS HT hD0 hD1 hx1 x0 d4 d32
    generalize wc = w3 at HY HX HTB HRB HVO HBW ⊢

    -- x is what was told
    obtain ⟨y0, y1⟩ := HY.out.1.cells
    obtain ⟨u0, u1⟩ := HX.out.cells
    have uf0 := HX.out.free 0
    have uf1 := HX.out.free 1
    have HX2 := Lib.hid (HX.out.set (.slice a2 l2 p2) (.slice a3 l3 p3))
    have HTV := Lib.hid (gives_set HY.out.2 HX.out rfl rfl)
    have HT2 := Lib.hid ((HTB.out.other (p := ⟨W.heap.size + 1 + 1, 0, none⟩) (v := .slice a2 l2 p2) (show W.heap.size ≠ W.heap.size + 1 + 1 by omega)).other (p := ⟨W.heap.size + 1 + 1, 1, none⟩) (v := .slice a3 l3 p3) (show W.heap.size ≠ W.heap.size + 1 + 1 by omega))
    have HR2 := Lib.hid ((HRB.out.other (p := ⟨W.heap.size + 1 + 1, 0, none⟩) (v := .slice a2 l2 p2) (show W.heap.size + 1 ≠ W.heap.size + 1 + 1 by omega)).other (p := ⟨W.heap.size + 1 + 1, 1, none⟩) (v := .slice a3 l3 p3) (show W.heap.size + 1 ≠ W.heap.size + 1 + 1 by omega))
    have HTO := Lib.hid (gives_tv HVO.out HX.out rfl rfl (.slice a2 l2 p2) (.slice a3 l3 p3) ⟨_, _, _, rfl⟩ ⟨_, _, _, rfl⟩)
    have HBL := Lib.hid ((HBW.out.setCell (p := ⟨W.heap.size + 1 + 1, 0, none⟩) (show W.heap.size ≤ W.heap.size + 1 + 1 by omega) (.slice a2 l2 p2)).setCell (p := ⟨W.heap.size + 1 + 1, 1, none⟩) (show W.heap.size ≤ W.heap.size + 1 + 1 by omega) (.slice a3 l3 p3))
    clear HX HY HTB HRB HVO HBW
    go_upto_region 15 with fail
    generalize (w3.setCell _ _).setCell _ _ = w4 at HX2 HTV HT2 HR2 HTO HBL ⊢
    clear y0 y1 u0 u1 uf0 uf1
    obtain ⟨x0, x1⟩ := HT2.out.cells
    obtain ⟨u0, u1⟩ := HX2.out.cells
    obtain ⟨r0, r1⟩ := HR2.out.cells
    have rf0 := HR2.out.free 0
    have rf1 := HR2.out.free 1
    by_cases he : er = 0
    · subst he
      have HF : Hid (GivesT W (doF t z) (.returned (.agg #[.slice a2 l2 p2, .slice a3 l3 p3])) ((w4.setCell ⟨W.heap.size + 1, 0, none⟩ (.slice a2 l2 p2)).setCell ⟨W.heap.size + 1, 1, none⟩ (.slice a3 l3 p3))) := Lib.hid (by
        rw [HD.out, if_pos rfl]
        exact ⟨⟨_, _, _, _, _, _, rfl, gives_set HTV.out HR2.out rfl rfl⟩, (HBL.out.setCell (p := ⟨W.heap.size + 1, 0, none⟩) (show W.heap.size ≤ W.heap.size + 1 by omega) _).setCell (p := ⟨W.heap.size + 1, 1, none⟩) (show W.heap.size ≤ W.heap.size + 1 by omega) _⟩)
      have HS := Lib.hid (HR2.out.set (.slice a2 l2 p2) (.slice a3 l3 p3))
      clear HD
      go_wp2
      obtain ⟨q0, q1⟩ := HS.out.cells
      exact bodyPost_ret (v := .agg #[.slice a2 l2 p2, .slice a3 l3 p3]) (by simp [results, Tryd.results32, go_sem, q0, q1]) rfl HF.out
    · have e1 : (er != 0) = true := by simp [he]
      have HF : Hid (GivesT W (doF t z) (.returned (.agg #[.slice (some ⟨b, off, none⟩) 5 p0, .slice a1 5 p1])) ((w4.setCell ⟨W.heap.size + 1, 0, none⟩ (.slice (some ⟨b, off, none⟩) 5 p0)).setCell ⟨W.heap.size + 1, 1, none⟩ (.slice a1 5 p1))) := Lib.hid (by
        rw [HD.out, if_neg he]
        exact ⟨⟨_, _, _, _, _, _, rfl, gives_set HTO.out HR2.out rfl rfl⟩, (HBL.out.setCell (p := ⟨W.heap.size + 1, 0, none⟩) (show W.heap.size ≤ W.heap.size + 1 by omega) _).setCell (p := ⟨W.heap.size + 1, 1, none⟩) (show W.heap.size ≤ W.heap.size + 1 by omega) _⟩)
      have HS := Lib.hid (HR2.out.set (.slice (some ⟨b, off, none⟩) 5 p0) (.slice a1 5 p1))
      clear he HD
      go_wp2
      obtain ⟨q0, q1⟩ := HS.out.cells
      exact bodyPost_ret (v := .agg #[.slice (some ⟨b, off, none⟩) 5 p0, .slice a1 5 p1]) (by simp [results, Tryd.results32, go_sem, q0, q1]) rfl HF.out
end Go.Proofs.YtjikabalpejmlaaDoor

namespace Go.Proofs.YtjikabalpejmlaaDoor
open Go.RowKit Go.Deep Pk Lf
open Mk (V allM cpus fstI anyB)

set_option maxHeartbeats 8000000 in
set_option maxRecDepth 100000 in
theorem do3_any (t : Tl.T) (z : Nat) (hz : z < 65536) (hz4 : ¬ z % 4 = 0) (hz32 : ¬ z % 32 = 1) (v : Value) (W : World) (hV : Tv W v t) (h5 : five t) :
    Calls Tryd.prog 32 #[v, .int .u16 (z : Int)] W (GivesT W (doF t z)) := by
  have HV := Lib.hid hV
  obtain ⟨c0, c1, rfl, hI, hK⟩ := hV
  have HA := Lib.hid (allocs_at [.cells #[c0, c1] 25, .cells #[.slice none 0 0, .slice none 0 0] 25, .cells #[.slice none 0 0, .slice none 0 0] 25] W)
  have HB := Lib.hid (allocs_below W [.cells #[c0, c1] 25, .cells #[.slice none 0 0, .slice none 0 0] 25, .cells #[.slice none 0 0, .slice none 0 0] 25])
  simp only [allocs] at HA HB
  have HI := Lib.hid hI
  obtain ⟨a0, p0, rfl, -, -, -⟩ := hI
  obtain ⟨a1, p1, rfl, -, -, -⟩ := hK
  have H5 := Lib.hid h5
  have hn0 : t.ws.length = 5 := h5.2
  have hn1 : t.ts.length = 5 := five_ts h5
  rw [hn0] at HV HA HB HI ⊢
  rw [hn1] at HV HA HB ⊢
  clear hn0 hn1 h5
  go_enter Tryd.func32, Tryd.ntmps32
  go_upto_region 1 with fail
  have hs : (z : Int) / 32 % 5 = ((dSlot z : Nat) : Int) := by unfold dSlot; omega
  have HSL : Hid (dSlot z < 5) := Lib.hid (Nat.mod_lt _ (by decide))
  go_upto_region 4 with fail
  generalize ((W.alloc _).alloc _).alloc _ = w1 at HA HB ⊢
  have h0 : Bt w1 W.heap.size _ _ := HA.out 0 _ rfl
  have h1 : Bt w1 (W.heap.size + 1) (.slice none 0 0) (.slice none 0 0) := HA.out 1 _ rfl
  have h2 : Bt w1 (W.heap.size + 1 + 1) (.slice none 0 0) (.slice none 0 0) := HA.out 2 _ rfl
  have HV1 := Lib.hid (HV.out.below HB.out)
  obtain ⟨x0, x1⟩ := h0.cells
  have H0 := Lib.hid h0
  have H1 := Lib.hid h1
  have H2 := Lib.hid h2
  clear h0 h1 h2 HA HV
  have d4 : ((z : Int) % 4 == 0) = false := by simp; omega
  have d32 : ((z : Int) % 32 == 1) = false := by simp; omega
  have hv1 : (z : Int) / 256 % 16 = ((dEv z : Nat) : Int) := by unfold dEv; omega
  have hc1 : (z : Int) / 64 % 8 = ((dCpu z : Nat) : Int) := by unfold dCpu; omega
  have HD : Hid (doF t z = if Tl.stE t (dSlot z : Nat) (dEv z : Nat) (dCpu z : Nat) = 0 then Tl.stT t (dSlot z : Nat) (dEv z : Nat) (dCpu z : Nat) else t) := Lib.hid (by unfold doF; rw [if_neg hz4, if_neg hz32])
  have HST := Lib.hid (rstep_any t (dSlot z : Nat) (dEv z : Nat) (dCpu z : Nat) _ w1 HV1.out)
  clear hz4 hz32
  generalize dSlot z = s at hs HD HSL HST
  generalize dEv z = ev at hv1 HD HST
  generalize dCpu z = cp at hc1 HD HST
  generalize Tl.stT t (s : Int) (ev : Int) (cp : Int) = tN at HD HST
  generalize Tl.stE t (s : Int) (ev : Int) (cp : Int) = er at HD HST
  go_wp2_with fail
  refine HST.out.mono ?_
  rintro e' w2 ⟨⟨a2, l2, p2, a3, l3, p3, rfl, hv⟩, hb⟩
  have hb4 := (Below.refl w2.heap.size w2).alloc (Nat.le_refl _) (.cells #[.slice a2 l2 p2, .slice a3 l3 p3] 25)
  have hb3 := bOn hb hb4
  have HX := Lib.hid (H2.out.below hb3)
  have HTB := Lib.hid (H0.out.below hb3)
  have HRB := Lib.hid (H1.out.below hb3)
  have HVO := Lib.hid (HV1.out.below hb3)
  have HBW := Lib.hid (HB.out.trans (hb3.mono HB.out.size))
  have HY := Lib.hid (And.intro (Bt.new w2 (.slice a2 l2 p2) (.slice a3 l3 p3)) (hv.below hb4))
  clear hb hb3 hb4 hv HST H0 H1 H2 HV1 HB x0 x1 hv1 hc1 d4 d32
  go_upto_region 13 with fail
  generalize w2.heap.size = n2 at HY ⊢
  generalize w2.alloc _ = w3 at HY HX HTB HRB HVO HBW ⊢

  -- x is what was told
  obtain ⟨y0, y1⟩ := HY.out.1.cells
  obtain ⟨u0, u1⟩ := HX.out.cells
  have uf0 := HX.out.free 0
  have uf1 := HX.out.free 1
  have HX2 := Lib.hid (HX.out.set (.slice a2 l2 p2) (.slice a3 l3 p3))
  have HTV := Lib.hid (gives_set HY.out.2 HX.out rfl rfl)
  have HT2 := Lib.hid ((HTB.out.other (p := ⟨W.heap.size + 1 + 1, 0, none⟩) (v := .slice a2 l2 p2) (show W.heap.size ≠ W.heap.size + 1 + 1 by omega)).other (p := ⟨W.heap.size + 1 + 1, 1, none⟩) (v := .slice a3 l3 p3) (show W.heap.size ≠ W.heap.size + 1 + 1 by omega))
  have HR2 := Lib.hid ((HRB.out.other (p := ⟨W.heap.size + 1 + 1, 0, none⟩) (v := .slice a2 l2 p2) (show W.heap.size + 1 ≠ W.heap.size + 1 + 1 by omega)).other (p := ⟨W.heap.size + 1 + 1, 1, none⟩) (v := .slice a3 l3 p3) (show W.heap.size + 1 ≠ W.heap.size + 1 + 1 by omega))
  have HTO := Lib.hid (gives_tv HVO.out HX.out rfl rfl (.slice a2 l2 p2) (.slice a3 l3 p3) ⟨_, _, _, rfl⟩ ⟨_, _, _, rfl⟩)
  have HBL := Lib.hid ((HBW.out.setCell (p := ⟨W.heap.size + 1 + 1, 0, none⟩) (show W.heap.size ≤ W.heap.size + 1 + 1 by omega) (.slice a2 l2 p2)).setCell (p := ⟨W.heap.size + 1 + 1, 1, none⟩) (show W.heap.size ≤ W.heap.size + 1 + 1 by omega) (.slice a3 l3 p3))
  clear HX HY HTB HRB HVO HBW
  go_upto_region 15 with fail
  generalize (w3.setCell _ _).setCell _ _ = w4 at HX2 HTV HT2 HR2 HTO HBL ⊢
  clear y0 y1 u0 u1 uf0 uf1
  obtain ⟨x0, x1⟩ := HT2.out.cells
  obtain ⟨u0, u1⟩ := HX2.out.cells
  obtain ⟨r0, r1⟩ := HR2.out.cells
  have rf0 := HR2.out.free 0
  have rf1 := HR2.out.free 1
  by_cases he : er = 0
  · subst he
    have HF : Hid (GivesT W (doF t z) (.returned (.agg #[.slice a2 l2 p2, .slice a3 l3 p3])) ((w4.setCell ⟨W.heap.size + 1, 0, none⟩ (.slice a2 l2 p2)).setCell ⟨W.heap.size + 1, 1, none⟩ (.slice a3 l3 p3))) := Lib.hid (by
      rw [HD.out, if_pos rfl]
      exact ⟨⟨_, _, _, _, _, _, rfl, gives_set HTV.out HR2.out rfl rfl⟩, (HBL.out.setCell (p := ⟨W.heap.size + 1, 0, none⟩) (show W.heap.size ≤ W.heap.size + 1 by omega) _).setCell (p := ⟨W.heap.size + 1, 1, none⟩) (show W.heap.size ≤ W.heap.size + 1 by omega) _⟩)
    have HS := Lib.hid (HR2.out.set (.slice a2 l2 p2) (.slice a3 l3 p3))
    clear HD
    go_wp2
    obtain ⟨q0, q1⟩ := HS.out.cells
    exact bodyPost_ret (v := .agg #[.slice a2 l2 p2, .slice a3 l3 p3]) (by simp [results, Tryd.results32, go_sem, q0, q1]) rfl HF.out
  · have e1 : (er != 0) = true := by simp [he]
    have HF : Hid (GivesT W (doF t z) (.returned (.agg #[.slice a0 5 p0, .slice a1 5 p1])) ((w4.setCell ⟨W.heap.size + 1, 0, none⟩ (.slice a0 5 p0)).setCell ⟨W.heap.size + 1, 1, none⟩ (.slice a1 5 p1))) := Lib.hid (by
      rw [HD.out, if_neg he]
      exact ⟨⟨_, _, _, _, _, _, rfl, gives_set HTO.out HR2.out rfl rfl⟩, (HBL.out.setCell (p := ⟨W.heap.size + 1, 0, none⟩) (show W.heap.size ≤ W.heap.size + 1 by omega) _).setCell (p := ⟨W.heap.size + 1, 1, none⟩) (show W.heap.size ≤ W.heap.size + 1 by omega) _⟩)
    have HS := Lib.hid (HR2.out.set (.slice a0 5 p0) (.slice a1 5 p1))
    clear he HD
    go_wp2
    obtain ⟨q0, q1⟩ := HS.out.cells
    exact bodyPost_ret (v := .agg #[.slice a0 5 p0, .slice a1 5 p1]) (by simp [results, Tryd.results32, go_sem, q0, q1]) rfl HF.out
end Go.Proofs.YtjikabalpejmlaaDoor

namespace Go.Proofs.YtjikabalpejmlaaDoor
open Go.RowKit Go.Deep Pk Lf
open Mk (V allM cpus fstI anyB)

theorem do_any (t : Tl.T) (z : Nat) (hz : z < 65536) (v : Value) (W : World) (hV : Tv W v t) (h5 : five t) :
    Calls Tryd.prog 32 #[v, .int .u16 (z : Int)] W (GivesT W (doF t z)) := by
  by_cases h4 : z % 4 = 0
  · exact do1_any t z hz h4 v W hV h5
  · by_cases h32 : z % 32 = 1
    · exact do2_any t z hz h4 h32 v W hV h5
    · exact do3_any t z hz h4 h32 v W hV h5

set_option maxHeartbeats 8000000 in
set_option maxRecDepth 100000 in
theorem made_any (zs : List Int) (vl : Value) (W : World) (hl : Ints .u16 W vl zs) :
    Calls Tryd.prog 15 #[vl] W (GivesT W (madeT zs)) := by
  have HL0 := Lib.hid hl
  have HWF := Lib.hid hl.wf
  obtain ⟨a, cap, rfl, hm, -, -⟩ := hl
  obtain ⟨n, hn⟩ : ∃ n, zs.length = n := ⟨_, rfl⟩
  have HN := Lib.hid hn
  rw [hn] at HL0 hm ⊢
  clear hn
  have hq1 : n ≤ 9223372036854775807 := by unfold maxLen at hm; omega
  clear hm
  have hal := (Below.refl W.heap.size W).alloc (Nat.le_refl _) (.cells #[.slice none 0 0, .slice none 0 0] 25)
  have HR0 := Lib.hid (Bt.new W (.slice none 0 0) (.slice none 0 0))
  have HB0 := Lib.hid hal
  clear hal
  go_enter Tryd.func15, Tryd.ntmps15
  go_upto_region 1 with fail
  generalize W.alloc _ = w1 at HR0 HB0 ⊢
  go_wp2_with fail
  refine ((rnew_any 5 w1).mono fun _ _ h => h.gives).mono ?_
  rw [t5_new.1, t5_new.2]
  rintro e' w2 ⟨⟨a2, l2, p2, a3, l3, p3, rfl, hv⟩, hb⟩
  have hb3 := (Below.refl w2.heap.size w2).alloc (Nat.le_refl _) (.cells #[.slice a2 l2 p2, .slice a3 l3 p3] 25)
  have HR3 := Lib.hid (HR0.out.below (bOn hb hb3))
  have HB3 := Lib.hid (HB0.out.trans ((bOn hb hb3).mono HB0.out.size))
  have HV3 : Hid (Bv (w2.alloc (.cells #[.slice a2 l2 p2, .slice a3 l3 p3] 25)) w2.heap.size t5) := Lib.hid ⟨_, _, _, _, _, _, Bt.new w2 _ _, hv.below hb3⟩
  have HNE : Hid (W.heap.size < w2.heap.size) := Lib.hid (Nat.lt_of_lt_of_le HR0.out.lt hb.size)
  clear hb hb3 hv HR0 HB0
  go_upto_region 2 with fail
  generalize w2.heap.size = nb at HV3 HNE ⊢
  generalize w2.alloc _ = w3 at HV3 HR3 HB3 ⊢
  go_wp2
  go_loopw [5] (fun i wr => ∃ k : Nat, k ≤ n ∧ k ≤ 60 ∧ i = .int .i64 k ∧ Hid (Bv wr nb (madeK zs k) ∧ Bt wr W.heap.size (.slice none 0 0) (.slice none 0 0) ∧ Below W.heap.size W wr)) (fun i _ => 60 - (intOf i).toNat)
  case atStart => exact ⟨0, by omega, by omega, rfl, Lib.hid ⟨HV3.out, HR3.out, HB3.out⟩⟩
  case round =>
    obtain ⟨k, hk, hk60, rfl, HJ⟩ := hrel
    clear HV3 HR3 HB3
    have HV := Lib.hid HJ.out.1
    have HR := Lib.hid HJ.out.2.1
    have HB := Lib.hid HJ.out.2.2
    clear HJ
    by_cases hend : k < n ∧ k < 60
    case neg =>
      have HMT : Hid (madeT zs = madeK zs k) := Lib.hid (by unfold madeT; rw [HN.out]; congr 1; omega)
      obtain ⟨a2, l2, p2, a3, l3, p3, hbt, hv⟩ := HV.out
      obtain ⟨x0, x1⟩ := hbt.cells
      obtain ⟨r0, r1⟩ := HR.out.cells
      have rf0 := HR.out.free 0
      have rf1 := HR.out.free 1
      have HS := Lib.hid (HR.out.set (.slice a2 l2 p2) (.slice a3 l3 p3))
      have HF : Hid (GivesT W (madeT zs) (.returned (.agg #[.slice a2 l2 p2, .slice a3 l3 p3])) ((wr.setCell ⟨W.heap.size, 0, none⟩ (.slice a2 l2 p2)).setCell ⟨W.heap.size, 1, none⟩ (.slice a3 l3 p3))) := Lib.hid (by
        rw [HMT.out]
        exact ⟨⟨_, _, _, _, _, _, rfl, gives_set hv HR.out rfl rfl⟩, (HB.out.setCell (p := ⟨W.heap.size, 0, none⟩) (Nat.le_refl _) _).setCell (p := ⟨W.heap.size, 1, none⟩) (Nat.le_refl _) _⟩)
      clear hbt hv HV HR HB HL0 HWF
      by_cases h1 : k < n
      · obtain rfl : k = 60 := by omega
        go_wp2
        obtain ⟨q0, q1⟩ := HS.out.cells
        exact bodyPost_ret (v := .agg #[.slice a2 l2 p2, .slice a3 l3 p3]) (by simp [results, Tryd.results15, go_sem, q0, q1]) rfl HF.out
      · obtain rfl : k = n := by omega
        go_wp2
        obtain ⟨q0, q1⟩ := HS.out.cells
        exact bodyPost_ret (v := .agg #[.slice a2 l2 p2, .slice a3 l3 p3]) (by simp [results, Tryd.results15, go_sem, q0, q1]) rfl HF.out
    obtain ⟨hlt, hlt6⟩ := hend
    rcases HL0.out.parts with ⟨h, -⟩ | ⟨-, -, b, off, cap', hv, hbk, hc⟩
    · have := HN.out; rw [h] at this; simp at this; omega
    simp only [Value.slice.injEq] at hv
    obtain ⟨rfl, -, rfl⟩ := hv
    have k0 := (HB.out.cell (p := ⟨b, off + k, none⟩) hbk).trans (hc k (by rw [HN.out]; exact hlt))
    have hzb := bounds_u16 (HWF.out (zs.getD k 0) (by rw [List.getD_eq_getElem?_getD, List.getElem?_eq_getElem (by rw [HN.out]; exact hlt)]; exact List.getElem_mem _))
    have HSUC : Hid (madeK zs (k + 1) = doF (madeK zs k) (zs.getD k 0).toNat) := rfl
    have H5 := Lib.hid (madeK_five zs k)
    obtain ⟨z, hz⟩ : ∃ z : Nat, zs.getD k 0 = (z : Int) := ⟨(zs.getD k 0).toNat, by omega⟩
    rw [hz] at k0 hzb HSUC
    rw [Int.toNat_natCast] at HSUC
    have hz6 : z < 65536 := by omega
    clear hz hzb hbk hc
    obtain ⟨a2, l2, p2, a3, l3, p3, hbt, hv⟩ := HV.out
    have HBT := Lib.hid hbt
    obtain ⟨x0, x1⟩ := hbt.cells
    have HDO : Hid (Calls Tryd.prog 32 #[.agg #[.slice a2 l2 p2, .slice a3 l3 p3], .int .u16 (z : Int)] wr.drew fun e w' => (∃ a0 l0 p0 a1 l1 p1, e = .returned (.agg #[.slice a0 l0 p0, .slice a1 l1 p1]) ∧ Tv w' (.agg #[.slice a0 l0 p0, .slice a1 l1 p1]) (doF (madeK zs k) z)) ∧ Below wr.drew.heap.size wr.drew w') := Lib.hid (do_any _ z hz6 _ _ hv.drew H5.out)
    have HQ : Hid (∀ Y, Below wr.drew.heap.size wr.drew Y → Y.cell? ⟨nb, 0, none⟩ = some (.slice a2 l2 p2) ∧ Y.cell? ⟨nb, 1, none⟩ = some (.slice a3 l3 p3) ∧ Y.frozen? ⟨nb, 0, none⟩ = false ∧ Y.frozen? ⟨nb, 1, none⟩ = false) := Lib.hid (fun Y hY => by
      have h : Bt Y nb (.slice a2 l2 p2) (.slice a3 l3 p3) := HBT.out.below ⟨hY.os, hY.tape, hY.output, hY.size, hY.block⟩
      exact ⟨h.cells.1, h.cells.2, h.free 0, h.free 1⟩)
    have d1 : decide ((k : Int) < (n : Int)) = true := decide_eq_true (by omega)
    have d2 : decide ((k : Int) < 60) = true := decide_eq_true (by omega)
    clear hbt hv HV
    go_upto_region 5 with fail
    go_region_with (go_at_call 32; refine HDO.out.mono ?_; rintro e' w6 ⟨⟨a4, l4, p4, a5, l5, p5, rfl, hv6⟩, hb6⟩; clear x0 x1; obtain ⟨r0, r1, rf0, rf1⟩ := HQ.out _ hb6)
    all_goals
      have hb6' : Below wr.heap.size wr w6 := ⟨hb6.os, hb6.tape, hb6.output, hb6.size, hb6.block⟩
      have hbt := HBT.out.below hb6'
      have hw6 : Below W.heap.size W w6 := HB.out.trans (hb6'.mono HB.out.size)
      have HN1 : Hid (Bv ((w6.setCell ⟨nb, 0, none⟩ (.slice a4 l4 p4)).setCell ⟨nb, 1, none⟩ (.slice a5 l5 p5)) nb (madeK zs (k + 1))) := Lib.hid ⟨_, _, _, _, _, _, hbt.set _ _, by rw [HSUC.out]; exact gives_set hv6 hbt rfl rfl⟩
      have HN2 := Lib.hid (((HR.out.below hb6').other (p := ⟨nb, 0, none⟩) (v := .slice a4 l4 p4) (show W.heap.size ≠ nb by have := HNE.out; omega)).other (p := ⟨nb, 1, none⟩) (v := .slice a5 l5 p5) (show W.heap.size ≠ nb by have := HNE.out; omega))
      have HN3 := Lib.hid ((hw6.setCell (p := ⟨nb, 0, none⟩) (show W.heap.size ≤ nb by have := HNE.out; omega) (.slice a4 l4 p4)).setCell (p := ⟨nb, 1, none⟩) (show W.heap.size ≤ nb by have := HNE.out; omega) (.slice a5 l5 p5))
      clear hb6 hb6' hbt hw6 hv6 r0 r1 rf0 rf1 HR HB HBT HDO HQ
      go_wp2
      exact ⟨⟨k + 1, by omega, by omega, by go_num, Lib.hid ⟨HN1.out, HN2.out, HN3.out⟩⟩, by simp [intOf]; omega⟩
end Go.Proofs.YtjikabalpejmlaaDoor
