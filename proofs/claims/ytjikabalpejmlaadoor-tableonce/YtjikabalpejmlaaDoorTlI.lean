/-
  Layer 14's Exit, whole.
-/
import Derived.Test.YtjikabalpejmlaaDoorTlH
namespace Go.Proofs.YtjikabalpejmlaaDoor
open Go.RowKit Go.Deep Pk Lf
open Mk (V allM cpus fstI anyB)

theorem Bh.other {w : World} {n : Nat} {x : Tl.Hd} (h : Bh w n x) {p : Addr} {v : Value} (hne : n ≠ p.block) : Bh (w.setCell p v) n x := (Below.heap_setCell _ _ _ _ hne).trans h
/-- A task is stored whole. -/
def setTask (w : World) (n i : Nat) (x : Tl.Tk) : World := ((w.setCell ⟨n, i * 3, none⟩ (.int .i64 x.nice)).setCell ⟨n, i * 3 + 1, none⟩ (.int .u64 (x.mask : Int))).setCell ⟨n, i * 3 + 2, none⟩ (.int .i64 x.lag)
theorem But.task {S : Nat → Prop} {X Y : World} (h : But S X Y) {n : Nat} (hn : S n) (i : Nat) (x : Tl.Tk) : But S X (setTask Y n i x) :=
  ((h.set (p := ⟨n, i * 3, none⟩) hn _).set (p := ⟨n, i * 3 + 1, none⟩) hn _).set (p := ⟨n, i * 3 + 2, none⟩) hn _
theorem Wd.task {w : World} {m n : Nat} {ws : List Int} (h : Wd w m ws) (hne : m ≠ n) (i : Nat) (x : Tl.Tk) : Wd (setTask w n i x) m ws :=
  ((h.other (a := ⟨n, i * 3, none⟩) hne).other (a := ⟨n, i * 3 + 1, none⟩) hne).other (a := ⟨n, i * 3 + 2, none⟩) hne
set_option maxHeartbeats 4000000 in
set_option maxRecDepth 100000 in
theorem exit_does (t : Tl.T) (W : World) (hT : Tab W) (hr : Tl.right t) (c0 c1 : Value) (hV : Tv W (.agg #[c0, c1]) t) (bt bh : Nat) (s g : Int) (ht : Bt W bt c0 c1) (hh : Bh W bh ⟨s, g⟩) :
    Does 43 #[.pointer (some ⟨bt, 0, none⟩), .pointer (some ⟨bh, 0, none⟩)] W t (Tl.exT t s g) (Tl.exE t s g) (fun _ => False) (fun _ => True) := by
  intro X n0 n1 hX hne hg0 hg1 hW hTd
  show Calls Tryd.prog 43 #[.agg #[.slice (some ⟨n0, 0, none⟩) t.ws.length t.ws.length, .slice (some ⟨n1, 0, none⟩) t.ws.length t.ws.length], .pointer (some ⟨bt, 0, none⟩), .pointer (some ⟨bh, 0, none⟩)] X _
  obtain ⟨hb1, hbr⟩ := rows_box X n0 n1 t.ws.length
  have HB1 := Lib.hid hb1
  have HX1 := Lib.hid (hX.trans (hb1.mono hX.size))
  have HBT := Lib.hid (ht.below HX1.out)
  have HBH := Lib.hid (hh.below HX1.out)
  have HV1 := Lib.hid (hV.below HX1.out)
  have HBR := Lib.hid hbr
  have HT1 := Lib.hid (hT.below HX1.out)
  have HW1 := Lib.hid (hW.below hb1)
  have HD1 := Lib.hid (hTd.below hb1)
  have HR := Lib.hid hr
  have HNE := Lib.hid hne
  have HUU := Lib.hid (fun i hi => hV.U (i := i) hi)
  clear hb1 hbr ht hh hT hr hW hTd hX hV
  go_enter Tryd.func43, Tryd.ntmps43
  go_upto_region 1 with fail
  generalize X.heap.size = rb at HBR ⊢
  generalize X.alloc _ = w1 at HB1 HX1 HBT HBH HV1 HBR HT1 HW1 HD1 ⊢
  obtain ⟨x0, x1⟩ := HBT.out.cells
  obtain ⟨y0, y1⟩ := HBH.out.cells
  obtain ⟨ec, hec⟩ : ∃ ec, Tl.chk t s g = ec := ⟨_, rfl⟩
  have HCK := Lib.hid (check_any t s g _ w1 HV1.out HT1.out)
  rw [hec] at HCK
  have HEC := Lib.hid hec
  clear hec
  go_wp2_with fail
  refine HCK.out.mono ?_
  rintro e' w2 ⟨rfl, hb2⟩
  have HB2 := Lib.hid hb2
  have HW2 := Lib.hid (HW1.out.below hb2)
  have HD2 := Lib.hid (HD1.out.below hb2)
  have HT2 := Lib.hid (HT1.out.below hb2)
  have HBH2 := Lib.hid (HBH.out.below hb2)
  have HBR2 := Lib.hid ((HBR.out.below hb2 : Br w2 rb _ _))
  clear hb2 x0 x1 y0 y1 HBT HBH HV1 HBR HT1 HW1 HD1 HCK
  by_cases hz : ec = 0
  · subst hz
    obtain ⟨i, rfl, hi, -, -⟩ := Tl.chk_zero HEC.out
    have HS : Hid (Tl.exE t (i : Int) g = nxE (t.ws.getD i 0) 1 0) := Lib.hid (by rw [Tl.exE_nx HR.out HEC.out, Int.toNat_natCast]; rfl)
    have HP : Hid (nxE (t.ws.getD i 0) 1 0 = 0 → Tl.exT t (i : Int) g = Tl.put t i (nxW (t.ws.getD i 0) 1 0) Tl.k0) := Lib.hid (fun h => by
      rw [Tl.ex_yes (HS.out.trans h), Int.toNat_natCast]; rfl)
    have HPI := Lib.hid (pass_in w2 n0 n1 t.ws i hi 1 0 (by decide) HT2.out HW2.out (HUU.out i hi))
    generalize t.ws.getD i 0 = z at HS HP HPI
    go_wp2_with fail
    refine (need_yes _ _).mono ?_
    rintro e' w' ⟨rfl, rfl⟩
    obtain ⟨x0, x1⟩ := HBR2.out.cells
    obtain ⟨y0, y1⟩ := HBH2.out.cells
    go_wp2_with fail
    refine HPI.out.mono ?_
    rintro e' w3 h
    rcases h with ⟨hz, rfl, Y, hY, rfl⟩ | ⟨hnz, rfl, hY⟩
    · have HZ := Lib.hid hz
      have HYB : Hid (But (fun j => j = n0 ∨ j = n1 ∨ False) w2 (Y.setCell ⟨n0, i, none⟩ (.int .u64 (nxW z 1 0)))) := Lib.hid ((But.of hY).set (p := ⟨n0, i, none⟩) (.inl rfl) _)
      have HW3 := Lib.hid ((HW2.out.below hY).set i (nxW z 1 0))
      have HD3 := Lib.hid ((HD2.out.below hY).other (a := ⟨n0, i, none⟩) (v := .int .u64 (nxW z 1 0)) (Ne.symm HNE.out))
      have HBR3 : Hid (Br (Y.setCell ⟨n0, i, none⟩ (.int .u64 (nxW z 1 0))) rb _ _) := Lib.hid ((HBR2.out.below hY).other (p := ⟨n0, i, none⟩) (v := .int .u64 (nxW z 1 0)) (by
        intro e
        have e : rb = n0 := e
        have a := HBR2.out
        have b := HW2.out
        unfold Br at a; unfold Wd at b
        rw [e, b] at a
        simp only [Option.some.injEq, Obj.cells.injEq] at a
        exact absurd a.2.1 (by decide)))
      have HBH3 : Hid (Bh (Y.setCell ⟨n0, i, none⟩ (.int .u64 (nxW z 1 0))) bh ⟨(i : Int), g⟩) := Lib.hid (((HBH2.out.below hY).other (p := ⟨n0, i, none⟩) (v := .int .u64 (nxW z 1 0)) (by
        intro e
        have e : bh = n0 := e
        have a := HBH2.out
        have b := HW2.out
        unfold Bh at a; unfold Wd at b
        rw [e, b] at a
        simp only [Option.some.injEq, Obj.cells.injEq] at a
        exact absurd a.2.1 (by decide))))
      clear hz hY x0 x1 y0 y1 HBR2 HBH2
      have HLT : Hid (i < t.ts.length) := Lib.hid (by rw [HR.out.2.1]; exact hi)
      go_upto_region 4 with fail
      generalize Y.setCell _ _ = w4 at HYB HW3 HD3 HBR3 HBH3 ⊢
      obtain ⟨x0, x1⟩ := HBR3.out.cells
      obtain ⟨y0, y1⟩ := HBH3.out.cells
      go_wp2_with fail
      refine (at_yes w4 n0 n1 t.ws.length i hi).mono ?_
      rintro e' w5 ⟨rfl, hb5⟩
      have hd := HD3.out.below hb5
      obtain ⟨d0, d1, d2⟩ := hd.cell HLT.out
      have f0 := hd.free (i * 3)
      have f1 := hd.free (i * 3 + 1)
      have f2 := hd.free (i * 3 + 2)
      have HW5 := Lib.hid (HW3.out.below hb5)
      have HD5 := Lib.hid (hd.set HLT.out Tl.k0)
      have HB5 := Lib.hid (HYB.out.trans (But.of hb5))
      clear hb5 hd x0 x1 y0 y1 HD3 HW3 HBR3 HBH3
      go_wp2
      go_end0
      rw [HP.out HZ.out, HS.out]
      exact ⟨((But.of HB1.out).trans ((But.of HB2.out).trans (HB5.out.task (n := n1) (.inr (.inl rfl)) i Tl.k0))), trivial, .inl ⟨HZ.out, rfl, HW5.out.task HNE.out i Tl.k0, HD5.out⟩⟩
    · have HZ := Lib.hid hnz
      have HYY := Lib.hid hY
      clear hnz hY x0 x1 y0 y1
      go_wp2
      rw [HS.out]
      exact ⟨rfl, (But.of HB1.out).trans ((But.of HB2.out).trans (But.of HYY.out)), trivial, .inr ⟨HZ.out, rfl⟩⟩
  · have HZ := Lib.hid hz
    have HS : Hid (Tl.exE t s g = ec) := Lib.hid (by rw [Tl.exE_chk HR.out (by rw [HEC.out]; exact hz), HEC.out])
    have e1 : (ec == 0) = false := by simp [hz]
    clear hz
    go_wp2_with fail
    refine (need_no _ _).mono ?_
    rintro e' w' ⟨rfl, rfl⟩
    go_wp2
    rw [HS.out]
    exact ⟨rfl, (But.of HB1.out).trans (But.of HB2.out), trivial, .inr ⟨HZ.out, rfl⟩⟩
end Go.Proofs.YtjikabalpejmlaaDoor
