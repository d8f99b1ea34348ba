/-
  Layer 14's Step and Exit.
-/
import Derived.Test.YtjikabalpejmlaaDoorTlF
namespace Go.Proofs.YtjikabalpejmlaaDoor
open Go.RowKit Go.Deep Pk Lf
open Mk (V allM cpus fstI anyB)

/-- A number in a box. -/
def Bi (w : World) (n : Nat) (x : Int) : Prop := w.heap[n]? = some (.cells #[.int .i64 x] 3)
section
variable {w w' : World} {n : Nat} {x : Int}
theorem Bi.new (w : World) (x : Int) : Bi (w.alloc (.cells #[.int .i64 x] 3)) w.heap.size x := heap_alloc_new w _
theorem Bi.lt (h : Bi w n x) : n < w.heap.size := (Array.getElem?_eq_some_iff.1 h).1
theorem Bi.below (h : Bi w n x) {B : Nat} (hn : n < B) (hb : Below B w w') : Bi w' n x := (hb.block n hn).trans h
theorem Bi.cell (h : Bi w n x) : w.cell? ⟨n, 0, none⟩ = some (.int .i64 x) := by simp [World.cell?, show w.heap[n]? = _ from h]
end
theorem set_same (l : List Tl.Tk) (i : Nat) : l.set i (l.getD i Tl.k0) = l := by
  by_cases h : i < l.length
  · rw [List.getD_eq_getElem?_getD, List.getElem?_eq_getElem h]
    simp
  · exact List.set_eq_of_length_le (by omega)
theorem nx_wf {w ev cpu : Int} : (Lit.int .u64 (nxW w ev cpu)).wf = true := by
  have := nx_U (w := w) (ev := ev) (cpu := cpu)
  unfold U at this
  simp [Lit.wf, IntKind.min, IntKind.max, IntKind.signed, IntKind.bits]
  omega
theorem wf_set {l : List Int} {i : Nat} {z : Int} (h : ∀ x ∈ l, (Lit.int .u64 x).wf = true) (hz : (Lit.int .u64 z).wf = true) : ∀ x ∈ l.set i z, (Lit.int .u64 x).wf = true := fun x hx => by
  rcases List.mem_or_eq_of_mem_set hx with h1 | h1
  · exact h x h1
  · rw [h1]; exact hz
theorem ok_set {l : List Tl.Tk} {i : Nat} {z : Tl.Tk} (h : ∀ x ∈ l, encK.ok x) (hz : encK.ok z) : ∀ x ∈ l.set i z, encK.ok x := fun x hx => by
  rcases List.mem_or_eq_of_mem_set hx with h1 | h1
  · exact h x h1
  · rw [h1]; exact hz
/-- What the rows' box leaves. -/
theorem rows_box (X : World) (n0 n1 l : Nat) : Below X.heap.size X (X.alloc (.cells #[.slice (some ⟨n0, 0, none⟩) l l, .slice (some ⟨n1, 0, none⟩) l l] 66)) ∧
    Br (X.alloc (.cells #[.slice (some ⟨n0, 0, none⟩) l l, .slice (some ⟨n1, 0, none⟩) l l] 66)) X.heap.size (.slice (some ⟨n0, 0, none⟩) l l) (.slice (some ⟨n1, 0, none⟩) l l) :=
  ⟨(Below.refl _ _).alloc (Nat.le_refl _) _, Br.new X _ _⟩

/-! ### Step -/
set_option maxHeartbeats 4000000 in
set_option maxRecDepth 100000 in
theorem step_does (t : Tl.T) (W : World) (hT : Tab W) (hr : Tl.right t) (hU : ∀ i, i < t.ws.length → U (Tl.W t i)) (be bs bc : Nat) (s ev cpu : Int) (hwf : (Lit.int .i64 ev).wf = true)
    (he : Bi W be ev) (hs : Bi W bs s) (hc : Bi W bc cpu) :
    Does 44 #[.pointer (some ⟨be, 0, none⟩), .pointer (some ⟨bs, 0, none⟩), .pointer (some ⟨bc, 0, none⟩)] W t (Tl.stT t s ev cpu) (Tl.stE t s ev cpu) (fun _ => False) (fun _ => True) := by
  intro X n0 n1 hX hne hg0 hg1 hW hTd
  show Calls Tryd.prog 44 #[.agg #[.slice (some ⟨n0, 0, none⟩) t.ws.length t.ws.length, .slice (some ⟨n1, 0, none⟩) t.ws.length t.ws.length], .pointer (some ⟨be, 0, none⟩), .pointer (some ⟨bs, 0, none⟩), .pointer (some ⟨bc, 0, none⟩)] X _
  obtain ⟨hb1, hbr⟩ := rows_box X n0 n1 t.ws.length
  have HB1 := Lib.hid hb1
  have HX1 := Lib.hid (hX.trans (hb1.mono hX.size))
  have x0 := (he.below he.lt HX1.out).cell
  have x1 := (hs.below hs.lt HX1.out).cell
  have x2 := (hc.below hc.lt HX1.out).cell
  have HBR := Lib.hid hbr
  have HT1 := Lib.hid (hT.below HX1.out)
  have HW1 := Lib.hid (hW.below hb1)
  have HD1 := Lib.hid (hTd.below hb1)
  have HR := Lib.hid hr
  have HF := Lib.hid hwf
  have HNE := Lib.hid hne
  have HUU := Lib.hid hU
  clear hb1 hbr he hs hc hT hr hwf hW hTd hU hX
  go_enter Tryd.func44, Tryd.ntmps44
  go_upto_region 1 with fail
  generalize X.heap.size = rb at HBR ⊢
  generalize X.alloc _ = w1 at HB1 HX1 x0 x1 x2 HBR HT1 HW1 HD1 ⊢
  by_cases h0 : ev = 0 ∨ ev = 1
  · have HS : Hid (Tl.stE t s ev cpu = 1) := Lib.hid (Tl.stE_arg HR.out (fun h => by obtain ⟨-, a, b⟩ := h; rcases h0 with h | h; exact a h; exact b h))
    rcases h0 with rfl | rfl
    · go_wp2_with fail
      refine (need_no _ _).mono ?_
      rintro e' w' ⟨rfl, rfl⟩
      go_wp2
      rw [HS.out]
      exact ⟨rfl, But.of HB1.out, trivial, .inr ⟨by decide, rfl⟩⟩
    · go_wp2_with fail
      refine (need_no _ _).mono ?_
      rintro e' w' ⟨rfl, rfl⟩
      go_wp2
      rw [HS.out]
      exact ⟨rfl, But.of HB1.out, trivial, .inr ⟨by decide, rfl⟩⟩
  · have e0 : (ev != 0) = true := by simp; omega
    have e1 : (ev != 1) = true := by simp; omega
    by_cases hs : 0 ≤ s ∧ s < t.ws.length
    · obtain ⟨i, rfl⟩ : ∃ i : Nat, s = (i : Int) := ⟨s.toNat, by omega⟩
      have hi : i < t.ws.length := by omega
      have HS : Hid (Tl.stE t (i : Int) ev cpu = nxE (t.ws.getD i 0) ev cpu) := Lib.hid (by
        rw [Tl.stE_nx HR.out ⟨hs, fun h => h0 (.inl h), fun h => h0 (.inr h)⟩, Int.toNat_natCast]; rfl)
      have HP : Hid (nxE (t.ws.getD i 0) ev cpu = 0 → Tl.stT t (i : Int) ev cpu = Tl.put t i (nxW (t.ws.getD i 0) ev cpu) (t.ts.getD i Tl.k0)) := Lib.hid (fun h => by
        rw [Tl.st_yes (HS.out.trans h), Int.toNat_natCast]; rfl)
      have HPI := Lib.hid (pass_in w1 n0 n1 t.ws i hi ev cpu HF.out HT1.out HW1.out (HUU.out i hi))
      have HQ := Lib.hid (set_same t.ts i)
      generalize t.ws.getD i 0 = z at HS HP HPI
      generalize t.ts.getD i Tl.k0 = xk at HP HQ
      clear h0 hs
      go_wp2_with fail
      refine (need_yes _ _).mono ?_
      rintro e' w' ⟨rfl, rfl⟩
      obtain ⟨y0, y1⟩ := HBR.out.cells
      go_wp2_with fail
      refine HPI.out.mono ?_
      rintro e' w2 h
      rcases h with ⟨hz, rfl, Y, hY, rfl⟩ | ⟨hnz, rfl, hY⟩
      · have HZ := Lib.hid hz
        have HYY := Lib.hid hY
        clear hz hY x0 x1 x2 y0 y1
        go_wp2
        go_end0
        rw [HP.out HZ.out, HS.out]
        refine ⟨((But.of HB1.out).trans ((But.of HYY.out : But _ w1 Y).trans ?_)), trivial, .inl ⟨HZ.out, rfl, (HW1.out.below HYY.out).set i _, ?_⟩⟩
        · exact (But.of (Below.refl _ _)).set (p := ⟨n0, i, none⟩) (.inl rfl) _
        · show Td _ n1 (t.ts.set i xk)
          rw [HQ.out]
          exact (HD1.out.below HYY.out).other (a := ⟨n0, i, none⟩) (Ne.symm HNE.out)
      · have HZ := Lib.hid hnz
        have HYY := Lib.hid hY
        clear hnz hY x0 x1 x2 y0 y1
        go_wp2
        rw [HS.out]
        exact ⟨rfl, (But.of HB1.out).trans (But.of HYY.out), trivial, .inr ⟨HZ.out, rfl⟩⟩
    · have HS : Hid (Tl.stE t s ev cpu = 1) := Lib.hid (Tl.stE_arg HR.out (fun h => hs h.1))
      have HSS := Lib.hid hs
      clear h0 hs
      go_wp2_with fail
      refine (need_yes _ _).mono ?_
      rintro e' w' ⟨rfl, rfl⟩
      obtain ⟨y0, y1⟩ := HBR.out.cells
      go_wp2_with fail
      refine (pass_out w1 n0 n1 t.ws.length s ev cpu HSS.out).mono ?_
      rintro e' w2 ⟨rfl, hY⟩
      have HYY := Lib.hid hY
      clear hY x0 x1 x2 y0 y1
      go_wp2
      rw [HS.out]
      exact ⟨rfl, (But.of HB1.out).trans (But.of HYY.out), trivial, .inr ⟨by decide, rfl⟩⟩
end Go.Proofs.YtjikabalpejmlaaDoor
