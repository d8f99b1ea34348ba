/-
  Layer 14's Create.
-/
import Derived.Test.YtjikabalpejmlaaDoorTlJ
namespace Go.Proofs.YtjikabalpejmlaaDoor
open Go.RowKit Go.Deep Pk Lf
open Mk (V allM cpus fstI anyB)

theorem crT_ok {t : Tl.T} {c n : Int} {m : Nat} (hm : V m) {W : World} {v : Value} (hV : Tv W v t) (h : Tl.crE t c n m = 0) :
    (Tl.crT t c n m).ws.length = t.ws.length ∧ (Tl.crT t c n m).ts.length = t.ws.length ∧ (∀ z ∈ (Tl.crT t c n m).ws, (Lit.int .u64 z).wf = true) ∧ ∀ x ∈ (Tl.crT t c n m).ts, encK.ok x := by
  obtain ⟨hr, ⟨hc, hn, ha⟩, hv⟩ := Tl.crE_inv h
  rw [(Tl.cr_yes h).1]
  obtain ⟨c0, c1, -, hI, hK⟩ := hV
  exact ⟨(Tl.put_len _ _ _ _).1, (Tl.put_len _ _ _ _).2.trans hr.2.1, wf_set hI.wf nx_wf, ok_set hK.oks ⟨by unfold Ni; show _ ≤ n ∧ n ≤ _; omega, Tl.V_al hm, by unfold Ni; show _ ≤ (0 : Int) ∧ (0 : Int) ≤ _; decide⟩⟩
/-- What Create tells. -/
def TellsC (W : World) (t' : Tl.T) (h' : Tl.Hd) (er : Int) (e : Ending) (w' : World) : Prop := (∃ v', e = .returned (.tuple #[v', .agg #[.int .i64 h'.slot, .int .i64 h'.gen], .int .i64 er]) ∧ Tv w' v' t' ∧ Far W.heap.size v') ∧ Below W.heap.size W w'
set_option maxHeartbeats 8000000 in
set_option maxRecDepth 100000 in
theorem create_any' (t : Tl.T) (c n : Int) (m : Nat) (hm : V m) (v : Value) (W : World) (hV : Tv W v t) (hT : Tab W) (hTM : TabM W) :
    Calls Tryd.prog 17 #[v, .int .i64 c, .int .i64 n, .int .u64 (m : Int)] W (TellsC W (Tl.crT t c n m) (Tl.crH t c n m) (Tl.crE t c n m)) := by
  have hmf : ∀ (fn : Fn) (first cap : Array Value) (w : World), (Instr.makeFunc fn first cap).run Tryd.prog w = .ok (.func fn first cap) w := fun _ _ _ _ => rfl
  have HV := Lib.hid hV
  obtain ⟨c0, c1, rfl, hI, hK⟩ := hV
  have HWF := Lib.hid hI.wf
  have HA := Lib.hid (allocs_at [.cells #[c0, c1] 25, .cells #[.int .i64 c] 3, .cells #[.int .i64 n] 3, .cells #[.int .u64 (m : Int)] 28, .cells #[.slice none 0 0, .slice none 0 0] 25, .cells #[.int .i64 0, .int .i64 0] 27, .cells #[.int .i64 0, .int .i64 0] 27] W)
  have HB := Lib.hid (allocs_below W [.cells #[c0, c1] 25, .cells #[.int .i64 c] 3, .cells #[.int .i64 n] 3, .cells #[.int .u64 (m : Int)] 28, .cells #[.slice none 0 0, .slice none 0 0] 25, .cells #[.int .i64 0, .int .i64 0] 27, .cells #[.int .i64 0, .int .i64 0] 27])
  simp only [allocs] at HA HB
  have HT := Lib.hid (And.intro hT hTM)
  have HM := Lib.hid hm
  clear hT hTM hI hK hm
  go_enter Tryd.func17, Tryd.ntmps17
  go_upto_region 2 with fail
  generalize ((((((W.alloc _).alloc _).alloc _).alloc _).alloc _).alloc _).alloc _ = w1 at HA HB ⊢
  have h0 : Bt w1 W.heap.size c0 c1 := HA.out 0 _ rfl
  have h1 : Bi w1 (W.heap.size + 1) c := HA.out 1 _ rfl
  have h2 : Bi w1 (W.heap.size + 1 + 1) n := HA.out 2 _ rfl
  have h3 : Bm w1 (W.heap.size + 1 + 1 + 1) m := HA.out 3 _ rfl
  have h4 : Bt w1 (W.heap.size + 1 + 1 + 1 + 1) (.slice none 0 0) (.slice none 0 0) := HA.out 4 _ rfl
  have h5 : Bh w1 (W.heap.size + 1 + 1 + 1 + 1 + 1) Tl.h0 := HA.out 5 _ rfl
  have h6 : Bh w1 (W.heap.size + 1 + 1 + 1 + 1 + 1 + 1) Tl.h0 := HA.out 6 _ rfl
  have HR4 := Lib.hid (And.intro h4 h5)
  have HLT := Lib.hid h6.lt
  have HV1 := Lib.hid (HV.out.below HB.out)
  have HT1 := Lib.hid (HT.out.1.below HB.out)
  have HTM1 := Lib.hid (HT.out.2.below HB.out)
  have HCH : Hid (Calls Tryd.prog 33 #[.agg #[c0, c1], .func (.func 34) #[] #[.pointer (some ⟨W.heap.size + 1 + 1 + 1, 0, none⟩), .pointer (some ⟨W.heap.size + 1, 0, none⟩), .pointer (some ⟨W.heap.size + 1 + 1, 0, none⟩), .pointer (some ⟨W.heap.size + 1 + 1 + 1 + 1 + 1 + 1, 0, none⟩)]] w1 fun e w' =>
      (∃ v', e = .returned (.tuple #[v', .int .i64 (Tl.crE t c n m)]) ∧ Tv w' v' (Tl.crT t c n m) ∧ Far w1.heap.size v') ∧ But (fun j => j = W.heap.size + 1 + 1 + 1 + 1 + 1 + 1) w1 w' ∧ Bh w' (W.heap.size + 1 + 1 + 1 + 1 + 1 + 1) (Tl.crH t c n m)) := Lib.hid (by
    by_cases hr : Tl.right t
    · refine (change_do t (Tl.crT t c n m) _ w1 HV1.out HT1.out hr 34 _ (Tl.crE t c n m) (fun j => j = W.heap.size + 1 + 1 + 1 + 1 + 1 + 1) (fun Y => Bh Y (W.heap.size + 1 + 1 + 1 + 1 + 1 + 1) (Tl.crH t c n m)) (enters_of Tryd.func34 (by kernel_rfl) rfl) (fun i h => by rw [h]; exact HLT.out) (fun X Y h hx => (h _ HLT.out).trans hx) (create_does t w1 HT1.out HTM1.out hr HWF.out _ _ _ _ c n m HM.out h3 h1 h2 h6) (fun h => crT_ok HM.out HV1.out h)).mono ?_
      rintro e w' ⟨hb, hR, h | ⟨hn, rfl⟩⟩
      · obtain ⟨hz, v', rfl, hv, hf⟩ := h
        exact ⟨⟨v', by rw [hz], hv, hf⟩, hb, hR⟩
      · exact ⟨⟨_, rfl, by rw [(Tl.cr_no hn).1]; exact Tv.zero _, Far.zero _⟩, hb, hR⟩
    · have e4 : Tl.crE t c n m = 4 := Tl.crE_left hr
      refine (change_no t _ _ w1 HV1.out HT1.out hr).mono ?_
      rintro e w' ⟨rfl, hb⟩
      exact ⟨⟨_, by rw [e4], by rw [(Tl.cr_no (by rw [e4]; decide)).1]; exact Tv.zero _, Far.zero _⟩, But.of hb, by rw [(Tl.cr_no (by rw [e4]; decide)).2]; exact h6.below hb⟩)
  obtain ⟨x0, x1⟩ := h0.cells
  clear h0 h1 h2 h3 h4 h5 h6 HA HV HT HT1 HTM1 HV1 HWF HM
  go_wp2_with fail
  refine HCH.out.mono ?_
  rintro e w' ⟨⟨v', rfl, hv, hf⟩, hb, hh⟩
  obtain ⟨a0, l0, p0, a1, l1, p1, rfl, -, -⟩ := id hf
  have hbW : Below W.heap.size W w' := HB.out.trans (hb.below HB.out.size (fun i h => by rw [h]; omega))
  have ht4 : Bt w' (W.heap.size + 1 + 1 + 1 + 1) (.slice none 0 0) (.slice none 0 0) := (hb.block _ HR4.out.1.lt (by omega)).trans HR4.out.1
  have hh5 : Bh w' (W.heap.size + 1 + 1 + 1 + 1 + 1) Tl.h0 := (hb.block _ HR4.out.2.lt (by omega)).trans HR4.out.2
  obtain ⟨hs, hg, hhd⟩ : ∃ hs hg, Tl.crH t c n m = ⟨hs, hg⟩ := ⟨_, _, rfl⟩
  rw [hhd] at hh
  have HHD := Lib.hid hhd
  clear hhd
  have hal := (Below.refl w'.heap.size w').alloc (Nat.le_refl _) (.cells #[.slice a0 l0 p0, .slice a1 l1 p1] 25)
  have HT8 := Lib.hid (ht4.below hal)
  have HH8 := Lib.hid (hh5.below hal)
  have HHB := Lib.hid (hh.below hal)
  have HMB := Lib.hid (Bt.new w' (.slice a0 l0 p0) (.slice a1 l1 p1))
  have HBW := Lib.hid (hbW.trans (hal.mono hbW.size))
  have HVV := Lib.hid (hv.below hal)
  have HFF := Lib.hid hf
  have HSZ : Hid (w1.heap.size ≤ w'.heap.size ∧ W.heap.size ≤ w1.heap.size) := Lib.hid ⟨hb.size, HB.out.size⟩
  clear hb hh hv hf hbW ht4 hh5 hal HCH x0 x1 HR4 HB
  go_upto_region 3 with fail
  generalize w'.heap.size = mb at HMB HSZ ⊢
  generalize w'.alloc _ = w2 at HT8 HH8 HHB HMB HBW HVV ⊢
  obtain ⟨m0, m1⟩ := HMB.out.cells
  obtain ⟨b0, b1⟩ := HHB.out.cells
  obtain ⟨t80, t81⟩ := HT8.out.cells
  have t8f0 := HT8.out.free 0
  have t8f1 := HT8.out.free 1
  obtain ⟨h80, h81⟩ := HH8.out.cells
  have h8f0 := HH8.out.free 0
  have h8f1 := HH8.out.free 1
  have HE : Hid (∀ w9 : World, w9 = ((((w2.setCell ⟨W.heap.size + 1 + 1 + 1 + 1, 0, none⟩ (.slice a0 l0 p0)).setCell ⟨W.heap.size + 1 + 1 + 1 + 1, 1, none⟩ (.slice a1 l1 p1)).setCell ⟨W.heap.size + 1 + 1 + 1 + 1 + 1, 0, none⟩ (.int .i64 hs)).setCell ⟨W.heap.size + 1 + 1 + 1 + 1 + 1, 1, none⟩ (.int .i64 hg)).drew ∨
      w9 = ((((w2.setCell ⟨W.heap.size + 1 + 1 + 1 + 1 + 1, 0, none⟩ (.int .i64 hs)).setCell ⟨W.heap.size + 1 + 1 + 1 + 1 + 1, 1, none⟩ (.int .i64 hg)).setCell ⟨W.heap.size + 1 + 1 + 1 + 1, 0, none⟩ (.slice a0 l0 p0)).setCell ⟨W.heap.size + 1 + 1 + 1 + 1, 1, none⟩ (.slice a1 l1 p1)).drew →
      Bt w9 (W.heap.size + 1 + 1 + 1 + 1) (.slice a0 l0 p0) (.slice a1 l1 p1) ∧ Bh w9 (W.heap.size + 1 + 1 + 1 + 1 + 1) ⟨hs, hg⟩ ∧ Below W.heap.size W w9 ∧ Tv w9 (.agg #[.slice a0 l0 p0, .slice a1 l1 p1]) (Tl.crT t c n m)) := Lib.hid (by
    have i4 : W.heap.size + 1 + 1 + 1 + 1 < w1.heap.size := by have := HLT.out; omega
    have i5 : W.heap.size + 1 + 1 + 1 + 1 + 1 < w1.heap.size := by have := HLT.out; omega
    intro w9 h
    rcases h with rfl | rfl
    · exact ⟨((HT8.out.set _ _).other (p := ⟨W.heap.size + 1 + 1 + 1 + 1 + 1, 0, none⟩) (show W.heap.size + 1 + 1 + 1 + 1 ≠ W.heap.size + 1 + 1 + 1 + 1 + 1 by omega)).other (p := ⟨W.heap.size + 1 + 1 + 1 + 1 + 1, 1, none⟩) (show W.heap.size + 1 + 1 + 1 + 1 ≠ W.heap.size + 1 + 1 + 1 + 1 + 1 by omega),
        ((HH8.out.other (p := ⟨W.heap.size + 1 + 1 + 1 + 1, 0, none⟩) (show W.heap.size + 1 + 1 + 1 + 1 + 1 ≠ W.heap.size + 1 + 1 + 1 + 1 by omega)).other (p := ⟨W.heap.size + 1 + 1 + 1 + 1, 1, none⟩) (show W.heap.size + 1 + 1 + 1 + 1 + 1 ≠ W.heap.size + 1 + 1 + 1 + 1 by omega)).set ⟨hs, hg⟩,
        ((((HBW.out.setCell (p := ⟨W.heap.size + 1 + 1 + 1 + 1, 0, none⟩) (show W.heap.size ≤ W.heap.size + 1 + 1 + 1 + 1 by omega) _).setCell (p := ⟨W.heap.size + 1 + 1 + 1 + 1, 1, none⟩) (show W.heap.size ≤ W.heap.size + 1 + 1 + 1 + 1 by omega) _).setCell (p := ⟨W.heap.size + 1 + 1 + 1 + 1 + 1, 0, none⟩) (show W.heap.size ≤ W.heap.size + 1 + 1 + 1 + 1 + 1 by omega) _).setCell (p := ⟨W.heap.size + 1 + 1 + 1 + 1 + 1, 1, none⟩) (show W.heap.size ≤ W.heap.size + 1 + 1 + 1 + 1 + 1 by omega) _).drew,
        (((HVV.out.off HFF.out (p := ⟨W.heap.size + 1 + 1 + 1 + 1, 0, none⟩) i4 _).off HFF.out (p := ⟨W.heap.size + 1 + 1 + 1 + 1, 1, none⟩) i4 _).off HFF.out (p := ⟨W.heap.size + 1 + 1 + 1 + 1 + 1, 0, none⟩) i5 _).off HFF.out (p := ⟨W.heap.size + 1 + 1 + 1 + 1 + 1, 1, none⟩) i5 _⟩
    · exact ⟨((HT8.out.other (p := ⟨W.heap.size + 1 + 1 + 1 + 1 + 1, 0, none⟩) (show W.heap.size + 1 + 1 + 1 + 1 ≠ W.heap.size + 1 + 1 + 1 + 1 + 1 by omega)).other (p := ⟨W.heap.size + 1 + 1 + 1 + 1 + 1, 1, none⟩) (show W.heap.size + 1 + 1 + 1 + 1 ≠ W.heap.size + 1 + 1 + 1 + 1 + 1 by omega)).set _ _,
        ((HH8.out.set ⟨hs, hg⟩).other (p := ⟨W.heap.size + 1 + 1 + 1 + 1, 0, none⟩) (show W.heap.size + 1 + 1 + 1 + 1 + 1 ≠ W.heap.size + 1 + 1 + 1 + 1 by omega)).other (p := ⟨W.heap.size + 1 + 1 + 1 + 1, 1, none⟩) (show W.heap.size + 1 + 1 + 1 + 1 + 1 ≠ W.heap.size + 1 + 1 + 1 + 1 by omega),
        ((((HBW.out.setCell (p := ⟨W.heap.size + 1 + 1 + 1 + 1 + 1, 0, none⟩) (show W.heap.size ≤ W.heap.size + 1 + 1 + 1 + 1 + 1 by omega) _).setCell (p := ⟨W.heap.size + 1 + 1 + 1 + 1 + 1, 1, none⟩) (show W.heap.size ≤ W.heap.size + 1 + 1 + 1 + 1 + 1 by omega) _).setCell (p := ⟨W.heap.size + 1 + 1 + 1 + 1, 0, none⟩) (show W.heap.size ≤ W.heap.size + 1 + 1 + 1 + 1 by omega) _).setCell (p := ⟨W.heap.size + 1 + 1 + 1 + 1, 1, none⟩) (show W.heap.size ≤ W.heap.size + 1 + 1 + 1 + 1 by omega) _).drew,
        (((HVV.out.off HFF.out (p := ⟨W.heap.size + 1 + 1 + 1 + 1 + 1, 0, none⟩) i5 _).off HFF.out (p := ⟨W.heap.size + 1 + 1 + 1 + 1 + 1, 1, none⟩) i5 _).off HFF.out (p := ⟨W.heap.size + 1 + 1 + 1 + 1, 0, none⟩) i4 _).off HFF.out (p := ⟨W.heap.size + 1 + 1 + 1 + 1, 1, none⟩) i4 _⟩)
  clear HT8 HH8 HHB HMB HBW HVV
  go_region
  all_goals
    have HF := Lib.hid (HE.out _ (by first | exact .inl rfl | exact .inr rfl))
    clear HE
    go_wp2
    obtain ⟨q, q2, q3, q4⟩ := HF.out
    obtain ⟨q0, q1⟩ := q.cells
    obtain ⟨r0, r1⟩ := q2.cells
    refine bodyPost_ret (v := .tuple #[.agg #[.slice a0 l0 p0, .slice a1 l1 p1], .agg #[.int .i64 hs, .int .i64 hg], .int .i64 (Tl.crE t c n m)]) (by simp [results, Tryd.results17, go_sem, q0, q1, r0, r1]) rfl ?_
    rw [HHD.out]
    exact ⟨⟨_, rfl, q4, HFF.out.mono HSZ.out.2⟩, q3⟩
end Go.Proofs.YtjikabalpejmlaaDoor
