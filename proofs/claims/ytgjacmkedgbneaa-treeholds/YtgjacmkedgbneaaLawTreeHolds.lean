/-
  TreeHolds returns true at every input, and turns nothing that was there: whatever is put in and taken out, the tree is right, and its walk is the keys, sorted.
-/
import Derived.Test.YtgjacmkedgbneaaTwY
import Derived.Test.YtgjacmkedgbneaaPost
import Derived.Deep.DeepCutAuto
import Derived.Deep.LoopGhost
namespace Go.Proofs.Ytgjacmkedgbneaa.treeHolds
open Go.ChangeShapes Go.WideShapes Go.ChangeAt Go.RowKit Go.Sort Wd Tn Ky Tr

theorem Nds_other {w : World} {v : Value} {l : List N} {q o n c : Nat} {x : Int} {a : Option Addr} {ty : TypeId} {y : Value} (h : Nds w v l) (hT : Tb w q x (.slice a n c) ty) : Nds (w.setCell ⟨q, o, none⟩ y) v l := by
  obtain ⟨a', cap, rfl, hm, hw, hc⟩ := h
  refine ⟨a', cap, rfl, hm, hw, fun hz => ?_⟩
  obtain ⟨b, off, rfl, hc2⟩ := hc hz
  have hne : b ≠ q := by
    rintro rfl
    have h0 := (hc2 0 (List.length_pos_iff.2 hz)).1
    have hT' : w.heap[b]? = _ := hT
    simp only [World.cell?, hT'] at h0
    rcases (show off + 0 * 6 = 0 ∨ off + 0 * 6 = 1 ∨ 2 ≤ off + 0 * 6 by omega) with e | e | e
    · rw [e] at h0; simp at h0
    · rw [e] at h0; simp at h0
    · rw [Array.getElem?_eq_none (by simpa using e)] at h0; cases h0
  refine ⟨b, off, rfl, fun i hi => ?_⟩
  have e : ∀ k, (w.setCell ⟨q, o, none⟩ y).cell? ⟨b, k, none⟩ = w.cell? ⟨b, k, none⟩ := fun k => by
    unfold World.cell?
    rw [Below.heap_setCell _ _ _ _ (show b ≠ (⟨q, o, none⟩ : Addr).block from hne)]
  have := hc2 i hi
  unfold Nc at this ⊢
  simp only [e]
  exact this
theorem Tb_storeX {w : World} {q : Nat} {x : Int} {v : Value} {ty : TypeId} (h : Tb w q x v ty) (x' : Int) : Tb (w.setCell ⟨q, 0, none⟩ (.int .i64 x')) q x' v ty := by
  unfold Tb at h ⊢
  simp only [World.setCell, Array.getElem?_modify, if_true, h]
  rfl
theorem Keys_other {w : World} {v : Value} {l : List K} {q o n c : Nat} {x : Int} {a : Option Addr} {ty : TypeId} {y : Value} (h : Keys w v l) (hT : Tb w q x (.slice a n c) ty) : Keys (w.setCell ⟨q, o, none⟩ y) v l := by
  obtain ⟨a', cap, rfl, hm, hw, hc⟩ := h
  refine ⟨a', cap, rfl, hm, hw, fun hz => ?_⟩
  obtain ⟨b, off, rfl, hc2⟩ := hc hz
  have hne : b ≠ q := by
    rintro rfl
    have h0 := (hc2 0 (List.length_pos_iff.2 hz)).1
    have hT' : w.heap[b]? = _ := hT
    simp only [World.cell?, hT'] at h0
    rcases (show off + 0 * 2 = 0 ∨ off + 0 * 2 = 1 ∨ 2 ≤ off + 0 * 2 by omega) with e | e | e
    · rw [e] at h0; simp at h0
    · rw [e] at h0; simp at h0
    · rw [Array.getElem?_eq_none (by simpa using e)] at h0; cases h0
  refine ⟨b, off, rfl, fun i hi => ?_⟩
  have e : ∀ k, (w.setCell ⟨q, o, none⟩ y).cell? ⟨b, k, none⟩ = w.cell? ⟨b, k, none⟩ := fun k => by
    unfold World.cell?
    rw [Below.heap_setCell _ _ _ _ (show b ≠ (⟨q, o, none⟩ : Addr).block from hne)]
  rw [e, e]
  exact hc2 i hi
theorem new32 : newT 32 = ⟨-1, List.replicate 32 nE⟩ ∧ newE 32 = 0 := ⟨rfl, rfl⟩
theorem whole32 : Whole ⟨-1, List.replicate 32 nE⟩ .L := ⟨by decide, rfl, trivial, List.nodup_nil, fun i _ _ => by unfold T.nd; rw [List.getD, List.getElem?_replicate]; split <;> rfl⟩
theorem right0 (m : Int) : RightB m .L := ⟨rfl, List.Pairwise.nil, rfl⟩
/-- What a round comes to. -/
def Res (m : Int) (u : T) (f : Int) (ml : List K) (g : Int) : Prop := (f = 0 ∧ g = 0 ∧ u.ns.length = 32 ∧ ∃ b', Whole u b' ∧ RightB m b' ∧ ml = b'.keys) ∨ (f ≠ 0 ∧ g ≠ 0)
/-- What stands at the round's end, whatever was done. -/
def St (m : Int) (W wr : World) (q : Nat) (vs : Value) : Prop :=
  ∃ (t : T) (b : B) (a : Option Addr) (c : Nat), t.ns.length = 32 ∧ Tb wr q t.root (.slice a 32 c) 24 ∧ Nds wr (.slice a 32 c) t.ns ∧ Whole t b ∧ RightB m b ∧ Keys wr vs b.keys ∧ Below W.heap.size W wr

set_option maxHeartbeats 4000000 in
set_option maxRecDepth 100000 in
theorem walk (m : Int) (vl : Value) (zs : List Int) (W : World) (_hm : (Lit.int .u64 m).wf = true) (hl : Ints .u16 W vl zs) :
    Calls Try.prog 6 #[.int .u64 m, vl] W fun e w' => e = .returned (.bool true) ∧ Below W.heap.size W w' := by
  have HL := Lib.hid hl
  obtain ⟨al, cl, rfl, hmx, -, -⟩ := hl
  unfold maxLen at hmx
  have HAW := Lib.hid (awake_at W)
  go_enter Try.func6, Try.ntmps6
  go_wp2_with fail
  refine HAW.out.mono ?_
  rintro e' w1 ⟨rfl, hb1⟩
  have HB1 := Lib.hid hb1
  clear HAW hb1
  have HNW := Lib.hid (New_s 32 w1)
  rw [new32.1, new32.2] at HNW
  change Hid (Calls Try.prog _ _ _ fun en w' => ∃ a cap, en = .returned (.tuple #[.agg #[.int .i64 (-1), .slice a 32 cap], .int .i64 0]) ∧ Nds w' (.slice a 32 cap) (List.replicate 32 nE) ∧ Below w1.heap.size w1 w') at HNW
  go_wp2_with fail
  refine HNW.out.mono ?_
  rintro e' w2 ⟨a2, c2, rfl, hn2, hb2⟩
  have HX2 := Lib.hid ((Below.refl w2.heap.size w2).alloc (Nat.le_refl _) (.cells #[.int .i64 (-1), .slice a2 32 c2] 24))
  have HB2 := Lib.hid (bOnA (bOnA HB1.out hb2 (Nat.le_refl _)) HX2.out (Nat.le_refl _))
  have HT2 := Lib.hid (Tb.new w2 (-1) (.slice a2 32 c2) 24)
  have HN2 := Lib.hid (hn2.below HX2.out)
  have HQ2 : Hid (W.heap.size ≤ w2.heap.size) := Lib.hid (Nat.le_trans HB1.out.size hb2.size)
  clear HNW hn2 hb2 HX2 HB1
  go_upto_region 9 with fail
  generalize w2.heap.size = q at HT2 HQ2 ⊢
  generalize w2.alloc (.cells #[.int .i64 (-1), .slice a2 32 c2] 24) = w3 at HT2 HN2 HB2 ⊢
  go_loopg [8, 9] zs.length (fun gk vs i wr => ∃ j : Nat, j + gk = zs.length ∧ i = .int .i64 j ∧ Hid (St m W wr q vs))
  case atStart => exact ⟨0, by omega, rfl, Lib.hid ⟨⟨-1, List.replicate 32 nE⟩, .L, a2, c2, rfl, HT2.out, HN2.out, whole32, right0 m, nil_keys _, HB2.out⟩⟩
  case round =>
    obtain ⟨j, hj, rfl, HJ⟩ := hrel
    clear HT2 HN2 HB2
    by_cases hlt : j < zs.length ∧ j < 60
    · obtain ⟨hlt1, hlt2⟩ := hlt
      obtain ⟨t, b, a, c, ht32, hTb, hNd, hW, hR, hK, hB⟩ := HJ.out
      have H32 := Lib.hid ht32
      have HTb := Lib.hid hTb
      have HNd := Lib.hid hNd
      have HWh := Lib.hid (And.intro hW hR)
      have HK := Lib.hid hK
      have HB := Lib.hid hB
      clear HJ ht32 hTb hNd hW hR hK hB
      rcases (HL.out.below HB.out).parts with ⟨h0, -⟩ | ⟨-, -, nb, off, cl', hv, -, hcell⟩
      · rw [h0] at hlt1; simp at hlt1
      · simp only [Value.slice.injEq] at hv
        obtain ⟨rfl, -, rfl⟩ := hv
        have c1 := hcell j hlt1
        obtain ⟨z, hz⟩ : ∃ z, zs.getD j 0 = z := ⟨_, rfl⟩
        have hzw : (Lit.int .u16 z).wf = true := by
          rw [← hz]
          refine HL.out.wf _ ?_
          simp [List.getD, hlt1]
        rw [hz] at c1
        have hzb : 0 ≤ z ∧ z < 65536 := by have := bounds_u16 hzw; omega
        have HOP := Lib.hid (Op_at m z hzb.1 hzb.2 32 (by omega) (by omega) wr)
        have HID : Hid (0 ≤ (opK m z 32).2 ∧ (opK m z 32).2 < 32 ∧ Kin (opK m z 32)) := Lib.hid (by
          have h : 0 ≤ (opK m z 32).2 ∧ (opK m z 32).2 < 32 := by unfold opK; simp only; omega
          exact ⟨h.1, h.2, U_wrap _, by unfold I; omega⟩)
        generalize opB z = ob at HOP
        generalize opK m z 32 = ok at HOP HID
        have hj60 : (j : Int) < 60 := by omega
        have hjl : (j : Int) < (zs.length : Int) := by omega
        clear hcell hz hzw
        go_wp2_with fail
        refine HOP.out.mono ?_
        rintro e' w4 ⟨rfl, hb4⟩
        have HX4 := Lib.hid (hb4.alloc hb4.size (.cells #[.int .u64 ok.1, .int .i64 ok.2] 27))
        have HKB := Lib.hid (Kb.new w4 ok)
        have HTb4 := Lib.hid (HTb.out.below HX4.out HTb.out.lt)
        have HNd4 := Lib.hid (HNd.out.below HX4.out)
        have HK4 := Lib.hid (HK.out.below HX4.out)
        have HB4 := Lib.hid (bOnA HB.out HX4.out (Nat.le_refl _))
        clear HOP hb4 HX4 HTb HNd HB HK c1
        go_upto_region 12 with fail
        generalize w4.heap.size = qk at HKB ⊢
        generalize w4.alloc (.cells #[.int .u64 ok.1, .int .i64 ok.2] 27) = w5 at HKB HTb4 HNd4 HB4 HK4 ⊢
        obtain ⟨k0, k1, -, -, -⟩ := HKB.out.all
        obtain ⟨x0, x1, -, -⟩ := HTb4.out.all
        have HHAS : Hid (t.has ok.2) := Lib.hid (by unfold T.has; have := HID.out; have := H32.out; omega)
        have HKL : Hid (b.keys.length ≤ 1000) := Lib.hid (by have := HWh.out.1.size; omega)
        obtain ⟨td, ed, hD, hDR⟩ := del_any HWh.out.1 HWh.out.2 HHAS.out
        obtain ⟨ti, ei, hIn, hIR⟩ := ins_any HWh.out.1 HWh.out.2 HID.out.2.2 (Sub.keyU HNd4.out.us HWh.out.1.len HWh.out.1.sub) HHAS.out
        have HDE := Lib.hid (Delete_s HNd4.out hD)
        have HRD : Hid (Res m td ed (dropL m b.keys ok.2) (dropE m b.keys ok.2)) := Lib.hid (by
          rcases hDR with ⟨rfl, e1, bd, q1, q2, q3⟩ | ⟨rfl, e1⟩
          · exact .inl ⟨rfl, e1, (Del.len hD).trans H32.out, bd, q1, q2, q3⟩
          · exact .inr ⟨by decide, by rw [e1]; decide⟩)
        have HRI : Hid (Res m ti ei (putL m b.keys ok) (putE m b.keys ok)) := Lib.hid (by
          rcases hIR with ⟨rfl, e1, bd, q1, q2, q3⟩ | ⟨rfl, e1⟩
          · exact .inl ⟨rfl, e1, (Ins.len hIn).trans H32.out, bd, q1, q2, q3⟩
          · exact .inr ⟨by decide, by rw [e1]; decide⟩)
        have HIN := Lib.hid hIn
        clear hD hDR hIn hIR
        go_wp2_with fail
        refine HDE.out.mono ?_
        rintro e' w6 ⟨a6, c6, rfl, hn6, hb6⟩
        have HA6 := Lib.hid ((Below.refl w6.heap.size w6).alloc (Nat.le_refl _) (.cells #[.int .i64 td.root, .slice a6 td.ns.length c6] 24))
        have HX6 := Lib.hid (hb6.alloc hb6.size (.cells #[.int .i64 td.root, .slice a6 td.ns.length c6] 24))
        have HTD := Lib.hid (Tb.new w6 td.root (.slice a6 td.ns.length c6) 24)
        have HND := Lib.hid (hn6.below HA6.out)
        have HTb6 := Lib.hid (HTb4.out.below HX6.out HTb4.out.lt)
        have HNd6 := Lib.hid (HNd4.out.below HX6.out)
        have HK6 := Lib.hid (HK4.out.below HX6.out)
        have HKB6 := Lib.hid (HKB.out.below HX6.out HKB.out.lt)
        have HB6 := Lib.hid (bOnA HB4.out HX6.out (Nat.le_refl _))
        have HQD : Hid (q ≠ w6.heap.size ∧ W.heap.size ≤ w6.heap.size) := Lib.hid ⟨by have h1 := HTb4.out.lt; have h2 := hb6.size; omega, by have h1 := HB4.out.size; have h2 := hb6.size; omega⟩
        clear HDE hn6 hb6 HA6 HX6 HTb4 HNd4 HB4 HKB HK4 k0 k1 x0 x1
        go_upto_region 13 with fail
        generalize w6.heap.size = qd at HTD HQD ⊢
        generalize w6.alloc (.cells #[.int .i64 td.root, .slice a6 td.ns.length c6] 24) = w7 at HTD HND HTb6 HNd6 HK6 HKB6 HB6 ⊢
        obtain ⟨k0, k1, -, -, -⟩ := HKB6.out.all
        have HDR := Lib.hid (rdrop_any m ok.2 HK6.out HKL.out)
        go_wp2_with fail
        refine HDR.out.mono ?_
        rintro e' w8 ⟨⟨v8, rfl, hk8⟩, hb8⟩
        have HK8 := Lib.hid hk8
        have HTD8 := Lib.hid (HTD.out.below hb8 HTD.out.lt)
        have HND8 := Lib.hid (HND.out.below hb8)
        have HTb8 := Lib.hid (HTb6.out.below hb8 HTb6.out.lt)
        have HNd8 := Lib.hid (HNd6.out.below hb8)
        have HKo8 := Lib.hid (HK6.out.below hb8)
        have HKB8 := Lib.hid (HKB6.out.below hb8 HKB6.out.lt)
        have HB8 := Lib.hid (bOnA HB6.out hb8 (Nat.le_refl _))
        clear HDR hk8 hb8 HTD HND HTb6 HNd6 HK6 HKB6 HB6 k0 k1
        generalize dropE m b.keys ok.2 = gd at HRD ⊢
        generalize dropL m b.keys ok.2 = md at HRD HK8
        go_upto_if 64 with fail
        go_cut [13, 14, 15] (fun s13 s14 s15 wx => ∃ (f g : Int), s13 = .int .i64 f ∧ s15 = .int .i64 g ∧ Hid (∃ (u : T) (ml : List K) (a' : Option Addr) (c' : Nat), Res m u f ml g ∧ Tb wx qd u.root (.slice a' u.ns.length c') 24 ∧ Nds wx (.slice a' u.ns.length c') u.ns ∧ Keys wx s14 ml ∧ Tb wx q t.root (.slice a 32 c) 24 ∧ Nds wx (.slice a 32 c) t.ns ∧ Keys wx u8 b.keys ∧ Below W.heap.size W wx))
        case first =>
          cases ob with
          | false =>
            go_wp2_with fail
            go_meet
            case rel => exact ⟨_, _, rfl, rfl, Lib.hid ⟨td, md, a6, c6, HRD.out, HTD8.out, HND8.out, HK8.out, HTb8.out, HNd8.out, HKo8.out, HB8.out⟩⟩
          | true =>
            obtain ⟨k0, k1, -, -, -⟩ := HKB8.out.all
            obtain ⟨x0, x1, -, -⟩ := HTb8.out.all
            have HIS := Lib.hid (Insert_s HNd8.out HID.out.2.2 HIN.out)
            go_wp2_with fail
            refine HIS.out.mono ?_
            rintro e' w9 ⟨a9, c9, rfl, hn9, hb9⟩
            have HA9 := Lib.hid ((Below.refl w9.heap.size w9).alloc (Nat.le_refl _) (.cells #[.int .i64 ti.root, .slice a9 ti.ns.length c9] 24))
            have HX9 := Lib.hid (hb9.alloc hb9.size (.cells #[.int .i64 ti.root, .slice a9 ti.ns.length c9] 24))
            have HTI := Lib.hid (Tb.new w9 ti.root (.slice a9 ti.ns.length c9) 24)
            have HNI := Lib.hid (hn9.below HA9.out)
            have HTD9 := Lib.hid (HTD8.out.below HX9.out HTD8.out.lt)
            have HTb9 := Lib.hid (HTb8.out.below HX9.out HTb8.out.lt)
            have HNd9 := Lib.hid (HNd8.out.below HX9.out)
            have HKo9 := Lib.hid (HKo8.out.below HX9.out)
            have HKB9 := Lib.hid (HKB8.out.below HX9.out HKB8.out.lt)
            have HB9 := Lib.hid (bOnA HB8.out HX9.out (Nat.le_refl _))
            have HQI : Hid (qd ≠ w9.heap.size) := Lib.hid (by have h1 := HTD8.out.lt; have h2 := hb9.size; omega)
            clear HIS hn9 hb9 HA9 HX9 HTD8 HND8 HTb8 HNd8 HKo8 HKB8 HB8 HK8 k0 k1 x0 x1
            go_upto_region 16 with fail
            generalize w9.heap.size = qi at HTI HQI ⊢
            generalize w9.alloc (.cells #[.int .i64 ti.root, .slice a9 ti.ns.length c9] 24) = w10 at HTI HNI HTD9 HTb9 HNd9 HKo9 HKB9 HB9 ⊢
            obtain ⟨k0, k1, -, -, -⟩ := HKB9.out.all
            have HPU := Lib.hid (rputs_any m ok HID.out.2.2 HKo9.out HKL.out)
            go_wp2_with fail
            refine HPU.out.mono ?_
            rintro e' w11 ⟨⟨v11, rfl, hk11⟩, hb11⟩
            have HK11 := Lib.hid hk11
            have HTI11 := Lib.hid (HTI.out.below hb11 HTI.out.lt)
            have HNI11 := Lib.hid (HNI.out.below hb11)
            have HTD11 := Lib.hid (HTD9.out.below hb11 HTD9.out.lt)
            have HTb11 := Lib.hid (HTb9.out.below hb11 HTb9.out.lt)
            have HNd11 := Lib.hid (HNd9.out.below hb11)
            have HKo11 := Lib.hid (HKo9.out.below hb11)
            have HB11 := Lib.hid (bOnA HB9.out hb11 (Nat.le_refl _))
            clear HPU hk11 hb11 HTI HNI HTD9 HTb9 HNd9 HKo9 HKB9 HB9 k0 k1
            generalize putE m b.keys ok = gi at HRI ⊢
            generalize putL m b.keys ok = mi at HRI HK11
            obtain ⟨i0, i1, -, -⟩ := HTI11.out.all
            obtain ⟨d0, d1, d2, d3⟩ := HTD11.out.all
            have HF : Hid (∃ (u : T) (ml : List K) (a' : Option Addr) (c' : Nat), Res m u ei ml gi ∧ Tb ((w11.setCell ⟨qd, 0, none⟩ (.int .i64 ti.root)).setCell ⟨qd, 1, none⟩ (.slice a9 ti.ns.length c9)) qd u.root (.slice a' u.ns.length c') 24 ∧ Nds ((w11.setCell ⟨qd, 0, none⟩ (.int .i64 ti.root)).setCell ⟨qd, 1, none⟩ (.slice a9 ti.ns.length c9)) (.slice a' u.ns.length c') u.ns ∧ Keys ((w11.setCell ⟨qd, 0, none⟩ (.int .i64 ti.root)).setCell ⟨qd, 1, none⟩ (.slice a9 ti.ns.length c9)) v11 ml ∧ Tb ((w11.setCell ⟨qd, 0, none⟩ (.int .i64 ti.root)).setCell ⟨qd, 1, none⟩ (.slice a9 ti.ns.length c9)) q t.root (.slice a 32 c) 24 ∧ Nds ((w11.setCell ⟨qd, 0, none⟩ (.int .i64 ti.root)).setCell ⟨qd, 1, none⟩ (.slice a9 ti.ns.length c9)) (.slice a 32 c) t.ns ∧ Keys ((w11.setCell ⟨qd, 0, none⟩ (.int .i64 ti.root)).setCell ⟨qd, 1, none⟩ (.slice a9 ti.ns.length c9)) u8 b.keys ∧ Below W.heap.size W ((w11.setCell ⟨qd, 0, none⟩ (.int .i64 ti.root)).setCell ⟨qd, 1, none⟩ (.slice a9 ti.ns.length c9))) := Lib.hid (by
              have hx := Tb_storeX HTD11.out ti.root
              refine ⟨ti, mi, a9, c9, HRI.out, HTD11.out.store _ _, Nds_other (Nds_other HNI11.out HTD11.out) hx, Keys_other (Keys_other HK11.out HTD11.out) hx, ?_, Nds_other (Nds_other HNd11.out HTD11.out) hx, Keys_other (Keys_other HKo11.out HTD11.out) hx, (HB11.out.setCell (p := ⟨qd, 0, none⟩) HQD.out.2 _).setCell (p := ⟨qd, 1, none⟩) HQD.out.2 _⟩
              exact (Below.heap_setCell _ _ _ _ HQD.out.1).trans ((Below.heap_setCell _ _ _ _ HQD.out.1).trans HTb11.out))
            go_wp2_with fail
            go_meet
            case rel => exact ⟨_, _, rfl, rfl, HF⟩
        case rest =>
          obtain ⟨f, g, rfl, rfl, HR⟩ := hcut
          obtain ⟨u, ml, a', c', hres, hTu, hNu, hKu, hTt, hNt, hKt, hBt⟩ := HR.out
          have HTu := Lib.hid hTu
          have HNu := Lib.hid hNu
          have HKu := Lib.hid hKu
          have HTt := Lib.hid hTt
          have HNt := Lib.hid hNt
          have HKt := Lib.hid hKt
          have HBt := Lib.hid hBt
          clear HR hTu hNu hKu hTt hNt hKt hBt HTD8 HND8 HTb8 HNd8 HKo8 HKB8 HB8 HK8 HRD HRI HIN
          generalize wc = w12 at HTu HNu HKu HTt HNt HKt HBt ⊢
          have hgk : 0 < gk := by omega
          have hfin : ∀ (bb : Bool), (f == 0) = bb → (g == 0) = bb → True := fun _ _ _ => trivial
          clear hfin
          obtain ⟨bb, e1, e2, hway⟩ : ∃ bb : Bool, (f == 0) = bb ∧ (g == 0) = bb ∧ ((bb = true ∧ u.ns.length = 32 ∧ ∃ b', Whole u b' ∧ RightB m b' ∧ ml = b'.keys) ∨ bb = false) := by
            rcases hres with ⟨rfl, rfl, h1, h2⟩ | ⟨h1, h2⟩
            · exact ⟨true, rfl, rfl, .inl ⟨rfl, h1, h2⟩⟩
            · exact ⟨false, by rw [beq_eq_false_iff_ne]; exact h1, by rw [beq_eq_false_iff_ne]; exact h2, .inr rfl⟩
          have HWAY := Lib.hid hway
          clear hres hway
          go_upto_if 89 with fail
          go_cut [8] (fun s8 wx => Hid (St m W wx q s8))
          case first =>
            rcases HWAY.out with ⟨rfl, hl32, b', hw', hr', rfl⟩ | rfl
            · rw [hl32] at HTu HNu
              obtain ⟨y0, y1, -, -⟩ := HTu.out.all
              obtain ⟨x0, x1, x2, x3⟩ := HTt.out.all
              have HF : Hid (St m W ((w12.setCell ⟨q, 0, none⟩ (.int .i64 u.root)).setCell ⟨q, 1, none⟩ (.slice a' 32 c')) q u14) := Lib.hid (by
                have hx := Tb_storeX HTt.out u.root
                exact ⟨u, b', a', c', hl32, HTt.out.store _ _, Nds_other (Nds_other HNu.out HTt.out) hx, hw', hr', Keys_other (Keys_other HKu.out HTt.out) hx, (HBt.out.setCell (p := ⟨q, 0, none⟩) HQ2.out _).setCell (p := ⟨q, 1, none⟩) HQ2.out _⟩)
              clear HWAY hw' hr'
              go_wp2_with fail
              go_meet
              case rel => exact HF
            · have HF : Hid (St m W w12 q u8) := Lib.hid ⟨t, b, a, c, H32.out, HTt.out, HNt.out, HWh.out.1, HWh.out.2, HKt.out, HBt.out⟩
              go_wp2_with fail
              go_meet
              case rel => exact HF
          case rest =>
            obtain ⟨t2, b2, a3, c3, h1, h2, h3, h4, h5, h6, h7⟩ := hcut.out
            clear HTu HNu HKu HTt HNt HKt HBt
            generalize wc = w13 at h2 h3 h6 h7 ⊢
            have HS := Lib.hid (And.intro h1 (And.intro h2 (And.intro h3 (And.intro h4 (And.intro h5 (And.intro h6 h7))))))
            have HRT := Lib.hid (Right_at h3 (t := t2) m true (by simpa using ⟨b2, h4, h5⟩))
            unfold tv at HRT
            obtain ⟨x0, x1, -, -⟩ := h2.all
            clear h1 h2 h3 h4 h5 h6 h7
            go_wp2_with fail
            refine HRT.out.mono ?_
            rintro e' w14 ⟨rfl, hb14⟩
            obtain ⟨h1, h2, h3, h4, h5, h6, h7⟩ := HS.out
            have HT14 := Lib.hid (h2.below hb14 h2.lt)
            have HN14 := Lib.hid (h3.below hb14)
            have HK14 := Lib.hid (h6.below hb14)
            have HB14 := Lib.hid (bOnA h7 hb14 (Nat.le_refl _))
            have HW14 := Lib.hid (And.intro h1 (And.intro h4 h5))
            have HWA := Lib.hid (Walk_at HN14.out (t := t2) (.inl ⟨b2, h4, rfl⟩))
            unfold tv at HWA
            clear HS HRT hb14 h1 h2 h3 h4 h5 h6 h7 x0 x1
            obtain ⟨x0, x1, -, -⟩ := HT14.out.all
            go_wp2_with fail
            refine HWA.out.mono ?_
            rintro e' w15 ⟨⟨v15, rfl, hk15⟩, hb15⟩
            have HT15 := Lib.hid (HT14.out.below hb15 HT14.out.lt)
            have HN15 := Lib.hid (HN14.out.below hb15)
            have HK15 := Lib.hid (HK14.out.below hb15)
            have HB15 := Lib.hid (bOnA HB14.out hb15 (Nat.le_refl _))
            have HSA := Lib.hid (same_any hk15 HK15.out)
            rw [decide_eq_true rfl] at HSA
            clear HWA hk15 hb15 HT14 HN14 HK14 HB14 x0 x1
            go_wp2_with fail
            refine HSA.out.mono ?_
            rintro e' w16 ⟨rfl, hg16⟩
            have HF : Hid (St m W w16 q u8) := Lib.hid ⟨t2, b2, a3, c3, HW14.out.1, HT15.out.below hg16.below HT15.out.lt, HN15.out.below hg16.below, HW14.out.2.1, HW14.out.2.2, HK15.out.below hg16.below, bOnA HB15.out hg16.below (Nat.le_refl _)⟩
            clear HSA hg16 HT15 HN15 HK15 HB15
            go_wp2
            go_roundg (gk - 1)
            case measure => omega
            case rel => exact ⟨j + 1, by omega, by go_num, HF⟩
    · have HF := Lib.hid (show Below W.heap.size W wr from by obtain ⟨t, b, a, c, -, -, -, -, -, -, hB⟩ := HJ.out; exact hB)
      go_upto_region 9 with fail
      go_cut [36] (fun c36 wx => c36 = .bool false ∧ Hid (wx = wr))
      case first =>
        by_cases h1 : j < zs.length
        · have h2 : ¬ (j : Int) < 60 := fun h => hlt ⟨h1, by omega⟩
          go_wp2_with fail
          go_meet
          case rel => exact ⟨rfl, Lib.hid rfl⟩
        · have h2 : ¬ (j : Int) < (zs.length : Int) := by omega
          go_wp2_with fail
          go_meet
          case rel => exact ⟨rfl, Lib.hid rfl⟩
      case rest =>
        obtain ⟨rfl, HE⟩ := hcut
        have hE := HE.out
        subst hE
        go_wp2
        go_ret
        exact ⟨rfl, HF.out⟩

set_option maxRecDepth 100000 in
theorem lifted (os : Os) (started : os.Started) (H : Type) (enc : TypeId × Value → H) :
    ReturnsInHanded {} Try.checked os 6 .any (Rows.treeHoldsSpec.pre6 enc Try.prog Try.f6 Rows.treeHoldsRow.domain false) (Rows.treeHoldsSpec.post enc Try.prog Try.f6 false true false false) := by
  refine returnsInHanded_of_change (C := Try.checked) own started (by kernel_rfl) Try.func6
    (ChangeSpec.witness6 (enc := enc) (C := Try.checked) false ⟨#[], #[.int .u64 0, .slice none 0 0], []⟩ 8 (by kernel_rfl) (by kernel_rfl) (by kernel_rfl) (by kernel_rfl)) ?_
  intro W base args ds gs before hval0 hW _ _
  have hval : ∀ (j : Nat) t v, Try.f6.params[j]? = some t → args[j]? = some v → Value.okWide Try.prog W .any base t v := hval0
  have hW' := hW
  obtain ⟨p, q, hA0, hV, rfl, -, -⟩ := hW
  have hA : DataW.TrodAll enc Try.prog W 0 (fun _ => true) true Try.f6.params.toList args.toList ds p := hA0
  rw [Try.params6] at hA hval
  obtain ⟨v0, vs0, d0, ds0, p0, q0, hargs, rfl, rfl, h0, r0⟩ := trodAll_cons hA
  obtain ⟨v1, vs1, d1, ds1, p1, q1, rfl, rfl, rfl, h1, r1⟩ := trodAll_cons r0
  obtain ⟨rfl, rfl, rfl⟩ := trodAll_nil r1
  obtain rfl : args = #[v0, v1] := by cases args; simp_all
  obtain ⟨rfl, rfl⟩ := trodVars_none hV
  obtain ⟨a0, rfl, rfl, rfl, w0⟩ := open_int Try.underlying25 (hval 0 25 v0 rfl rfl) h0
  obtain ⟨a1, w1⟩ := ints_arg Try.underlying44 Try.underlying45 (by kernel_rfl) (hval 1 44 v1 rfl rfl) h1
  clear hA0 hval0
  refine (walk a0 v1 a1 W w0 w1).mono fun e W' ⟨he, hb⟩ => ?_
  subst he
  exact ⟨_, rfl, post_law laidOut (by kernel_rfl) rfl (by kernel_rfl) Try.underlying4 hW' rfl hb⟩

/-- **TreeHolds**: the given statement. -/
theorem proved : Rows.TreeHoldsSaid :=
  OpenClaim.holds_of_wide 6 Try.f6 rfl rfl rfl rfl rfl rfl rfl ⟨rfl, rfl, rfl, rfl, rfl⟩ rfl rfl rfl rfl rfl (by kernel_rfl) Try.func6 (by kernel_rfl)
    (of_decide_eq_true (by kernel_rfl)) (by unfold Func.isWrapper; first | (rw [if_pos (by decide +kernel)]; kernel_rfl) | (rw [if_neg (by decide +kernel)]; exact ⟨rfl, rfl⟩))
    (fun os started H enc _ => lifted os started H enc)
end Go.Proofs.Ytgjacmkedgbneaa.treeHolds
