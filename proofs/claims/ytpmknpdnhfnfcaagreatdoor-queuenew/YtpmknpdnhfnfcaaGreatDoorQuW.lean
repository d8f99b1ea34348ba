/-
  Contracts of the document's own New and Same, for queues.
-/
import Derived.Test.YtpmknpdnhfnfcaaGreatDoorQyL
import Derived.Test.YtpmknpdnhfnfcaaGreatDoorTyA
namespace Go.Proofs.YtpmknpdnhfnfcaaGreatDoor
open Go.RowKit Go.Sort Ky Wd Tn Tr Wg Qu

set_option maxRecDepth 100000 in
set_option maxHeartbeats 4000000 in
theorem rNew_q (n mn : Int) (hm : U mn) (W : World) :
    Calls Tryz.prog 13 #[.int .i64 n, .int .u64 mn] W fun en w' => (∃ v', en = .returned (.tuple #[v', .int .i64 (newE n)]) ∧ Qr w' v' (newQ n mn)) ∧ Below W.heap.size W w' := by
  have HZ := Lib.hid (Qb.zero W)
  have HB := Lib.hid (Gr.alloc W (.cells #[.int .i64 0, .slice none 0 0, .int .i64 0, .int .u64 0, .int .u64 0, .int .i64 0, .slice none 0 0] 28)).below
  have HNW : Hid (∀ X, Calls Tryz.prog 37 #[.int .i64 n] X fun en w' => (∃ a c, en = .returned (.tuple #[.agg #[.int .i64 (newT n).root, .slice a (newT n).ns.length c], .int .i64 (newE n)]) ∧ Nds w' (.slice a (newT n).ns.length c) (newT n).ns) ∧ Below X.heap.size X w') := Lib.hid (fun X => (rNew_at n X).mono fun en w' h => by
    obtain ⟨a, c, e, hn, hb⟩ := h
    exact ⟨⟨a, c, e, hn⟩, hb⟩)
  by_cases hn : 0 ≤ n ∧ n ≤ 64
  · obtain ⟨k, rfl⟩ : ∃ k : Nat, n = k := ⟨n.toNat, by omega⟩
    have HQ : Hid (newQ k mn = ⟨⟨-1, List.replicate k nE⟩, -1, 0, mn, 0, List.replicate k 0⟩ ∧ newE k = 0) := Lib.hid (by unfold newQ newT newE; rw [if_pos hn, if_pos hn, if_pos hn]; exact ⟨by simp, rfl⟩)
    have ET : newT k = ⟨-1, List.replicate k nE⟩ ∧ newE k = 0 := by unfold newT newE; rw [if_pos hn, if_pos hn]; exact ⟨by simp, rfl⟩
    rw [ET.1, ET.2] at HNW
    change Hid (∀ X, Calls Tryz.prog 37 #[.int .i64 k] X fun en w' => (∃ a c, en = .returned (.tuple #[.agg #[.int .i64 (-1), .slice a (List.replicate k nE).length c], .int .i64 0]) ∧ Nds w' (.slice a (List.replicate k nE).length c) (List.replicate k nE)) ∧ Below X.heap.size X w') at HNW
    rw [List.length_replicate] at HNW
    rw [HQ.out.1, HQ.out.2]
    have hk : k ≤ 64 := by omega
    obtain ⟨i, hi, hz, hs1, hs2⟩ := info_parts info_int64
    have hmk : ∀ w : World, (Instr.makeSlice 26 (.int .i64 k) (.int .i64 k)).run Tryz.prog w = .ok (.slice (some ⟨w.heap.size, 0, none⟩) k k) (w.alloc (.cells (Array.replicate k (Value.int .i64 0)) 3)) := fun w => by
      have := run_make w 26 3 i _ Tryz.underlying26 hi hz .i64 .i64 k k (by omega) (by omega) (by rw [hs2]; omega) (by omega)
      rw [hs1, Int.toNat_natCast, Nat.mul_one] at this
      have e : madeCells (Value.cells (.int .i64 0)) k = (Array.replicate k (Value.int .i64 0)) := by
        have h := toList_madeCells_one (.int .i64 0) k
        exact Array.ext' (h.trans (by simp))
      rw [e] at this
      exact this
    have hk0 : (0 : Int) ≤ k := by omega
    have hk64 : (k : Int) ≤ 64 := by omega
    have HM := Lib.hid hm
    clear hn hi hz hs1 hs2 i ET hm
    go_enter Tryz.func13, Tryz.ntmps13
    go_upto_region 1 with fail
    generalize W.alloc _ = w1 at HZ HB ⊢
    go_wp2_with fail
    refine (HNW.out w1).mono ?_
    rintro e' w2 ⟨⟨a, c, rfl, hn2⟩, hb2⟩
    have HN2 := Lib.hid hn2
    have HZ2 := Lib.hid (HZ.out.below hb2 HZ.out.lt)
    have HB2 := Lib.hid (HB.out.trans (hb2.mono HB.out.size))
    clear hn2 hb2 HZ HB HNW
    go_upto_region 4 with fail
    have HA3 := Lib.hid ((Below.refl w2.heap.size w2).alloc (Nat.le_refl _) (.cells #[.int .i64 (-1), .slice a k c] 24))
    have HT3 := Lib.hid (Tb.new w2 (-1) (.slice a k c) 24)
    have HN3 := Lib.hid (HN2.out.below HA3.out)
    have HZ3 := Lib.hid (HZ2.out.below HA3.out HZ2.out.lt)
    have HB3 := Lib.hid (HB2.out.trans (HA3.out.mono HB2.out.size))
    clear HN2 HZ2 HB2 HA3
    generalize w2.heap.size = qt at HT3 ⊢
    generalize w2.alloc (.cells #[.int .i64 (-1), .slice a k c] 24) = w3 at HT3 HN3 HZ3 HB3 ⊢
    have HA4 := Lib.hid ((Below.refl w3.heap.size w3).alloc (Nat.le_refl _) (.cells (Array.replicate k (Value.int .i64 0)) 3))
    obtain ⟨t0, t1, -, -⟩ := HT3.out.all
    obtain ⟨t2, t3, -, -⟩ := (HT3.out.below HA4.out HT3.out.lt).all
    obtain ⟨z0, z1, z2, z3, z4, z5, z6⟩ := (HZ3.out.below HA4.out HZ3.out.lt).all
    obtain ⟨y0, y1, y2, y3, y4, y5, y6⟩ := (HZ3.out.below HA4.out HZ3.out.lt).free
    have HP : Hid (Qb (putQ (w3.alloc (.cells (Array.replicate k (Value.int .i64 0)) 3)) W.heap.size (⟨⟨-1, List.replicate k nE⟩, -1, 0, mn, 0, List.replicate k 0⟩ : Q) (.slice a k c) (.slice (some ⟨w3.heap.size, 0, none⟩) k k)) W.heap.size ⟨⟨-1, List.replicate k nE⟩, -1, 0, mn, 0, List.replicate k 0⟩ (.slice a k c) (.slice (some ⟨w3.heap.size, 0, none⟩) k k) ∧ Below W.heap.size W (putQ (w3.alloc (.cells (Array.replicate k (Value.int .i64 0)) 3)) W.heap.size (⟨⟨-1, List.replicate k nE⟩, -1, 0, mn, 0, List.replicate k 0⟩ : Q) (.slice a k c) (.slice (some ⟨w3.heap.size, 0, none⟩) k k)) ∧ Qr (putQ (w3.alloc (.cells (Array.replicate k (Value.int .i64 0)) 3)) W.heap.size (⟨⟨-1, List.replicate k nE⟩, -1, 0, mn, 0, List.replicate k 0⟩ : Q) (.slice a k c) (.slice (some ⟨w3.heap.size, 0, none⟩) k k)) (qv ⟨⟨-1, List.replicate k nE⟩, -1, 0, mn, 0, List.replicate k 0⟩ (.slice a k c) (.slice (some ⟨w3.heap.size, 0, none⟩) k k)) ⟨⟨-1, List.replicate k nE⟩, -1, 0, mn, 0, List.replicate k 0⟩) := Lib.hid (by
      have hz := HZ3.out.below HA4.out HZ3.out.lt
      have hn := HN3.out.below HA4.out
      have ho : Own .i64 (w3.alloc (.cells (Array.replicate k (Value.int .i64 0)) 3)) w3.heap.size 3 (.slice (some ⟨w3.heap.size, 0, none⟩) k k) (List.replicate k 0) := by
        have := World.ownsRow_lit (base := w3.heap.size) (e := 3) (size := 1) w3 (Array.replicate k (Value.int .i64 0)) k (Nat.le_refl _) (by unfold maxLen; omega) (by simp)
        unfold Own
        simpa using this
      refine ⟨hz.putQ _ _ _, belowQ (HB3.out.trans (HA4.out.mono HB3.out.size)) (Nat.le_refl _) _ _ _, a, c, some ⟨w3.heap.size, 0, none⟩, k, ?_, ?_⟩
      · show _ = qv _ (.slice a (List.replicate k nE).length c) (.slice _ (List.replicate k (0 : Int)).length k)
        rw [List.length_replicate, List.length_replicate]
      · show Qd _ _ (.slice a (List.replicate k nE).length c) (.slice _ (List.replicate k (0 : Int)).length k)
        rw [List.length_replicate, List.length_replicate]
        refine ⟨hn.putQ (hn.off hz) _ _ _, (ho.ints (fun z hz => ?_)).putQ (ho.off HZ3.out.lt) _ _ _, (show U 0 from ⟨by decide, by decide⟩), HM.out, (show I (-1) from ⟨by decide, by decide⟩)⟩
        obtain ⟨-, rfl⟩ := List.mem_replicate.1 hz
        exact i64_wf (by omega))
    unfold putQ at HP
    dsimp only at HP
    go_region
    clear HT3 HN3 HZ3 HB3 HA4 t0 t1 t2 t3 z0 z1 z2 z3 z4 z5 z6 y0 y1 y2 y3 y4 y5 y6 hmk
    go_wp2
    obtain ⟨s0, s1, s2, s3, s4, s5, s6⟩ := HP.out.1.res
    exact bodyPost_ret (v := .tuple #[.agg #[.int .i64 (-1), .slice a k c, .int .i64 (-1), .int .u64 0, .int .u64 mn, .int .i64 0, .slice (some ⟨w3.heap.size, 0, none⟩) k k], .int .i64 0]) (by simp [results, Tryz.results13, go_sem, s0, s1, s2, s3, s4, s5, s6]) rfl ⟨⟨_, rfl, HP.out.2.2.below (Below.refl _ _).drew⟩, HP.out.2.1.drew⟩
  · have HQ : Hid (newQ n mn = qE ∧ newE n = 1) := Lib.hid (by unfold newQ newE; rw [if_neg hn, if_neg hn]; exact ⟨rfl, rfl⟩)
    have ET : newT n = ⟨0, []⟩ ∧ newE n = 1 := by unfold newT newE; rw [if_neg hn, if_neg hn]; exact ⟨rfl, rfl⟩
    rw [ET.1, ET.2] at HNW
    change Hid (∀ X, Calls Tryz.prog 37 #[.int .i64 n] X fun en w' => (∃ a c, en = .returned (.tuple #[.agg #[.int .i64 0, .slice a 0 c], .int .i64 1]) ∧ Nds w' (.slice a 0 c) []) ∧ Below X.heap.size X w') at HNW
    rw [HQ.out.1, HQ.out.2]
    clear hn ET HQ hm
    go_enter Tryz.func13, Tryz.ntmps13
    go_upto_region 1 with fail
    generalize W.alloc _ = w1 at HZ HB ⊢
    go_wp2_with fail
    refine (HNW.out w1).mono ?_
    rintro e' w2 ⟨⟨a, c, rfl, hn2⟩, hb2⟩
    have HZ2 := Lib.hid (HZ.out.below hb2 HZ.out.lt)
    have HB2 := Lib.hid (HB.out.trans (hb2.mono HB.out.size))
    clear hn2 hb2 HZ HB HNW
    have HA3 := Lib.hid ((Below.refl w2.heap.size w2).alloc (Nat.le_refl _) (.cells #[.int .i64 0, .slice a 0 c] 24))
    have HZ3 := Lib.hid (HZ2.out.below HA3.out HZ2.out.lt)
    have HB3 := Lib.hid (HB2.out.trans (HA3.out.mono HB2.out.size))
    go_upto_region 2 with fail
    clear HZ2 HB2 HA3
    generalize w2.alloc (.cells #[.int .i64 0, .slice a 0 c] 24) = w3 at HZ3 HB3 ⊢
    obtain ⟨z0, z1, z2, z3, z4, z5, z6⟩ := HZ3.out.all
    obtain ⟨y0, y1, y2, y3, y4, y5, y6⟩ := HZ3.out.free
    have HP := Lib.hid (tellE HZ3.out HB3.out (Nat.le_refl _))
    unfold putE at HP
    clear HZ3 HB3
    go_wp2
    obtain ⟨s0, s1, s2, s3, s4, s5, s6⟩ := HP.out.1
    exact bodyPost_ret (v := .tuple #[.agg #[.int .i64 0, .slice none 0 0, .int .i64 0, .int .u64 0, .int .u64 0, .int .i64 0, .slice none 0 0], .int .i64 1]) (by simp [results, Tryz.results13, go_sem, s0, s1, s2, s3, s4, s5, s6]) rfl ⟨⟨_, rfl, Qr.zero _⟩, HP.out.2⟩

set_option maxRecDepth 100000 in
set_option maxHeartbeats 4000000 in
theorem rSameQ {q : Q} {nv wv nv' wv' : Value} {W : World} (hA : Qd W q nv wv) (hB : Qd W q nv' wv') :
    Calls Tryz.prog 14 #[qv q nv wv, qv q nv' wv'] W fun e w' => e = .returned (.bool true) ∧ Below W.heap.size W w' := by
  obtain ⟨a, c, rfl, -, -⟩ := hA.nds.len
  obtain ⟨a2, c2, rfl, -, -⟩ := hB.nds.len
  have HIA := Lib.hid hA.ints
  have HIB := Lib.hid hB.ints
  obtain ⟨d, e, rfl, hm, -, -⟩ := hA.ints
  obtain ⟨d2, e2, rfl, -, -, -⟩ := hB.ints
  have HG := Lib.hid ((Gr.alloc W (qo q (.slice a q.t.ns.length c) (.slice d q.ws.length e))).trans (Gr.alloc _ (qo q (.slice a2 q.t.ns.length c2) (.slice d2 q.ws.length e2))))
  have HQ1 := Lib.hid ((Qb.new W q (.slice a q.t.ns.length c) (.slice d q.ws.length e)).gr (Gr.alloc _ (qo q (.slice a2 q.t.ns.length c2) (.slice d2 q.ws.length e2))))
  have HQ2 := Lib.hid (Qb.new (W.alloc (qo q (.slice a q.t.ns.length c) (.slice d q.ws.length e))) q (.slice a2 q.t.ns.length c2) (.slice d2 q.ws.length e2))
  rw [show (W.alloc (qo q (.slice a q.t.ns.length c) (.slice d q.ws.length e))).heap.size = W.heap.size + 1 by simp] at HQ2
  have HS := Lib.hid (rSame_eq (hA.nds.below HG.out.below) (hB.nds.below HG.out.below))
  unfold maxLen at hm
  unfold qo at HG HQ1 HQ2 HS
  clear hA hB
  unfold qv
  go_enter Tryz.func14, Tryz.ntmps14
  go_upto_region 1 with fail
  generalize hp2 : W.heap.size + 1 = p2 at HQ2 ⊢
  generalize (W.alloc _).alloc _ = w2 at HG HQ1 HQ2 HS ⊢
  obtain ⟨g0, g1, g2, g3, g4, g5, g6⟩ := HQ1.out.all
  obtain ⟨h0, h1, h2, h3, h4, h5, h6⟩ := HQ2.out.all
  go_wp2_with fail
  refine HS.out.mono ?_
  rintro e' w3 ⟨rfl, hb3⟩
  have HB3 := Lib.hid (HG.out.below.trans (hb3.mono HG.out.below.size))
  have HR1 := Lib.hid (HQ1.out.below hb3 HQ1.out.lt)
  have HR2 := Lib.hid (HQ2.out.below hb3 HQ2.out.lt)
  clear hb3 HS HQ1 HQ2 HG g0 g1 g2 g3 g4 g5 g6 h0 h1 h2 h3 h4 h5 h6
  obtain ⟨g0, g1, g2, g3, g4, g5, g6⟩ := HR1.out.all
  obtain ⟨h0, h1, h2, h3, h4, h5, h6⟩ := HR2.out.all
  go_wp2
  clear g0 g1 g2 g3 g4 g5 g6 h0 h1 h2 h3 h4 h5 h6
  go_loopw [6] (fun i wr => ∃ j : Nat, j ≤ q.ws.length ∧ i = .int .i64 j ∧ Hid (Below w3.heap.size w3 wr)) (fun i _ => q.ws.length - (intOf i).toNat)
  case atStart => exact ⟨0, by omega, rfl, Lib.hid (Below.refl _ _)⟩
  case round =>
    obtain ⟨j, hj, rfl, HJ⟩ := hrel
    obtain ⟨-, -, -, -, -, -, g6⟩ := (HR1.out.below HJ.out HR1.out.lt).all
    obtain ⟨-, -, -, -, -, -, h6⟩ := (HR2.out.below HJ.out HR2.out.lt).all
    have HBW := Lib.hid (HB3.out.trans (HJ.out.mono HB3.out.size))
    by_cases hlt : j < q.ws.length
    · rcases (HIA.out.below HBW.out).parts with ⟨e, -⟩ | ⟨-, -, b1, o1, k1, hv, -, hc1⟩
      · rw [e] at hlt; simp at hlt
      simp only [Value.slice.injEq] at hv
      obtain ⟨rfl, -, rfl⟩ := hv
      rcases (HIB.out.below HBW.out).parts with ⟨e, -⟩ | ⟨-, -, b2, o2, k2, hv, -, hc2⟩
      · rw [e] at hlt; simp at hlt
      simp only [Value.slice.injEq] at hv
      obtain ⟨rfl, -, rfl⟩ := hv
      have c1 := hc1 j hlt
      have c2 := hc2 j hlt
      generalize q.ws.getD j 0 = x at c1 c2
      clear hc1 hc2
      go_wp2_with fail
      go_region
      go_wp2
      exact ⟨⟨j + 1, by omega, by go_num, Lib.hid (by first | exact HJ.out | exact HJ.out.drew)⟩, by simp [intOf]; omega⟩
    · obtain rfl : j = q.ws.length := by omega
      go_wp2
      go_ret
      exact ⟨rfl, HBW.out⟩
end Go.Proofs.YtpmknpdnhfnfcaaGreatDoor
