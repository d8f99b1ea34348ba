/-
  Contracts of turnspitref09's paint, hang and turn.
-/
import Derived.Test.YtgjacmkedgbneaaTyB
namespace Go.Proofs.Ytgjacmkedgbneaa
open Go.RowKit Go.Sort Ky Wd Tn Tr

/-- A call tells a tree. -/
def Rt (W : World) (v : Value) (t : T) (e : Ending) (w' : World) : Prop := ∃ v', e = .returned (.agg #[.int .i64 t.root, v']) ∧ Nds w' v' t.ns ∧ Below W.heap.size W w' ∧ (v' = v ∨ Fresh W.heap.size v')
/-- A call tells a tree of its own. -/
def Rf (W : World) (t : T) (e : Ending) (w' : World) : Prop := ∃ v', e = .returned (.agg #[.int .i64 t.root, v']) ∧ Nds w' v' t.ns ∧ Below W.heap.size W w' ∧ Fresh W.heap.size v'

theorem put_rt {W : World} {v : Value} {t : T} (hN : Nds W v t.ns) (hl : t.ns.length ≤ 1000) {x : Int} (hx : t.has x) (n : N) (hU : U n.v) :
    Calls Try.prog 40 #[.agg #[.int .i64 t.root, v], .int .i64 x, nv n] W (Rf W (t.put x n)) := by
  refine (rput_at hN hl hx n hU).mono ?_
  rintro e w' ⟨a, cap, rfl, h1, h2, h3⟩
  exact ⟨_, rfl, h1, h2, h3⟩

/-- A node, just laid. -/
theorem Nb.fresh (w : World) (n : N) : Nb (w.alloc (.cells #[.bool n.inn, .bool n.red, .int .u64 n.v, .int .i64 n.l, .int .i64 n.r, .int .i64 n.u] 57)) w.heap.size [n] := by
  unfold Nb
  rw [heap_alloc_new]
  rfl
theorem Nb.fld {w : World} {g : Nat} {n : N} (h : Nb w g [n]) (m : N) (j : Nat) (hj : j < 6) (v : Value) (hv : (cellsN1 n).set j v = cellsN1 m) : Nb (w.setCell ⟨g, j, none⟩ v) g [m] := by
  have := h.set1 (k := 0) (by simp) m j hj v hv
  rw [Nat.zero_mul, Nat.zero_add] at this
  exact this
theorem U_nd {W : World} {v : Value} {t : T} (hN : Nds W v t.ns) {k : Nat} (hk : k < t.ns.length) : U (t.nd k).v := by
  refine hN.us _ ?_
  unfold T.nd
  rw [Int.toNat_natCast]
  simp [List.getD, hk]
theorem Nb.other {w : World} {g : Nat} {l : List N} (h : Nb w g l) {a : Addr} {y : Value} (hne : g ≠ a.block) : Nb (w.setCell a y) g l := (Below.heap_setCell _ _ _ _ hne).trans h
theorem Nb.below {w w' : World} {B g : Nat} {l : List N} (h : Nb w g l) (hb : Below B w w') (hg : g < B) : Nb w' g l := (hb.block g hg).trans h
theorem Nb.six {w : World} {g : Nat} {n : N} (h : Nb w g [n]) : w.cell? ⟨g, 0, none⟩ = some (.bool n.inn) ∧ w.cell? ⟨g, 1, none⟩ = some (.bool n.red) ∧ w.cell? ⟨g, 2, none⟩ = some (.int .u64 n.v) ∧ w.cell? ⟨g, 3, none⟩ = some (.int .i64 n.l) ∧ w.cell? ⟨g, 4, none⟩ = some (.int .i64 n.r) ∧ w.cell? ⟨g, 5, none⟩ = some (.int .i64 n.u) := by
  obtain ⟨n0, n1, n2, n3, n4, n5⟩ := h.nc (k := 0) (by simp)
  rw [Nat.zero_mul] at n0 n1 n2 n3 n4 n5
  exact ⟨n0, n1, n2, n3, n4, n5⟩
theorem Nds.at {w : World} {v : Value} {l : List N} (h : Nds w v l) {k : Nat} (hk : k < l.length) : ∃ nb off cap, v = .slice (some ⟨nb, off, none⟩) l.length cap ∧ l.length ≤ cap ∧ cap ≤ maxLen ∧ Nc w nb (off + k * 6) (l.getD k nE) := by
  rcases h.parts with ⟨h0, -⟩ | ⟨-, nb, off, cap, rfl, ⟨h1, h2⟩, -, h3⟩
  · rw [h0] at hk; simp at hk
  · exact ⟨nb, off, cap, rfl, h1, h2, h3 k hk⟩

theorem rpaint_none {W : World} {v : Value} {t : T} (hN : Nds W v t.ns) (b : Bool) :
    Calls Try.prog 44 #[.agg #[.int .i64 t.root, v], .int .i64 (-1), .bool b] W (Rt W v t) := by
  have HN := Lib.hid hN
  obtain ⟨a, cap, rfl, -, -⟩ := hN.len
  have HT := Lib.hid (Tb.new W t.root (.slice a t.ns.length cap) 24)
  have HT1 := Lib.hid (HT.out.below (Gr.alloc _ (.cells #[.int .i64 0, .slice none 0 0] 24)).below HT.out.lt)
  have HR1 := Lib.hid (Tb.new (W.alloc (.cells #[.int .i64 t.root, .slice a t.ns.length cap] 24)) 0 (.slice none 0 0) 24)
  rw [show (W.alloc (.cells #[.int .i64 t.root, .slice a t.ns.length cap] 24)).heap.size = W.heap.size + 1 by simp] at HR1
  have HB1 := Lib.hid (((Below.refl W.heap.size W).alloc (Nat.le_refl _) (.cells #[.int .i64 t.root, .slice a t.ns.length cap] 24)).alloc (by simp) (.cells #[.int .i64 0, .slice none 0 0] 24))
  clear hN HT
  go_enter Try.func44, Try.ntmps44
  go_upto_region 2 with fail
  generalize (W.alloc (.cells #[.int .i64 t.root, .slice a t.ns.length cap] 24)).alloc (.cells #[.int .i64 0, .slice none 0 0] 24) = w1 at HT1 HR1 HB1 ⊢
  obtain ⟨x0, x1, -, -⟩ := HT1.out.all
  obtain ⟨y0, y1, y2, y3⟩ := HR1.out.all
  have HS6 := Lib.hid (HR1.out.store t.root (.slice a t.ns.length cap)).all
  have HB6 := Lib.hid ((HB1.out.setCell (p := ⟨W.heap.size + 1, 0, none⟩) (by show W.heap.size ≤ W.heap.size + 1; omega) (.int .i64 t.root)).setCell (p := ⟨W.heap.size + 1, 1, none⟩) (by show W.heap.size ≤ W.heap.size + 1; omega) (.slice a t.ns.length cap))
  clear HT1 HR1 HB1
  go_wp2
  obtain ⟨z0, z1, -, -⟩ := HS6.out
  exact bodyPost_ret (v := .agg #[.int .i64 t.root, .slice a t.ns.length cap]) (by simp [results, Try.results44, go_sem, z0, z1]) rfl ⟨_, rfl, HN.out.below HB6.out, HB6.out, .inl rfl⟩

set_option maxHeartbeats 1000000 in
theorem rpaint_at {W : World} {v : Value} {t : T} (hN : Nds W v t.ns) (hl : t.ns.length ≤ 1000) {x : Int} (hx : t.has x) (b : Bool) :
    Calls Try.prog 44 #[.agg #[.int .i64 t.root, v], .int .i64 x, .bool b] W (Rf W (t.paint x b)) := by
  have HN := Lib.hid hN
  obtain ⟨k, rfl, hk⟩ := has_nat hx
  have HX := Lib.hid hx
  have HV : Hid (U (t.nd k).v) := Lib.hid (U_nd hN hk)
  have HPT : Hid (t.paint k b = t.put k ((t.nd k).setRed b)) := Lib.hid rfl
  obtain ⟨n, hn⟩ : ∃ n, t.nd k = n := ⟨_, rfl⟩
  rw [HPT.out, hn]
  rw [hn] at HV
  obtain ⟨nb, off, cap, rfl, hc1, hc2, -⟩ := hN.at hk
  have HT := Lib.hid (Tb.new W t.root (.slice (some ⟨nb, off, none⟩) t.ns.length cap) 24)
  have HT1 := Lib.hid (HT.out.below (Gr.alloc _ (.cells #[.int .i64 0, .slice none 0 0] 24)).below HT.out.lt)
  have HR1 := Lib.hid (Tb.new (W.alloc (.cells #[.int .i64 t.root, .slice (some ⟨nb, off, none⟩) t.ns.length cap] 24)) 0 (.slice none 0 0) 24)
  rw [show (W.alloc (.cells #[.int .i64 t.root, .slice (some ⟨nb, off, none⟩) t.ns.length cap] 24)).heap.size = W.heap.size + 1 by simp] at HR1
  have HB1 := Lib.hid (((Below.refl W.heap.size W).alloc (Nat.le_refl _) (.cells #[.int .i64 t.root, .slice (some ⟨nb, off, none⟩) t.ns.length cap] 24)).alloc (by simp) (.cells #[.int .i64 0, .slice none 0 0] 24))
  have HS1 : Hid (((W.alloc (.cells #[.int .i64 t.root, .slice (some ⟨nb, off, none⟩) t.ns.length cap] 24)).alloc (.cells #[.int .i64 0, .slice none 0 0] 24)).heap.size = W.heap.size + 2) := Lib.hid (by simp)
  clear hN HT
  go_enter Try.func44, Try.ntmps44
  go_upto_region 3 with fail
  generalize (W.alloc (.cells #[.int .i64 t.root, .slice (some ⟨nb, off, none⟩) t.ns.length cap] 24)).alloc (.cells #[.int .i64 0, .slice none 0 0] 24) = w1 at HT1 HR1 HB1 HS1 ⊢
  obtain ⟨x0, x1, -, -⟩ := HT1.out.all
  obtain ⟨nb', off', cap', he, -, -, hnc⟩ := (HN.out.below HB1.out).at hk
  simp only [Value.slice.injEq, Option.some.injEq, Addr.mk.injEq] at he
  obtain ⟨⟨rfl, rfl, -⟩, -, rfl⟩ := he
  obtain ⟨m0, m1, m2, m3, m4, m5⟩ := hnc
  have HE : Hid (t.ns.getD k nE = t.nd k) := Lib.hid (by unfold T.nd; rw [Int.toNat_natCast])
  rw [HE.out, hn] at m0 m1 m2 m3 m4 m5
  have HNF := Lib.hid (Nb.fresh w1 n)
  unfold maxLen at hc2
  clear HE HPT hn
  go_upto_region 4 with fail
  have HT2 := Lib.hid (HT1.out.below (Gr.alloc w1 (.cells #[.bool n.inn, .bool n.red, .int .u64 n.v, .int .i64 n.l, .int .i64 n.r, .int .i64 n.u] 57)).below HT1.out.lt)
  have HR2 := Lib.hid (HR1.out.below (Gr.alloc w1 (.cells #[.bool n.inn, .bool n.red, .int .u64 n.v, .int .i64 n.l, .int .i64 n.r, .int .i64 n.u] 57)).below HR1.out.lt)
  have HB2 := Lib.hid (HB1.out.alloc HB1.out.size (.cells #[.bool n.inn, .bool n.red, .int .u64 n.v, .int .i64 n.l, .int .i64 n.r, .int .i64 n.u] 57))
  clear m0 m1 m2 m3 m4 m5 x0 x1 HT1 HR1 HB1
  generalize w1.alloc (.cells #[.bool n.inn, .bool n.red, .int .u64 n.v, .int .i64 n.l, .int .i64 n.r, .int .i64 n.u] 57) = w2 at HNF HT2 HR2 HB2 ⊢
  generalize w1.heap.size = q at HS1 HNF ⊢
  obtain ⟨-, n1, -, -, -, -⟩ := HNF.out.six
  have fr := HNF.out.frozen 1
  have HN3 := Lib.hid (HNF.out.fld (n.setRed b) 1 (by omega) (.bool b) rfl)
  have HT3 := Lib.hid (HT2.out.other (a := ⟨q, 1, none⟩) (y := .bool b) (by have := HS1.out; show W.heap.size ≠ q; omega))
  have HR3 := Lib.hid (HR2.out.other (a := ⟨q, 1, none⟩) (y := .bool b) (by have := HS1.out; show W.heap.size + 1 ≠ q; omega))
  have HB3 := Lib.hid (HB2.out.setCell (p := ⟨q, 1, none⟩) (by have := HS1.out; show W.heap.size ≤ q; omega) (.bool b))
  clear HNF HT2 HR2 HB2
  go_upto_region 5 with fail
  clear n1 fr
  generalize w2.setCell ⟨q, 1, none⟩ (.bool b) = w3 at HN3 HT3 HR3 HB3 ⊢
  obtain ⟨n0, n1, n2, n3, n4, n5⟩ := HN3.out.six
  obtain ⟨x0, x1, -, -⟩ := HT3.out.all
  have HPU := Lib.hid (put_rt (HN.out.below HB3.out) hl HX.out (n.setRed b) HV.out)
  go_wp2_with fail
  refine HPU.out.mono ?_
  rintro e' w4 ⟨v', rfl, hN4, hb4, hf4⟩
  obtain ⟨a4, c4, rfl, -, -⟩ := hN4.len
  have hro : (t.put k (n.setRed b)).root = t.root := rfl
  rw [hro]
  have HL3 : Hid (W.heap.size + 2 ≤ w3.heap.size) := Lib.hid HR3.out.lt
  have HR4 := Lib.hid (HR3.out.below hb4 HR3.out.lt)
  have HB4 := Lib.hid (HB3.out.trans (hb4.mono HB3.out.size))
  have HN4 := Lib.hid hN4
  clear n0 n1 n2 n3 n4 n5 x0 x1 hN4 hb4 HPU HN3 HT3 HR3 HB3
  obtain ⟨y0, y1, y2, y3⟩ := HR4.out.all
  have HS6 := Lib.hid (HR4.out.store t.root (.slice a4 (t.put k (n.setRed b)).ns.length c4)).all
  have HF4 : Hid (Fresh (W.heap.size + 2) (.slice a4 (t.put k (n.setRed b)).ns.length c4)) := Lib.hid (hf4.mono HL3.out)
  have HN5 := Lib.hid ((HN4.out.other HF4.out (q := ⟨W.heap.size + 1, 0, none⟩) (by show W.heap.size + 1 < W.heap.size + 2; omega) (.int .i64 t.root)).other HF4.out (q := ⟨W.heap.size + 1, 1, none⟩) (by show W.heap.size + 1 < W.heap.size + 2; omega) (.slice a4 (t.put k (n.setRed b)).ns.length c4))
  clear hf4
  have HB6 := Lib.hid ((HB4.out.setCell (p := ⟨W.heap.size + 1, 0, none⟩) (by show W.heap.size ≤ W.heap.size + 1; omega) (.int .i64 t.root)).setCell (p := ⟨W.heap.size + 1, 1, none⟩) (by show W.heap.size ≤ W.heap.size + 1; omega) (.slice a4 (t.put k (n.setRed b)).ns.length c4))
  go_wp2
  obtain ⟨z0, z1, -, -⟩ := HS6.out
  exact bodyPost_ret (v := .agg #[.int .i64 t.root, (.slice a4 (t.put k (n.setRed b)).ns.length c4)]) (by simp [results, Try.results44, go_sem, z0, z1]) rfl ⟨_, rfl, HN5.out, HB6.out, HF4.out.mono (by omega)⟩
end Go.Proofs.Ytgjacmkedgbneaa
